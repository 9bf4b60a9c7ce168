/- Package fold: the walks of slices.Clone of spans and of Places. -/
import Derived.Test.YthaplnkmjggcfaaFSteps
import Derived.Test.YthaplnkmjggcfaaFSpans
namespace Go.Proofs.Ythaplnkmjggcfaa
open Go.RowKit

/-- The slice's cells, two an element, are these numbers. -/
def F.RdB (w : World) (a : Option Addr) (m : Nat) (f : Nat → Int) : Prop := ∀ j, j < m → ∃ b off, a = some ⟨b, off, none⟩ ∧ w.cell? ⟨b, off + j, none⟩ = some (.int .i64 (f j))

/-- The numbers as cells. -/
def F.cellsB (m : Nat) (f : Nat → Int) : List Value := (List.range m).map fun j => .int .i64 (f j)

set_option maxHeartbeats 1000000 in
set_option maxRecDepth 100000 in
theorem cloneB_any (b off c n : Nat) (f : Nat → Int) (w : World) (h0 : 0 < n) (h7 : n ≤ 7) (hx : F.RdB w (some ⟨b, off, none⟩) (n * 2) f) :
    Calls Try.prog 46 #[.slice (some ⟨b, off, none⟩) n c] w fun e w' => ∃ g cap, e = .returned (.slice (some ⟨g, 0, none⟩) n cap) ∧ n ≤ cap ∧ F.RdB w' (some ⟨g, 0, none⟩) (n * 2) f ∧ Below w.heap.size w w' := by
  obtain ⟨i0, hi, hz0, hz1, hz2⟩ := info_parts (show (Try.prog.info? 39).map (fun i => (i.zero, i.size, i.bytes)) = some (some (.agg #[.int .i64 0, .int .i64 0]), 2, 16) by kernel_rfl)
  have q22 : ∀ (w : World) (a : Option Addr) (n c n' c' : Nat), (binOp .eql 29 (.slice a n c) (.slice none n' c')).run Try.prog w = .ok (.bool a.isNone) w := fun w a n c n' c' => Lib.run_eql_slice_nil w _ _ a n c n' c' Try.underlying29
  have A := hid hx
  clear hx
  go_enter Try.func46, Try.ntmps46
  go_wp2_with (at_builtin; refine wpList_append_own _ rfl _ _ 29 rfl w.heap.size 39 i0 (.agg #[.int .i64 0, .int .i64 0]) 2 16 Try.underlying29 hi hz0 hz1 hz2 rfl (by decide) _ _ _ rfl (World.ownsRow_made w #[] 0 (Nat.le_refl _) (Nat.zero_le _) rfl) ⟨b, off, none⟩ n c (F.cellsB (n * 2) f) rfl ?qc1 ?qc2 ?qc3 ?qc4 ?qc5 ?qc6 ?_)
  case qc1 => simp [F.cellsB]
  case qc2 =>
    intro j u hj
    have hjn : j < n * 2 := by
      have := (List.getElem?_eq_some_iff.1 hj).1
      simpa [F.cellsB] using this
    obtain ⟨b', off', he, hc⟩ := A.out j hjn
    simp only [Option.some.injEq, Addr.mk.injEq, and_true] at he
    obtain ⟨rfl, rfl⟩ := he
    rw [Addr.add_lit]
    refine Lib.cell?_alloc_some _ ?_
    rw [hc]
    simpa [F.cellsB, hjn] using hj
  case qc3 => intro u hu; obtain ⟨x, _, rfl⟩ := List.mem_map.1 hu; rfl
  case qc4 => unfold maxLen; omega
  case qc5 => omega
  case qc6 => simp
  intro v' w1 hown hgrow hnil
  have hown2 : w1.ownsRow w.heap.size 39 2 v' n (F.cellsB (n * 2) f) := by simpa using hown
  have hv : ∃ g cap, v' = .slice (some ⟨g, 0, none⟩) n cap ∧ n ≤ cap := by
    rcases hown2.2 with ⟨_, h2⟩ | ⟨g, cap, cur, rfl, _, _, h3, _⟩
    · omega
    · exact ⟨g, cap, rfl, h3⟩
  obtain ⟨g, cap, rfl, hcap⟩ := hv
  have HR : Hid (F.RdB w1 (some ⟨g, 0, none⟩) (n * 2) f) := hid (fun j hj => by
    refine ⟨g, 0, rfl, ?_⟩
    have := World.ownsRow.cellAt hown2 j (by omega)
    rw [Nat.zero_add, this]
    simp [F.cellsB, hj])
  clear hown hown2 hnil
  have HB := hid (((Below.refl _ w).alloc (Nat.le_refl _) _).grown hgrow (by simp) (by intro k hk; simp [Value.ownBlock] at hk; omega))
  clear hgrow
  go_wp2
  go_ret
  exact ⟨g, cap, rfl, hcap, HR.out, HB.out⟩

set_option maxRecDepth 100000 in
/-- The head of an array of seven spans, sliced. -/
theorem sliceAt7 (w : World) (g n : Nat) (h : n ≤ 7) :
    (Instr.sliceAt 69 (.pointer (some ⟨g, 0, none⟩)) none (some (.int .i64 (n : Int))) none).run Try.prog w = .ok (.slice (some ⟨g, 0, none⟩) n 7) w := by
  obtain ⟨i0, hi, hz0, hz1, hz2⟩ := info_parts (show (Try.prog.info? 39).map (fun i => (i.zero, i.size, i.bytes)) = some (some (.agg #[.int .i64 0, .int .i64 0]), 2, 16) by kernel_rfl)
  have ha : Try.prog.arrayLen 69 = 7 := by kernel_rfl
  have he : Try.prog.elem 69 = 39 := by kernel_rfl
  have hu : Try.prog.underlying 69 = some (.array (Try.prog.arrayLen 69) (Try.prog.elem 69)) := by rw [ha, he]; exact Try.underlying69
  rw [run_sliceAt_array_h w 69 ⟨g, 0, none⟩ hu .i64 n (by omega) (by rw [ha]; omega), ha, he]
  have hs : (sizeOf 39).run Try.prog w = .ok 2 w := by simp [sizeOf, typeInfo, hi, hz1]
  rw [hs]
  simp [slicedAt, Addr.add]

theorem setRow_cell {w : World} {g : Nat} {old cs : Array Value} {t : TypeId} (hg : w.heap[g]? = some (.cells old t (0, 0))) (j : Nat) : (w.setRow g cs).cell? ⟨g, j, none⟩ = cs[j]? := by
  simp [World.cell?, setRow_heap w g old cs t (0, 0) hg]

/-- The spans' cells. -/
theorem F.span_cell (l : List Int) : ∀ j, j < 14 → (#[.int .i64 (F.spn l l.length 0), .int .i64 (F.spn l l.length 1), .int .i64 (F.spn l l.length 2), .int .i64 (F.spn l l.length 3), .int .i64 (F.spn l l.length 4), .int .i64 (F.spn l l.length 5), .int .i64 (F.spn l l.length 6), .int .i64 (F.spn l l.length 7), .int .i64 (F.spn l l.length 8), .int .i64 (F.spn l l.length 9), .int .i64 (F.spn l l.length 10), .int .i64 (F.spn l l.length 11), .int .i64 (F.spn l l.length 12), .int .i64 (F.spn l l.length 13)] : Array Value)[j]? = some (.int .i64 (F.spn l l.length j))
  | 0, _ => rfl
  | 1, _ => rfl
  | 2, _ => rfl
  | 3, _ => rfl
  | 4, _ => rfl
  | 5, _ => rfl
  | 6, _ => rfl
  | 7, _ => rfl
  | 8, _ => rfl
  | 9, _ => rfl
  | 10, _ => rfl
  | 11, _ => rfl
  | 12, _ => rfl
  | 13, _ => rfl
  | n + 14, h => absurd h (by omega)

set_option maxHeartbeats 2000000 in
set_option maxRecDepth 100000 in
theorem Places_any (a : Option Addr) (c : Nat) (l : List Int) (s : ByteArray) (w : World) (hm : l.length ≤ maxLen) (hsm : s.size ≤ maxLen) (hx : RdI w a l) :
    Calls Try.prog 17 #[F.strip a l.length c s] w
      fun e w' => ∃ r n cr, e = .returned (.tuple #[.slice r n cr, .int .i64 (F.check l s.data.toList)]) ∧ n = (if F.check l s.data.toList ≠ 0 then 0 else l.length) ∧ n ≤ cr ∧ F.RdB w' r (n * 2) (F.spn l l.length) ∧ Below w.heap.size w w' := by
  have hb0 : Below w.heap.size w (w.alloc (.cells #[.slice a l.length c, .string s] 24)) := (Below.refl _ _).alloc (Nat.le_refl _) _
  have k0 : (w.alloc (.cells #[.slice a l.length c, .string s] 24)).cell? ⟨w.heap.size, 0, none⟩ = some (.slice a l.length c) := by rw [World.cell?_alloc_at _ _ _ _ rfl]; rfl
  have k1 : (w.alloc (.cells #[.slice a l.length c, .string s] 24)).cell? ⟨w.heap.size, 1, none⟩ = some (.string s) := by rw [World.cell?_alloc_at _ _ _ _ rfl]; rfl
  have HB0 := hid hb0
  have HK0 := hid k0
  have HK1 := hid k1
  have HX := hid (hx.stays hb0)
  have HC := hid (foldCheck_any a c l s _ hm hsm (hx.stays hb0))
  clear hb0 hx
  by_cases h0 : F.check l s.data.toList = 0
  · obtain ⟨gl, _, g3, g4, _⟩ := F.check_good h0
    obtain ⟨_, _, gg, _⟩ := F.lens_good gl
    have HD := hid (fun w' hx' => spansOf_any a c l w' g4 gg hx')
    have HE := hid (fun b w' hx' => cloneB_any b 0 7 l.length (F.spn l l.length) w' (by omega) g4 hx')
    rw [h0] at HC ⊢
    rw [if_neg (show ¬ (0 : Int) ≠ 0 by decide)]
    clear gl gg
    unfold F.strip at HC ⊢
    unfold F.spanV at HD
    go_enter Try.func17, Try.ntmps17
    go_wp2_with fail
    clear k0 k1
    generalize w.alloc (.cells #[.slice a l.length c, .string s] 24) = w1 at *
    refine HC.out.mono ?_
    rintro e w2 ⟨rfl, hb⟩
    have k0 := cell_stays hb (Nat.le_refl _) HK0.out
    have k1 := cell_stays hb (Nat.le_refl _) HK1.out
    have HX2 := hid (HX.out.stays hb)
    have HB2 := hid (HB0.out.trans (hb.mono HB0.out.size))
    have HBL := hid hb
    clear hb HC
    go_wp2_with fail
    refine (HD.out w2 HX2.out).mono ?_
    rintro e w3 ⟨rfl, hb⟩
    have HB3 := hid (HB2.out.trans (hb.mono HB2.out.size))
    have k0 := cell_stays hb (Nat.le_refl _) k0
    clear hb
    have g0 := row14 (World.rowIs_alloc w3 _ 69 _ F.zero_at)
    have HB4 := hid (fun cs => below_setRow ((Below.refl _ w3).alloc (Nat.le_refl _) (.cells #[.int .i64 0, .int .i64 0, .int .i64 0, .int .i64 0, .int .i64 0, .int .i64 0, .int .i64 0, .int .i64 0, .int .i64 0, .int .i64 0, .int .i64 0, .int .i64 0, .int .i64 0, .int .i64 0] 69)) w3.heap.size cs (Nat.le_refl _))
    have k2 : ∀ cs, ((w3.alloc (.cells #[.int .i64 0, .int .i64 0, .int .i64 0, .int .i64 0, .int .i64 0, .int .i64 0, .int .i64 0, .int .i64 0, .int .i64 0, .int .i64 0, .int .i64 0, .int .i64 0, .int .i64 0, .int .i64 0] 69)).setRow w3.heap.size cs).cell? ⟨w.heap.size, 0, none⟩ = some (.slice a l.length c) := fun cs => cell_stays (HB4.out cs) (Nat.le_refl _) k0
    have SL := fun w g => sliceAt7 w g l.length g4
    have HG := hid (fun cs => setRow_cell (cs := cs) g0)
    go_wp2_with (refine wpList_store_row rfl 69 _ _ rfl w3.heap.size _ rfl rfl 69 _ g0 ?q1 ?q2 ?q3 ?_)
    case q1 => kernel_rfl
    case q2 => rfl
    case q3 => simp [Value.oneCell']
    clear g0 k0 k1
    refine (HE.out w3.heap.size _ (fun j hj => ⟨w3.heap.size, 0, rfl, by rw [Nat.zero_add, HG.out]; exact F.span_cell l j (by omega)⟩)).mono ?_
    rintro e w5 ⟨g, cap, rfl, hcap, hr, hb⟩
    have HR := hid hr
    have HB5 := hid ((HB3.out.trans ((HB4.out _).mono HB3.out.size)).trans (hb.mono (HB3.out.trans ((HB4.out _).mono HB3.out.size)).size))
    clear hr hb k2
    go_wp2
    go_ret2
    exact ⟨_, l.length, cap, rfl, rfl, hcap, HR.out, HB5.out⟩
  · have h0b : (F.check l s.data.toList == 0) = false := by simpa using h0
    generalize F.check l s.data.toList = q at *
    rw [if_pos (show q ≠ 0 from h0)]
    clear h0
    unfold F.strip at HC ⊢
    go_enter Try.func17, Try.ntmps17
    go_wp2_with fail
    clear k0 k1
    refine HC.out.mono ?_
    rintro e w2 ⟨rfl, hb⟩
    have HB2 := hid (HB0.out.trans (hb.mono HB0.out.size))
    clear hb HC
    go_wp2
    go_ret2
    exact ⟨none, 0, 0, rfl, rfl, Nat.le_refl _, fun j hj => by omega, HB2.out⟩

end Go.Proofs.Ythaplnkmjggcfaa
