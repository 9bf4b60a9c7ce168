/- Package repeat: Periods. -/
import Derived.Test.YtiodcgdjphmffaaBIter
import Derived.Test.YtiodcgdjphmffaaBCovs
import Derived.RangeFuncNested
namespace Go.Proofs.Ytiodcgdjphmffaa
open Go.RowKit Go.Shelf
attribute [local go_sem] Oper.semAt_some

def B.periodsV (s : ByteArray) : List Int × Int := if B.chk s = 0 then (B.sel (B.per s.data.toList) s.size, 0) else ([], B.chk s)

set_option maxRecDepth 100000 in
set_option maxHeartbeats 2000000 in
theorem periods_in (n : Nat) (hn : 3 ≤ n) (s : ByteArray) (w : World) (hm : s.size ≤ maxLen) (h0 : B.chk s = 0) :
    CallsIn Fence.wide n Try.prog 16 #[.string s] w (B.ListE (B.periodsV s).1 (B.periodsV s).2 w) := by
  have CC := hid (fun w => check_any s w hm)
  have h24 := (B.chk_zero h0).2.1
  have HV : Hid (B.periodsV s = (B.sel (B.per s.data.toList) s.size, 0)) := hid (by unfold B.periodsV; rw [if_pos h0])
  rw [h0] at CC
  rw [HV.out]
  clear h0
  have h1 : 1 ≤ n := by omega
  obtain ⟨i0, hi, hz0, hz1, hz2⟩ := info_parts (show (Try.prog.info? 3).map (fun i => (i.zero, i.size, i.bytes)) = some (some (.int .i64 0), 1, 8) by kernel_rfl)
  refine callsIn_of_wp_marks Try.func16 rfl trivial ?_ rfl
  simp only [Try.ntmps16, List.size_toArray, List.length_cons, List.length_nil, Nat.reduceAdd, Nat.reduceSub, Array.replicate_succ, Array.replicate_zero, List.push_toArray, List.append_toArray, List.nil_append, List.cons_append]
  gi_wp2_with (refine ⟨trivial, ?_⟩; first | (gi_at_call 23; refine (callsIn_wide.2 (CC.out _)).mono ?_; rintro e w1 ⟨rfl, b1⟩; replace b1 := hid b1) | (gi_at_call 47; refine (periodsOf_in _ s _).mono ?_; rintro e w' ⟨rfl, rfl⟩))
  have hs1 : w.heap.size ≤ w1.heap.size := b1.out.size
  have bO := Boxed.new w1 23 (.slice none 0 0)
  have bN := Boxed.new (w1.alloc (.cells #[.slice none 0 0] 23)) 9 (.string s)
  rw [World.size_alloc] at bN
  have hB0 : Below w.heap.size w ((w1.alloc (.cells #[.slice none 0 0] 23)).alloc (.cells #[.string s] 9)) := (b1.out.alloc hs1 _).alloc (by simp; omega) _
  have HL := hid (B.sel_len (B.per s.data.toList))
  obtain ⟨W2, hW2⟩ : ∃ W2, (w1.alloc (.cells #[.slice none 0 0] 23)).alloc (.cells #[.string s] 9) = W2 := ⟨_, rfl⟩
  have hsz : W2.heap.size = w1.heap.size + 2 := by rw [← hW2]; simp
  have bO2 : Boxed W2 w1.heap.size 23 (.slice none 0 0) := by rw [← hW2]; exact bO.alloc _
  rw [hW2] at bN hB0 ⊢
  clear hW2 bO
  refine wpIn_rangeFunc_ownG rfl h1 (gf := 65) (lb := #[.pointer (some ⟨w1.heap.size + 1, 0, none⟩)]) rfl trivial (enters_of Try.func65 (by kernel_rfl) rfl)
    (periodsOf_stops (n - 1) (by omega) (w1.heap.size + 1) s (by omega) W2 (by omega) bN.cell) B.Kc_t (B.Kc_b (by omega)) (Below.refl _ _) (fun _ => rfl)
    (fun pre W => ((∃ v, Boxed W w1.heap.size 23 v ∧ W.ownsRow w.heap.size 3 1 v pre.length (pre.map (fun (x : B.Pos) => Value.int .i64 x.1)) ∧ True) ∧ Boxed W (w1.heap.size + 1) 9 (.string s)) ∧ Below w.heap.size w W)
    (fun _ _ _ => False)
    (OwnFrom.and (OwnFrom.and (Own.from (holdsRow_own w.heap.size w1.heap.size 23 3 1 (fun (pre : List B.Pos) => pre.length) (fun (pre : List B.Pos) => pre.map (fun (x : B.Pos) => Value.int .i64 x.1)) (fun _ _ => True)) _) (Own.from (boxed_own (w1.heap.size + 1) 9 (fun (_ : List B.Pos) => .string s)) _)) (ownFrom_below (Nat.le_refl _) (by omega)))
    (fun _ _ _ _ _ hs _ _ => hs)
    ⟨⟨⟨_, bO2, World.ownsRow_nil _ _ _ _, trivial⟩, bN⟩, hB0⟩
    (fun x => { tmps := #[.string s, undef, .slice none 0 0, .int .i64 0, .int .i64 0, .pointer (some ⟨w1.heap.size, 0, none⟩), .int .i64 x.1, .string s, .int .i64 0, .int .i64 0, .bool false, undef, .string s, .func (.func 65) #[] #[.pointer (some ⟨w1.heap.size + 1, 0, none⟩)], .int .i64 x.1, undef, undef, undef, undef, undef], defers := [] }) ?assign ?body ?done ?stop
  case assign =>
    intro l x W K hK
    gi_wp2
    exact hK
  case body =>
    rintro l pre ⟨x, hx1, hx2⟩ W ⟨⟨⟨v, hv, hrow, _⟩, hbn⟩, hB⟩ hlt
    dsimp only
    have hc := hv.cell
    have hB' := hid hB
    have hBs := hB.size
    have hlv := hv.lt
    clear hB
    gi_wp2_with (gi_at_builtin; refine wpListIn_append_own _ rfl _ _ 23 rfl w.heap.size 3 i0 (.int .i64 0) 1 8 Try.underlying23 hi hz0 hz1 hz2 rfl (by decide) _ _ _ rfl (hrow.alloc _) ⟨W.heap.size, 0, none⟩ 1 1 [.int .i64 x] rfl rfl (cell_one_new _ _ _) (by simp [Value.oneCell']) (by unfold maxLen; omega) (by omega) (by simp; omega) ?_; intro v' w9 hown' hgrow _; obtain ⟨g', cap', rfl⟩ := ownsRow_succ hown'; obtain ⟨hv1, hv2, hr2, hk2, hb2⟩ := hv.appended (by decide) hrow hBs hs1 hown' hgrow; have hbn1 := (hbn.alloc _).kept hgrow (hbn.not_row (by decide) hrow); have hc1 := hv1.cell; have hf1 := hv1.frozen)
    have hbn2 := hbn1.other (B' := w1.heap.size) (by omega) (.slice (some ⟨g', 0, none⟩) (pre.length + 1) cap')
    exact ⟨hk2.from _, hbn2.cell.trans hbn.cell.symm, ⟨⟨_, hv2, by simpa using hr2, trivial⟩, hbn2⟩, hB'.out.trans hb2⟩
  case done =>
    rintro D ys W hD hys ⟨⟨⟨v, hv, hrow, _⟩, hbn⟩, hB⟩ hK
    have hlen : ys.length = (B.sel (B.per s.data.toList) s.size).length := by rw [← hys, List.length_map]
    have hmap : ys.map (fun (x : B.Pos) => Value.int .i64 x.1) = (B.sel (B.per s.data.toList) s.size).map (Value.int .i64) := by rw [← hys, List.map_map]; rfl
    rw [hlen, hmap] at hrow
    clear hlen hmap hys
    have hc := hv.cell
    obtain ⟨a, c, rfl, hrd⟩ := RowI.rd (w := W.putObj D (.deferred none)) (ownsRow_putObj hrow _ hK rfl)
    gi_wp2
    refine ⟨by simp, .inl ⟨_, _, rfl, run_takeDeferred hK, ?_⟩⟩
    exact ⟨_, results_tmp2 rfl _ _ _, a, c, rfl, hrd, hB.trans (belowK_b (w := w) (Nat.le_refl _) W D _ _ (by omega) hK rfl rfl)⟩
  case stop =>
    rintro D c pre W _ _ h _
    exact h.elim

theorem B.periods_bad (s : ByteArray) (w : World) (hm : s.size ≤ maxLen) (h0 : B.chk s ≠ 0) :
    Calls Try.prog 16 #[.string s] w (B.ListE (B.periodsV s).1 (B.periodsV s).2 w) := by
  have CC := hid (fun w => check_any s w hm)
  have HV : Hid (B.periodsV s = ([], B.chk s)) := hid (by unfold B.periodsV; rw [if_neg h0])
  have hn : (B.chk s != 0) = true := by simpa using h0
  rw [HV.out]
  clear h0
  generalize B.chk s = c at *
  go_enter Try.func16, Try.ntmps16
  go_wp2_with (refine (CC.out _).mono ?_; rintro e w1 ⟨rfl, b1⟩; replace b1 := hid b1)
  go_ret2
  exact ⟨_, _, rfl, fun k hk => absurd hk (Nat.not_lt_zero _), b1.out⟩

theorem periods_any (s : ByteArray) (w : World) (hm : s.size ≤ maxLen) :
    Calls Try.prog 16 #[.string s] w (B.ListE (B.periodsV s).1 (B.periodsV s).2 w) := by
  by_cases h0 : B.chk s = 0
  · exact (callsIn_wide (n := 3)).1 (periods_in 3 (Nat.le_refl _) s w hm h0)
  · exact B.periods_bad s w hm h0
end Go.Proofs.Ytiodcgdjphmffaa
