/- Package tuschelaw05: given, with the braces in a row of its own. -/
import Derived.Test.YtmbfpekcfeeifaaKGiven
namespace Go.Proofs.Ytmbfpekcfeeifaa
open Go.RowKit

theorem RowBR.mono {w : World} {lo lo' : Nat} {v : Value} {bs : List Br} (h : RowBR w lo v bs) (hb : lo' ≤ lo) : RowBR w lo' v bs :=
  ⟨h.1, h.2.imp id fun ⟨g, cap, cur, e, hg, r⟩ => ⟨g, cap, cur, e, Nat.le_trans hb hg, r⟩⟩
def K.Gvo (m n : Int) (bs : List Br) (w : World) (e : Ending) (w' : World) : Prop := ∃ a c, e = .returned (K.rk m n a bs.length c) ∧ RowBR w' w.heap.size (.slice a bs.length c) bs ∧ Below w.heap.size w w'
set_option maxHeartbeats 4000000 in
set_option maxRecDepth 100000 in
theorem given_own (m n : Int) (a : Option Addr) (c : Nat) (bs : List Br) (w : World) (hm : bs.length ≤ 60) (hR : RdB w a bs) :
    Calls Try.prog 16 #[K.rk m n a bs.length c] w (K.Gvo m n bs w) := by
  obtain ⟨HB0, hbx⟩ := box_rack w m n a c bs hR
  have HBX := hid hbx
  clear hbx hR
  obtain ⟨i0, hi, hz0, hz1, hz2⟩ := info_parts (show (Try.prog.info? 64).map (fun i => (i.zero, i.size, i.bytes)) = some (some (.agg #[.int .i64 0, .int .i64 0, .int .i64 0]), 3, 24) by kernel_rfl)
  have HS1 : Hid ((w.alloc (.cells #[.int .i64 m, .int .i64 n, .slice a bs.length c] 24)).heap.size = w.heap.size + 1) := hid (by simp)
  have hb1 := HBX.out _ (Below.refl _ _)
  obtain ⟨k0, k1, k2, _, _, hsz⟩ := hb1
  unfold K.rk
  go_enter Try.func16, Try.ntmps16
  go_wp2
  have HB2 := hid (HB0.out.alloc (by rw [HS1.out]; exact Nat.le_succ _) (.cells #[.int .i64 0, .int .i64 0, .slice none 0 0] 28))
  have HBY := hid (fun w' (hb : Below ((w.alloc (.cells #[.int .i64 m, .int .i64 n, .slice a bs.length c] 24)).alloc (.cells #[.int .i64 0, .int .i64 0, .slice none 0 0] 28)).heap.size ((w.alloc (.cells #[.int .i64 m, .int .i64 n, .slice a bs.length c] 24)).alloc (.cells #[.int .i64 0, .int .i64 0, .slice none 0 0] 28)) w') => HBX.out w' (((Below.refl _ _).alloc (Nat.le_refl _) _).trans (hb.mono (by simp))))
  have HRES := hid (World.rowIs_alloc (w.alloc (.cells #[.int .i64 m, .int .i64 n, .slice a bs.length c] 24)) #[.int .i64 0, .int .i64 0, .slice none 0 0] 28 (K.rkF 0 0 (.slice none 0 0)) (fun i hi => by
    have h : i < 3 := hi
    have h2 : i = 0 ∨ i = 1 ∨ i = 2 := by omega
    rcases h2 with rfl | rfl | rfl <;> rfl))
  rw [HS1.out] at HRES
  have HS2 : Hid (((w.alloc (.cells #[.int .i64 m, .int .i64 n, .slice a bs.length c] 24)).alloc (.cells #[.int .i64 0, .int .i64 0, .slice none 0 0] 28)).heap.size = w.heap.size + 1 + 1) := hid (by simp)
  generalize (w.alloc (.cells #[.int .i64 m, .int .i64 n, .slice a bs.length c] 24)).alloc (.cells #[.int .i64 0, .int .i64 0, .slice none 0 0] 28) = W2 at *
  have HRV := hid (K.RVR.start (w0 := W2) (m := m) (n := n) (Below.refl _ W2))
  rw [← HS2.out]
  generalize W2.alloc (.cells #[.int .i64 m, .int .i64 n, .slice none 0 0] 28) = w3 at *
  clear HBX k0 k1 k2 hsz
  go_loopw [4] (fun s wr => ∃ k : Nat, k ≤ bs.length ∧ s = .int .i64 k ∧ ∃ bv, K.RVR W2 wr W2.heap.size m n bv (bs.take k)) (fun s _ => bs.length - (intOf s).toNat)
  case atStart => exact ⟨0, Nat.zero_le _, rfl, _, HRV.out⟩
  case round =>
    clear HRV
    obtain ⟨k, hk, rfl, bv, hrv⟩ := hrel
    have HRV := hid hrv
    obtain ⟨k0, k1, k2, hrb, hbw, hsz⟩ := HBY.out wr hrv.below
    clear hrv hbw k0 k1
    by_cases hlt : k < bs.length
    · obtain ⟨b, off, rfl, c1, c2, c3⟩ := hrb k hlt
      have HTK : Hid (bs.take (k + 1) = bs.take k ++ [bs[k]]) := hid (List.take_succ_eq_append_getElem hlt)
      have hlen : (bs.take k).length = k := by rw [List.length_take]; omega
      generalize bs[k] = br at *
      obtain ⟨x, y, z⟩ := br
      simp only at c1 c2 c3
      have hix : (0 : Int) ≤ (k : Int) ∧ (k : Int) < (bs.length : Int) := by omega
      have HLEN := hid hlen
      clear hlen hrb
      have v2 := HRV.out.c2
      have g1 : W2.heap.size < wr.heap.size := HRV.out.var.lt
      have f2 := HRV.out.var.frozen 2
      have HSZ : Hid (wr.heap.size ≤ (wr.alloc (.cells #[.int .i64 x, .int .i64 y, .int .i64 z] 64)).heap.size) := hid (by simp)
      have HBK : Hid (∀ k, k < wr.heap.size → (wr.alloc (.cells #[.int .i64 x, .int .i64 y, .int .i64 z] 64)).heap[k]? = wr.heap[k]?) := hid (fun k hk => Below.heap_alloc _ _ _ hk)
      have FI := hid (fun (W : World) (hW : Below wr.heap.size wr W) => HRV.out.grown hW)
      have FA := hid (show ∀ W : World, Below wr.heap.size wr W → W.heap = (wr.alloc (.cells #[.int .i64 x, .int .i64 y, .int .i64 z] 64)).heap → W.ownsRow (W2.heap.size + 1) 64 3 bv (bs.take k).length (brCells (bs.take k)) ∧ [Value.int .i64 x, Value.int .i64 y, Value.int .i64 z].length = 1 * 3 ∧ (∀ k u, [Value.int .i64 x, Value.int .i64 y, Value.int .i64 z][k]? = some u → W.cell? ((⟨wr.heap.size, 0, none⟩ : Addr).add k) = some u) ∧ (∀ u ∈ [Value.int .i64 x, Value.int .i64 y, Value.int .i64 z], u.oneCell' = true) ∧ (bs.take k).length + 1 ≤ 1000 ∧ W2.heap.size + 1 ≤ W.heap.size from fun W hb hW => by
        have hI := HRV.out.grown hb
        refine ⟨hI.row, rfl, ?_, fun u hu => by simp at hu; rcases hu with rfl | rfl | rfl <;> rfl, by rw [HLEN.out]; omega, hI.var.lt⟩
        intro k u hk
        match k, hk with
        | 0, hk =>
          simp at hk; subst hk
          rw [Addr.add_lit, World.cell?_of_block (w := wr.alloc (.cells #[.int .i64 x, .int .i64 y, .int .i64 z] 64)) (by rw [hW]), World.cell?_alloc_at _ _ _ _ rfl]
          rfl
        | 1, hk =>
          simp at hk; subst hk
          rw [Addr.add_lit, World.cell?_of_block (w := wr.alloc (.cells #[.int .i64 x, .int .i64 y, .int .i64 z] 64)) (by rw [hW]), World.cell?_alloc_at _ _ _ _ rfl]
          rfl
        | 2, hk =>
          simp at hk; subst hk
          rw [Addr.add_lit, World.cell?_of_block (w := wr.alloc (.cells #[.int .i64 x, .int .i64 y, .int .i64 z] 64)) (by rw [hW]), World.cell?_alloc_at _ _ _ _ rfl]
          rfl)
      go_wp2
      go_region_law first | (refine step_append_n rfl (.tmp 18) (.tmp 24) 26 (by rfl) 64 i0 (.agg #[.int .i64 0, .int .i64 0, .int .i64 0]) 3 Try.underlying26 hi hz0 hz1 (by rw [hz2]; decide) rfl (by decide) (W2.heap.size + 1) bv (bs.take k).length (brCells (bs.take k)) (by simp [Act.eval]) ⟨wr.heap.size, 0, none⟩ 1 1 [Value.int .i64 x, Value.int .i64 y, Value.int .i64 z] (by simp [Act.eval]) (FA.out _ (by exact ⟨rfl, rfl, rfl, HSZ.out, HBK.out⟩) rfl) ?_; intro v' w8 ho1 hg1 _; obtain ⟨g', cap', rfl, q1, q2, q3, HI9⟩ := (FI.out _ (by exact ⟨rfl, rfl, rfl, HSZ.out, HBK.out⟩)).push HTK.out ho1 hg1; clear ho1 hg1)
      all_goals
        go_wp2
        go_roundw
        case rel => exact ⟨k + 1, by omega, by go_num, _, by have h := HI9.out; rw [HLEN.out] at h; exact h⟩
        case measure => simp [intOf]; omega
    · have hke : bs.length = k := by omega
      subst hke
      rw [List.take_length] at HRV
      obtain ⟨av, cv, rfl, hrd⟩ := HRV.out.row.rd
      have v0 := HRV.out.c0
      have v1 := HRV.out.c1
      have v2 := HRV.out.c2
      have g1 : W2.heap.size < wr.heap.size := HRV.out.var.lt
      have hrs := HRES.out.of_block (HRV.out.below.block _ HRES.out.lt)
      have r0 := hrs.cell (i := 0) (by simp)
      have r1 := hrs.cell (i := 1) (by simp)
      have r2 := hrs.cell (i := 2) (by simp)
      have q0 := hrs.frozen 0
      have q1 := hrs.frozen 1
      have q2 := hrs.frozen 2
      have HRW := hid (rkF_put (m := m) (n := n) (v := .slice av bs.length cv) hrs)
      have HBE := hid (((HB2.out.trans (HRV.out.below.mono HB2.out.size)).setCell (p := ⟨w.heap.size + 1, 0, none⟩) (Nat.le_succ _) (.int .i64 m)).setCell (p := ⟨w.heap.size + 1, 1, none⟩) (Nat.le_succ _) (.int .i64 n) |>.setCell (p := ⟨w.heap.size + 1, 2, none⟩) (Nat.le_succ _) (.slice av bs.length cv))
      have low : ∀ q, (Value.slice av bs.length cv).ownBlock = some q → w.heap.size + 1 < q := fun q hq => by have := HRV.out.row.lt hq; have := HS2.out; omega
      have ne : ∀ {e : Option Nat}, e = some (w.heap.size + 1) → (Value.slice av bs.length cv).ownBlock = none ∨ (Value.slice av bs.length cv).ownBlock ≠ e := fun {e} he => by
        cases hq : (Value.slice av bs.length cv).ownBlock with
        | none => exact .inl rfl
        | some q => exact .inr fun h => by rw [he] at h; have := low q hq; have := Option.some.inj h; omega
      have HRB : Hid (RowBR (((wr.setCell ⟨w.heap.size + 1, 0, none⟩ (.int .i64 m)).setCell ⟨w.heap.size + 1, 1, none⟩ (.int .i64 n)).setCell ⟨w.heap.size + 1, 2, none⟩ (.slice av bs.length cv)) (W2.heap.size + 1) (.slice av bs.length cv) bs) := hid (World.ownsRow.kept (World.ownsRow.kept (World.ownsRow.kept HRV.out.row (grown_set _ _ _) (ne rfl)) (grown_set _ _ _) (ne rfl)) (grown_set _ _ _) (ne rfl))
      have hnp : W2.heap.size ≠ w.heap.size + 1 := by have := HS2.out; omega
      have hpn : w.heap.size + 1 ≠ W2.heap.size := fun e => hnp e.symm
      clear hrs hrd low ne
      go_wp2
      generalize ((wr.setCell ⟨w.heap.size + 1, 0, none⟩ (.int .i64 m)).setCell ⟨w.heap.size + 1, 1, none⟩ (.int .i64 n)).setCell ⟨w.heap.size + 1, 2, none⟩ (.slice av bs.length cv) = w9 at *
      obtain ⟨a9, c9, e9, h91, h92, h9⟩ := HRB.out.rdc
      cases e9
      exact bodyPost_ret (results_cell_row rfl _ _ (w.heap.size + 1) 28 _ (0, 0) _ rfl (row3 HRW.out) Try.underlying28 rfl (show (Try.prog.info? 28).map (·.size) = some 3 by kernel_rfl)) rfl ⟨_, _, rfl, HRB.out.mono (by have := HS2.out; have := HBE.out.size; omega), HBE.out⟩
end Go.Proofs.Ytmbfpekcfeeifaa
