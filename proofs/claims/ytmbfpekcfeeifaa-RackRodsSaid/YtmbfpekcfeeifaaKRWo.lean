/- Package tuscheref05: the walk of without. -/
import Derived.Test.YtmbfpekcfeeifaaKNdd
import Derived.Deep.RegionHeld3
namespace Go.Proofs.Ytmbfpekcfeeifaa
open Go.RowKit

set_option maxHeartbeats 4000000 in
set_option maxRecDepth 100000 in
theorem refWithout_any (m n : Int) (a : Option Addr) (c k : Nat) (bs : List Br) (w : World) (hc1 : bs.length ≤ c) (hc2 : c ≤ maxLen) (h60 : bs.length ≤ 60) (hk : k < bs.length) (hR : RdB w a bs) :
    Calls Try.prog 58 #[K.rk m n a bs.length c, .int .i64 k] w (K.Gvn m n (K.wo bs k) w) := by
  obtain ⟨b, off, rfl, _, _, _⟩ := hR k hk
  obtain ⟨HB0, hbx⟩ := box_rackR w m n (some ⟨b, off, none⟩) c bs hR
  have HBX := hid hbx
  obtain ⟨i0, hi, hz0, hz1, hz2⟩ := info_parts (show (Try.prog.info? 64).map (fun i => (i.zero, i.size, i.bytes)) = some (some (.agg #[.int .i64 0, .int .i64 0, .int .i64 0]), 3, 24) by kernel_rfl)
  unfold maxLen at hc2
  unfold K.rk
  clear hbx hR
  have h1 : (0 : Int) ≤ (k : Int) ∧ (k : Int) ≤ (c : Int) := by omega
  have h2 : IntKind.i64.wrap ((k : Int) + 1) = ((k + 1 : Nat) : Int) := by rw [IntWalk.i64_in _ (by omega)]; rfl
  have h3 : (0 : Int) ≤ ((k + 1 : Nat) : Int) ∧ ((k + 1 : Nat) : Int) ≤ (bs.length : Int) ∧ (bs.length : Int) ≤ (c : Int) := by omega
  have h4 : ¬ c = 0 := by omega
  have h5 : (0 : Int) ≤ (k : Int) + 1 ∧ (k : Int) + 1 ≤ (bs.length : Int) ∧ (k : Int) + 1 ≤ (c : Int) ∧ (bs.length : Int) ≤ (c : Int) := by omega
  have h6 : IntKind.i64.wrap ((k : Int) + 1) = (k : Int) + 1 := IntWalk.i64_in _ (by omega)
  go_enter Try.func58, Try.ntmps58
  go_wp2
  have HB2 := hid (HB0.out.alloc (by simp) (.cells #[.int .i64 0, .int .i64 0, .slice none 0 0] 28))
  have HCL := hid (fun (W : World) (hW : Below ((w.alloc (.cells #[.int .i64 m, .int .i64 n, .slice (some ⟨b, off, none⟩) bs.length c] 28)).alloc (.cells #[.int .i64 0, .int .i64 0, .slice none 0 0] 28)).heap.size ((w.alloc (.cells #[.int .i64 m, .int .i64 n, .slice (some ⟨b, off, none⟩) bs.length c] 28)).alloc (.cells #[.int .i64 0, .int .i64 0, .slice none 0 0] 28)) W) => HBX.out W (((Below.refl _ _).alloc (Nat.le_refl _) _).trans (hW.mono (by simp))))
  have HOV := hid (World.rowIs_alloc (w.alloc (.cells #[.int .i64 m, .int .i64 n, .slice (some ⟨b, off, none⟩) bs.length c] 28)) #[.int .i64 0, .int .i64 0, .slice none 0 0] 28 (K.rkF 0 0 (.slice none 0 0)) (fun i hi => by
    have h : i < 3 := hi
    have h2 : i = 0 ∨ i = 1 ∨ i = 2 := by omega
    rcases h2 with rfl | rfl | rfl <;> rfl))
  rw [show (w.alloc (.cells #[.int .i64 m, .int .i64 n, .slice (some ⟨b, off, none⟩) bs.length c] 28)).heap.size = w.heap.size + 1 by simp] at HOV
  have HS2 : Hid (((w.alloc (.cells #[.int .i64 m, .int .i64 n, .slice (some ⟨b, off, none⟩) bs.length c] 28)).alloc (.cells #[.int .i64 0, .int .i64 0, .slice none 0 0] 28)).heap.size = w.heap.size + 1 + 1) := hid (by simp)
  generalize (w.alloc (.cells #[.int .i64 m, .int .i64 n, .slice (some ⟨b, off, none⟩) bs.length c] 28)).alloc (.cells #[.int .i64 0, .int .i64 0, .slice none 0 0] 28) = W1 at *
  have HCS := hid (fun W (hW : Below W1.heap.size W1 W) => (show W.cell? ⟨w.heap.size, 0, none⟩ = some (.int .i64 m) ∧ W.cell? ⟨w.heap.size, 1, none⟩ = some (.int .i64 n) ∧ W.cell? ⟨w.heap.size, 2, none⟩ = some (.slice (some ⟨b, off, none⟩) bs.length c) from ⟨(HCL.out W hW).1, (HCL.out W hW).2.1, (HCL.out W hW).2.2.1⟩))
  by_cases hcap : c = k + 1
  · have HC := hid hcap
    have hE : (c = k + 1) = True := eq_true hcap
    clear hcap
    have HFA := hid (fun (W : World) (hb : Below W1.heap.size W1 W) (hW : W.heap = (W1.alloc (.cells #[] 64)).heap) => show W.ownsRow W1.heap.size 64 3 (.slice (some ⟨W1.heap.size, 0, none⟩) 0 0) 0 [] ∧ (brCells (bs.take k)).length = k * 3 ∧ (∀ j u, (brCells (bs.take k))[j]? = some u → W.cell? (Addr.add ⟨b, off, none⟩ j) = some u) ∧ (∀ u ∈ brCells (bs.take k), u.oneCell' = true) ∧ 0 + k ≤ 1000 ∧ W1.heap.size ≤ W.heap.size from
      ⟨⟨rfl, Or.inr ⟨W1.heap.size, 0, #[], rfl, Nat.le_refl _, by rw [hW]; exact heap_one W1 _, Nat.le_refl _, Nat.zero_le _, rfl, rfl⟩⟩, by rw [brCells_len, List.length_take]; congr 1; omega, ((HCL.out W hb).2.2.2.1.take k).cells, brCells_one _, by omega, hb.size⟩)
    have HFB := hid (fun (W : World) (v1 : Value) (hb : Below W1.heap.size W1 W) (ho : W.ownsRow W1.heap.size 64 3 v1 (0 + k) ([] ++ brCells (bs.take k))) => show W.ownsRow W1.heap.size 64 3 v1 (0 + k) ([] ++ brCells (bs.take k)) ∧ (brCells (bs.drop (k + 1))).length = (bs.length - (k + 1)) * 3 ∧ (∀ j u, (brCells (bs.drop (k + 1)))[j]? = some u → W.cell? (Addr.add ⟨b, off, none⟩ j) = some u) ∧ (∀ u ∈ brCells (bs.drop (k + 1)), u.oneCell' = true) ∧ 0 + k + (bs.length - (k + 1)) ≤ 1000 ∧ W1.heap.size ≤ W.heap.size from
      ⟨ho, by rw [brCells_len, List.length_drop], (by intro j u hj; rw [show bs.drop (k + 1) = [] from List.drop_eq_nil_iff.2 (by have := HC.out; omega)] at hj; simp [brCells] at hj), brCells_one _, by omega, hb.size⟩)
    have HSZ : Hid (W1.heap.size ≤ (W1.alloc (.cells #[] 64)).heap.size) := hid (by simp)
    have HBK : Hid (∀ k, k < W1.heap.size → (W1.alloc (.cells #[] 64)).heap[k]? = W1.heap[k]?) := hid (fun k hk => Below.heap_alloc _ _ _ hk)
    have HCV := hid (fun (W : World) (v : Value) (h : W.ownsRow W1.heap.size 64 3 v (0 + k + (bs.length - (k + 1))) (([] ++ brCells (bs.take k)) ++ brCells (bs.drop (k + 1)))) => show RowBR W W1.heap.size v (K.wo bs k) from by
      unfold RowBR
      rw [show (K.wo bs k).length = 0 + k + (bs.length - (k + 1)) by have := K.wo_len hk; omega]
      unfold K.wo
      rw [brCells_app]
      exact h)
    have hd : Hid (Below W1.heap.size W1 W1.drew) := hid (Below.refl _ _).drew
    have q0 := HCS.out _ hd.out
    go_region_held3 (fun W => W.cell? ⟨w.heap.size, 0, none⟩ = some (.int .i64 m) ∧ W.cell? ⟨w.heap.size, 1, none⟩ = some (.int .i64 n) ∧ W.cell? ⟨w.heap.size, 2, none⟩ = some (.slice (some ⟨b, off, none⟩) bs.length c)) (first | exact HCS.out _ (Hid.out (by assumption)) | exact HCS.out _ (hd.out.alloc hd.out.size _) | exact HCS.out _ hb4.out | exact HCS.out _ hb6.out | go_keep) (first | (refine step_append_n rfl (.tmp 9) (.tmp 13) 26 (by rfl) 64 i0 (.agg #[.int .i64 0, .int .i64 0, .int .i64 0]) 3 Try.underlying26 hi hz0 hz1 (by rw [hz2]; decide) rfl (by decide) W1.heap.size (.slice (some ⟨W1.heap.size, 0, none⟩) 0 0) 0 [] (by simp [Act.eval]) ⟨b, off, none⟩ k c (brCells (bs.take k)) (by simp [Act.eval]) (HFA.out _ (by exact ⟨rfl, rfl, rfl, HSZ.out, HBK.out⟩) rfl) ?_; intro v1 wa hw1 hg1 _; have hb4 := hid (Below.grown (show Below W1.heap.size W1 _ by exact ⟨rfl, rfl, rfl, HSZ.out, HBK.out⟩) hg1 (by exact HSZ.out) (fun q hq => by cases hq; exact Nat.le_refl _)); have ho1 := hid hw1; clear hw1 hg1) | (refine step_append_n rfl (.tmp 14) (.tmp 19) 26 (by rfl) 64 i0 (.agg #[.int .i64 0, .int .i64 0, .int .i64 0]) 3 Try.underlying26 hi hz0 hz1 (by rw [hz2]; decide) rfl (by decide) W1.heap.size v1 (0 + k) ([] ++ brCells (bs.take k)) (by simp [Act.eval]) ⟨b, off, none⟩ (bs.length - (k + 1)) (c - (k + 1)) (brCells (bs.drop (k + 1))) (by simp [Act.eval]) (HFB.out _ v1 (by exact hb4.out) (by exact ho1.out)) ?_; intro v2 wb hw2 hg2 _; have hb6 := hid (Below.grown (show Below W1.heap.size W1 _ from hb4.out) hg2 (by exact hb4.out.size) (fun q hq => (World.ownsRow.lt ho1.out q hq).1)); have ho2 := hid (HCV.out _ _ hw2); clear hw2 hg2; obtain ⟨a2, c2, rfl, hl1, hl2, hrd⟩ := ho2.out.rdc; have hrd2 := hid hrd; clear hrd; have hrs := HOV.out.of_block (hb6.out.block _ HOV.out.lt); have r0 := hrs.cell (i := 0) (show _ < 3 by omega); have r1 := hrs.cell (i := 1) (show _ < 3 by omega); have r2 := hrs.cell (i := 2) (show _ < 3 by omega); have p0 := hrs.frozen 0; have p1 := hrs.frozen 1; have p2 := hrs.frozen 2))
    all_goals
      have HRW := hid (rkF_put (m := m) (n := n) (v := .slice a2 (K.wo bs k).length c2) hrs)
      have HBE := hid (((HB2.out.trans (hb6.out.mono HB2.out.size)).setCell (p := ⟨w.heap.size + 1, 0, none⟩) (Nat.le_succ _) (.int .i64 m)).setCell (p := ⟨w.heap.size + 1, 1, none⟩) (Nat.le_succ _) (.int .i64 n) |>.setCell (p := ⟨w.heap.size + 1, 2, none⟩) (Nat.le_succ _) (.slice a2 (K.wo bs k).length c2))
      have low : ∀ q, (Value.slice a2 (K.wo bs k).length c2).ownBlock = some q → w.heap.size + 1 < q := fun q hq => by have := ho2.out.lt hq; have := HS2.out; omega
      have ne : ∀ {e : Option Nat}, e = some (w.heap.size + 1) → (Value.slice a2 (K.wo bs k).length c2).ownBlock = none ∨ (Value.slice a2 (K.wo bs k).length c2).ownBlock ≠ e := fun {e} he => by
        cases hq : (Value.slice a2 (K.wo bs k).length c2).ownBlock with
        | none => exact .inl rfl
        | some q => exact .inr fun h => by rw [he] at h; have := low q hq; have := Option.some.inj h; omega
      have HRB : Hid (RowBR (((wb.setCell ⟨w.heap.size + 1, 0, none⟩ (.int .i64 m)).setCell ⟨w.heap.size + 1, 1, none⟩ (.int .i64 n)).setCell ⟨w.heap.size + 1, 2, none⟩ (.slice a2 (K.wo bs k).length c2)) W1.heap.size (.slice a2 (K.wo bs k).length c2) (K.wo bs k)) := hid (World.ownsRow.kept (World.ownsRow.kept (World.ownsRow.kept ho2.out (grown_set _ _ _) (ne rfl)) (grown_set _ _ _) (ne rfl)) (grown_set _ _ _) (ne rfl))
      clear hrs low ne
      generalize ((wb.setCell ⟨w.heap.size + 1, 0, none⟩ (.int .i64 m)).setCell ⟨w.heap.size + 1, 1, none⟩ (.int .i64 n)).setCell ⟨w.heap.size + 1, 2, none⟩ (.slice a2 (K.wo bs k).length c2) = w9 at *
      obtain ⟨a9, c9, e9, h91, h92, h9⟩ := HRB.out.rdc
      cases e9
      go_wp2
      exact bodyPost_ret (results_cell_row rfl _ _ (w.heap.size + 1) 28 _ (0, 0) _ rfl (row3 HRW.out) Try.underlying28 rfl (show (Try.prog.info? 28).map (·.size) = some 3 by kernel_rfl)) rfl ⟨_, _, rfl, h91, h92, h9, HBE.out⟩
  · have hcap2 : ¬ c - (k + 1) = 0 := by omega
    have hcap3 : ¬ c ≤ k + 1 := by omega
    have HFA := hid (fun (W : World) (hb : Below W1.heap.size W1 W) (hW : W.heap = (W1.alloc (.cells #[] 64)).heap) => show W.ownsRow W1.heap.size 64 3 (.slice (some ⟨W1.heap.size, 0, none⟩) 0 0) 0 [] ∧ (brCells (bs.take k)).length = k * 3 ∧ (∀ j u, (brCells (bs.take k))[j]? = some u → W.cell? (Addr.add ⟨b, off, none⟩ j) = some u) ∧ (∀ u ∈ brCells (bs.take k), u.oneCell' = true) ∧ 0 + k ≤ 1000 ∧ W1.heap.size ≤ W.heap.size from
      ⟨⟨rfl, Or.inr ⟨W1.heap.size, 0, #[], rfl, Nat.le_refl _, by rw [hW]; exact heap_one W1 _, Nat.le_refl _, Nat.zero_le _, rfl, rfl⟩⟩, by rw [brCells_len, List.length_take]; congr 1; omega, ((HCL.out W hb).2.2.2.1.take k).cells, brCells_one _, by omega, hb.size⟩)
    have HFB := hid (fun (W : World) (v1 : Value) (hb : Below W1.heap.size W1 W) (ho : W.ownsRow W1.heap.size 64 3 v1 (0 + k) ([] ++ brCells (bs.take k))) => show W.ownsRow W1.heap.size 64 3 v1 (0 + k) ([] ++ brCells (bs.take k)) ∧ (brCells (bs.drop (k + 1))).length = (bs.length - (k + 1)) * 3 ∧ (∀ j u, (brCells (bs.drop (k + 1)))[j]? = some u → W.cell? (Addr.add ⟨b, off + (k + 1) * 3, none⟩ j) = some u) ∧ (∀ u ∈ brCells (bs.drop (k + 1)), u.oneCell' = true) ∧ 0 + k + (bs.length - (k + 1)) ≤ 1000 ∧ W1.heap.size ≤ W.heap.size from
      ⟨ho, by rw [brCells_len, List.length_drop], ((HCL.out W hb).2.2.2.1.drop (k + 1)).cells, brCells_one _, by omega, hb.size⟩)
    have HSZ : Hid (W1.heap.size ≤ (W1.alloc (.cells #[] 64)).heap.size) := hid (by simp)
    have HBK : Hid (∀ k, k < W1.heap.size → (W1.alloc (.cells #[] 64)).heap[k]? = W1.heap[k]?) := hid (fun k hk => Below.heap_alloc _ _ _ hk)
    have HCV := hid (fun (W : World) (v : Value) (h : W.ownsRow W1.heap.size 64 3 v (0 + k + (bs.length - (k + 1))) (([] ++ brCells (bs.take k)) ++ brCells (bs.drop (k + 1)))) => show RowBR W W1.heap.size v (K.wo bs k) from by
      unfold RowBR
      rw [show (K.wo bs k).length = 0 + k + (bs.length - (k + 1)) by have := K.wo_len hk; omega]
      unfold K.wo
      rw [brCells_app]
      exact h)
    have hd : Hid (Below W1.heap.size W1 W1.drew) := hid (Below.refl _ _).drew
    have q0 := HCS.out _ hd.out
    go_region_held3 (fun W => W.cell? ⟨w.heap.size, 0, none⟩ = some (.int .i64 m) ∧ W.cell? ⟨w.heap.size, 1, none⟩ = some (.int .i64 n) ∧ W.cell? ⟨w.heap.size, 2, none⟩ = some (.slice (some ⟨b, off, none⟩) bs.length c)) (first | exact HCS.out _ (Hid.out (by assumption)) | exact HCS.out _ (hd.out.alloc hd.out.size _) | exact HCS.out _ hb4.out | exact HCS.out _ hb6.out | go_keep) (first | (refine step_append_n rfl (.tmp 9) (.tmp 13) 26 (by rfl) 64 i0 (.agg #[.int .i64 0, .int .i64 0, .int .i64 0]) 3 Try.underlying26 hi hz0 hz1 (by rw [hz2]; decide) rfl (by decide) W1.heap.size (.slice (some ⟨W1.heap.size, 0, none⟩) 0 0) 0 [] (by simp [Act.eval]) ⟨b, off, none⟩ k c (brCells (bs.take k)) (by simp [Act.eval]) (HFA.out _ (by exact ⟨rfl, rfl, rfl, HSZ.out, HBK.out⟩) rfl) ?_; intro v1 wa hw1 hg1 _; have hb4 := hid (Below.grown (show Below W1.heap.size W1 _ by exact ⟨rfl, rfl, rfl, HSZ.out, HBK.out⟩) hg1 (by exact HSZ.out) (fun q hq => by cases hq; exact Nat.le_refl _)); have ho1 := hid hw1; clear hw1 hg1) | (refine step_append_n rfl (.tmp 14) (.tmp 19) 26 (by rfl) 64 i0 (.agg #[.int .i64 0, .int .i64 0, .int .i64 0]) 3 Try.underlying26 hi hz0 hz1 (by rw [hz2]; decide) rfl (by decide) W1.heap.size v1 (0 + k) ([] ++ brCells (bs.take k)) (by simp [Act.eval]) ⟨b, off + (k + 1) * 3, none⟩ (bs.length - (k + 1)) (c - (k + 1)) (brCells (bs.drop (k + 1))) (by simp [Act.eval]) (HFB.out _ v1 (by exact hb4.out) (by exact ho1.out)) ?_; intro v2 wb hw2 hg2 _; have hb6 := hid (Below.grown (show Below W1.heap.size W1 _ from hb4.out) hg2 (by exact hb4.out.size) (fun q hq => (World.ownsRow.lt ho1.out q hq).1)); have ho2 := hid (HCV.out _ _ hw2); clear hw2 hg2; obtain ⟨a2, c2, rfl, hl1, hl2, hrd⟩ := ho2.out.rdc; have hrd2 := hid hrd; clear hrd; have hrs := HOV.out.of_block (hb6.out.block _ HOV.out.lt); have r0 := hrs.cell (i := 0) (show _ < 3 by omega); have r1 := hrs.cell (i := 1) (show _ < 3 by omega); have r2 := hrs.cell (i := 2) (show _ < 3 by omega); have p0 := hrs.frozen 0; have p1 := hrs.frozen 1; have p2 := hrs.frozen 2))
    all_goals
      have HRW := hid (rkF_put (m := m) (n := n) (v := .slice a2 (K.wo bs k).length c2) hrs)
      have HBE := hid (((HB2.out.trans (hb6.out.mono HB2.out.size)).setCell (p := ⟨w.heap.size + 1, 0, none⟩) (Nat.le_succ _) (.int .i64 m)).setCell (p := ⟨w.heap.size + 1, 1, none⟩) (Nat.le_succ _) (.int .i64 n) |>.setCell (p := ⟨w.heap.size + 1, 2, none⟩) (Nat.le_succ _) (.slice a2 (K.wo bs k).length c2))
      have low : ∀ q, (Value.slice a2 (K.wo bs k).length c2).ownBlock = some q → w.heap.size + 1 < q := fun q hq => by have := ho2.out.lt hq; have := HS2.out; omega
      have ne : ∀ {e : Option Nat}, e = some (w.heap.size + 1) → (Value.slice a2 (K.wo bs k).length c2).ownBlock = none ∨ (Value.slice a2 (K.wo bs k).length c2).ownBlock ≠ e := fun {e} he => by
        cases hq : (Value.slice a2 (K.wo bs k).length c2).ownBlock with
        | none => exact .inl rfl
        | some q => exact .inr fun h => by rw [he] at h; have := low q hq; have := Option.some.inj h; omega
      have HRB : Hid (RowBR (((wb.setCell ⟨w.heap.size + 1, 0, none⟩ (.int .i64 m)).setCell ⟨w.heap.size + 1, 1, none⟩ (.int .i64 n)).setCell ⟨w.heap.size + 1, 2, none⟩ (.slice a2 (K.wo bs k).length c2)) W1.heap.size (.slice a2 (K.wo bs k).length c2) (K.wo bs k)) := hid (World.ownsRow.kept (World.ownsRow.kept (World.ownsRow.kept ho2.out (grown_set _ _ _) (ne rfl)) (grown_set _ _ _) (ne rfl)) (grown_set _ _ _) (ne rfl))
      clear hrs low ne
      generalize ((wb.setCell ⟨w.heap.size + 1, 0, none⟩ (.int .i64 m)).setCell ⟨w.heap.size + 1, 1, none⟩ (.int .i64 n)).setCell ⟨w.heap.size + 1, 2, none⟩ (.slice a2 (K.wo bs k).length c2) = w9 at *
      obtain ⟨a9, c9, e9, h91, h92, h9⟩ := HRB.out.rdc
      cases e9
      go_wp2
      exact bodyPost_ret (results_cell_row rfl _ _ (w.heap.size + 1) 28 _ (0, 0) _ rfl (row3 HRW.out) Try.underlying28 rfl (show (Try.prog.info? 28).map (·.size) = some 3 by kernel_rfl)) rfl ⟨_, _, rfl, h91, h92, h9, HBE.out⟩
end Go.Proofs.Ytmbfpekcfeeifaa
