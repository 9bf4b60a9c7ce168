/- Package mark: slices.AppendSeq and slices.Collect over the coalitions of all sizes. -/
import Derived.Test.YthnklabdjaiplaaDoorMLeF
namespace Go.Proofs.YthnklabdjaiplaaDoor
open Go.RowKit Go.Shelf
attribute [local go_sem] Oper.semAt_some

/-- The coalitions collected. -/
def M.CE (lo s : Nat) (N most : Nat) (w : World) (e : Ending) (w' : World) : Prop := ∃ (xs : List M.Cx) (v : Value), e = .returned v ∧ xs.map (·.l) = M.all N most ∧ w'.ownsRow s 25 1 v xs.length (xs.map M.enc1) ∧ (∀ x : M.Cx, x ∈ xs → M.RC x w' ∧ s ≤ x.g) ∧ Below lo w w' ∧ w.heap.size ≤ w'.heap.size

set_option maxHeartbeats 4000000 in
set_option maxRecDepth 100000 in
theorem appendSeq_in (n : Nat) (hn : 5 ≤ n) (bm bc most N lo : Nat) (w : World) (hm : most ≤ 10) (hN : N ≤ 10) (h1 : w.cell? ⟨bm, 0, none⟩ = some (.int .i64 (most : Nat))) (h2 : w.cell? ⟨bc, 0, none⟩ = some (.int .i64 (N : Nat))) (l1 : lo ≤ bm) (l2 : lo ≤ bc) (l3 : lo ≤ w.heap.size) :
    CallsIn Fence.wide n Tryd.prog 91 #[.slice none 0 0, .func (.func 71) #[] #[.pointer (some ⟨bm, 0, none⟩), .pointer (some ⟨bc, 0, none⟩)]] w (M.CE lo w.heap.size N most w) := by
  have b1 : bm < w.heap.size := World.block_lt_of_cell? _ _ h1
  have b2 : bc < w.heap.size := World.block_lt_of_cell? _ _ h2
  obtain ⟨i1, gi, gz0, gz1, gz2⟩ := info_parts (show (Tryd.prog.info? 25).map (fun i => (i.zero, i.size, i.bytes)) = some (some (.slice none 0 0), 1, 24) by kernel_rfl)
  obtain ⟨bl, hbl⟩ : ∃ bl, w.heap.size = bl := ⟨_, rfl⟩
  obtain ⟨V0, hV0⟩ : ∃ V0, w.alloc (.cells #[.slice none 0 0] 22) = V0 := ⟨_, rfl⟩
  have hVs : V0.heap.size = bl + 1 := by rw [← hV0]; simp [hbl]
  have hVb : Below w.heap.size w V0 := by rw [← hV0]; exact (Below.refl _ _).alloc (Nat.le_refl _) _
  have hbx : Boxed V0 bl 22 (.slice none 0 0) := by rw [← hV0, ← hbl]; exact Boxed.new _ _ _
  have v1 := cell_stays hVb (Nat.le_refl _) h1
  have v2 := cell_stays hVb (Nat.le_refl _) h2
  have hV1 : ∀ o o', ((V0.alloc o).alloc o').cell? ⟨bm, 0, none⟩ = some (.int .i64 (most : Nat)) := fun o o' => Lib.cell?_alloc_some _ (Lib.cell?_alloc_some _ v1)
  have hV2 : ∀ o o', ((V0.alloc o).alloc o').cell? ⟨bc, 0, none⟩ = some (.int .i64 (N : Nat)) := fun o o' => Lib.cell?_alloc_some _ (Lib.cell?_alloc_some _ v2)
  have HCOL : Hid (M.Col bl bl (.slice none 0 0) [] V0) := hid ⟨hbx, World.ownsRow_nil _ _ _ _, fun x hx => by simp at hx⟩
  have HKP : Hid (M.Kp V0 (fun i => i < lo) (fun i => i = bm ∨ i = bc) V0) := hid (M.Kp.refl (fun i hi => by omega))
  have HKC : Hid (M.Kp V0 (M.ColE bl (.slice none 0 0) []) (fun i => i = bm ∨ i = bc) V0) := hid (M.Kp.refl (by
    rintro i (rfl | hi | ⟨x, hx, _⟩)
    · omega
    · simp [Value.ownBlock] at hi
    · simp at hx))
  have HB := hid hVb
  have HVS := hid hVs
  have HV0 := hid hV0
  have HL3 : Hid (lo ≤ bl) := hid (by omega)
  rw [hbl]
  unfold M.CE
  refine callsIn_of_wp_marks Tryd.func91 rfl trivial ?_ rfl
  simp only [Tryd.ntmps91, List.size_toArray, List.length_cons, List.length_nil, Nat.reduceAdd, Nat.reduceSub, Array.replicate_succ, Array.replicate_zero, List.push_toArray, List.append_toArray, List.nil_append, List.cons_append]
  gi_wp2_with fail
  clear hV0 hVb v1 v2 hbx h1 h2
  refine M.range rfl (by omega) (gf := 71) (lb := #[.pointer (some ⟨bm, 0, none⟩), .pointer (some ⟨bc, 0, none⟩)]) rfl trivial (enters_of Tryd.func71 (by kernel_rfl) rfl)
    (allCoalitions1_seq (n - 1) (by omega) bm bc most N hm hN) (M.RN.put N) (fun _ => rfl)
    (fun i => i = bm ∨ i = bc) (by rintro i (rfl | rfl) <;> omega) (fun o o' => ⟨.inl rfl, .inr rfl, hV1 o o', hV2 o o'⟩)
    (fun pre A X => M.Kp V0 (fun i => i < lo) A X ∧ (∀ x, x ∈ pre → bl ≤ x.g) ∧ ∃ Y v, M.Col bl bl v pre Y ∧ M.Kp Y (M.ColE bl v pre) A X)
    (fun _ _ _ _ => False)
    (fun _ _ _ _ _ h k => by
      obtain ⟨h1, h4, Y, v, h2, h3⟩ := h
      exact ⟨h1.al k, h4, Y, v, h2, h3.al k⟩) (fun _ _ _ _ _ _ h _ => h.elim)
    ⟨HKP.out, fun x hx => by simp at hx, V0, _, HCOL.out, HKC.out⟩
    (fun x => { tmps := #[.slice none 0 0, .func (.func 71) #[] #[.pointer (some ⟨bm, 0, none⟩), .pointer (some ⟨bc, 0, none⟩)], .pointer (some ⟨bl, 0, none⟩), undef, .slice none 0 0, .slice (some ⟨x.g, 0, none⟩) x.l.length x.cap, .func (.func 71) #[] #[.pointer (some ⟨bm, 0, none⟩), .pointer (some ⟨bc, 0, none⟩)], .slice (some ⟨x.g, 0, none⟩) x.l.length x.cap, undef, undef, undef, undef, undef], defers := [] })
    ?assign ?body ?done ?stop (M.RN.cells N)
  case assign =>
    intro li x X K hK
    unfold M.encC
    gi_wp2
    exact hK
  case body =>
    rintro li pre x A X ⟨hKp, hge, Y, v, hcol, hKc⟩ hR hx hAlt hlen
    have HC5 := hid (hcol.keep hKc)
    have x9 := HC5.out.box.cell
    have HKP := hid hKp
    have HKC := hid hKc
    have HGE := hid hge
    have HR := hid hR
    have HX := hid hx
    have HAL := hid hAlt
    have HLN := hid hlen
    clear hKp hKc hge hcol hR hx hAlt
    gi_wp2_with (gi_at_builtin; refine wpListIn_append_own_at _ rfl _ _ 22 rfl bl 25 i1 (.slice none 0 0) 1 24 Tryd.underlying22 gi gz0 gz1 gz2 rfl (by decide) v pre.length (pre.map M.enc1) rfl (HC5.out.row.alloc _) ⟨X.heap.size, 0, none⟩ 1 1 [M.enc1 x] rfl rfl (cell_one_new _ _ _) (by simp [Value.oneCell', M.enc1]) (by unfold maxLen; omega) (by omega) (by have := HC5.out.box.lt; simp; omega) ?_; intro v' w9 hown' hgrow _ hat; obtain ⟨g', cap', rfl⟩ := ownsRow_succ hown'; have hv1 := (HC5.out.box.appended (by decide) HC5.out.row (Nat.le_of_lt HC5.out.box.lt) (Nat.le_refl _) hown' hgrow).1; have HMO := hid (HC5.out.more HR.out.1 hown' hgrow hat (fun i hi => (HKC.out.old.1 i hi).1) (HX.out x.g rfl).1 (fun i hi => HAL.out i hi)); have hc1 := hv1.cell; have hf1 := hv1.frozen; clear hown' hgrow hat hv1)
    refine ⟨HMO.out.2.2.1, HKP.out.under HMO.out.2.2.2 (fun i hi => by have := HL3.out; omega), fun y hy => ?_, w9.setCell ⟨bl, 0, none⟩ (.slice (some ⟨g', 0, none⟩) (pre.length + 1) cap'), .slice (some ⟨g', 0, none⟩) (pre.length + 1) cap', ?_⟩
    · rcases List.mem_append.1 hy with h | h
      · exact HGE.out y h
      · rw [List.mem_singleton.1 h]
        have := (HX.out x.g rfl).2
        have := HVS.out
        omega
    · exact ⟨HMO.out.1, HMO.out.2.1⟩
  case done =>
    rintro D xs A X hAD hS ⟨hKp, hge, Y, v, hcol, hKc⟩ hAlt hD
    have hc := hcol.keep hKc
    have x9 := hc.box.cell
    have HC := hid hc
    have HKP := hid hKp
    have HGE := hid hge
    have HKC := hid hKc
    have HS := hid hS
    clear hcol hKc hc hKp hge hAlt hS
    gi_wp2
    have hal := M.shut_al (A := A) [D] X (fun E hEE => by rw [List.mem_singleton.1 hEE]; exact hAD)
    have hc2 := HC.out.keep ((M.Kp.refl (fun i hi => ⟨(HKC.out.old.1 i hi).1, HC.out.lt i hi⟩)).al hal)
    refine M.leave [D] X (fun E hEE => by rw [List.mem_singleton.1 hEE]; exact hD) (by simp) ⟨_, results_tmp rfl _ _ _, xs, v, rfl, HS.out, hc2.row, fun x hx => ⟨hc2.rc x hx, HGE.out x hx⟩, ?_, ?_⟩
    · exact (HB.out.mono l3).trans ((HKP.out.al hal).below (fun i hi => hi))
    · have := HB.out.size; have := ((HKP.out.al hal).below (fun i hi => hi)).size; omega
  case stop =>
    rintro D c' pre A X _ _ h _
    exact h.elim

set_option maxHeartbeats 1000000 in
theorem collect_in (n : Nat) (hn : 6 ≤ n) (bm bc most N lo : Nat) (w : World) (hm : most ≤ 10) (hN : N ≤ 10) (h1 : w.cell? ⟨bm, 0, none⟩ = some (.int .i64 (most : Nat))) (h2 : w.cell? ⟨bc, 0, none⟩ = some (.int .i64 (N : Nat))) (l1 : lo ≤ bm) (l2 : lo ≤ bc) (l3 : lo ≤ w.heap.size) :
    CallsIn Fence.wide n Tryd.prog 76 #[.func (.func 71) #[] #[.pointer (some ⟨bm, 0, none⟩), .pointer (some ⟨bc, 0, none⟩)]] w (M.CE lo w.heap.size N most w) := by
  have HA := hid (appendSeq_in (n - 1) (by omega) bm bc most N lo w hm hN h1 h2 l1 l2 l3)
  refine callsIn_of_wp Tryd.func76 rfl trivial ?_ rfl
  simp only [Tryd.ntmps76, List.size_toArray, List.length_cons, List.length_nil, Nat.reduceAdd, Nat.reduceSub, Array.replicate_succ, Array.replicate_zero, List.push_toArray, List.append_toArray, List.nil_append, List.cons_append]
  gi_wp2_with fail
  refine ⟨trivial, fun _ => by omega, ?_⟩
  refine HA.out.mono ?_
  rintro e w' ⟨xs, v, rfl, hr⟩
  have HR := hid hr
  clear hr
  gi_wp2
  go_ret
  exact ⟨xs, v, rfl, HR.out⟩
end Go.Proofs.YthnklabdjaiplaaDoor
