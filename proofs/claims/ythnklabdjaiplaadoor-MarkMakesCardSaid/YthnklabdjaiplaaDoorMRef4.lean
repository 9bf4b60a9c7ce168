/- Package tuscheref09: the walks of Makes and Copies. -/
import Derived.Test.YthnklabdjaiplaaDoorMRef3
namespace Go.Proofs.YthnklabdjaiplaaDoor
open Go.RowKit

theorem M.mk_of {m : Int} {T : List (List Int)} {l wd : List Int} (h : M.Ok m T) (hl : M.Co T.length l) (hln : l.length ≤ maxLen) (hw : M.wd m (M.pl T) wd = 0) : M.Mk T l wd :=
  ⟨by have := h.n10; omega, h.len, hln, hl.rg, (M.wd_zero.1 hw).1, by have := h.p8; omega⟩

set_option maxHeartbeats 4000000 in
theorem refMakes_any (m : Int) (a : Option Addr) (c : Nat) (T : List (List Int)) (al : Option Addr) (cl : Nat) (l : List Int) (aw : Option Addr) (cw : Nat) (wd : List Int) (w : World) (hm : T.length ≤ maxLen) (hml : ∀ i, i < T.length → (T.getD i []).length ≤ maxLen) (hll : l.length ≤ maxLen) (hwl : wd.length ≤ maxLen) (hT : RdM w a T) (hl : RdI w al l) (hw : RdI w aw wd) :
    Calls Tryd.prog 19 #[M.cv m a T.length c, .slice al l.length cl, .slice aw wd.length cw] w fun e w' => e = .returned (.int .i64 (M.mks m T l wd)) ∧ Below w.heap.size w w' := by
  obtain ⟨W, hW, c0, c1, hB, hlt⟩ := M.newT w 28 (.int .i64 m) (.slice a T.length c)
  have HB := hid hB
  have HT := hid (hT.stays hB)
  have HL := hid (hl.stays hB)
  have HWD := hid (hw.stays hB)
  have HC := hid (refCheck_any m a c T W hm hml HT.out)
  unfold M.cv at *
  by_cases h0 : M.chk m T = 0
  · have HOK := hid (M.chk_zero.1 h0)
    have HR : Hid (M.mks m T l wd = if M.co T.length l = 0 then (if M.wd m (M.pl T) wd = 0 then (if M.can T l wd then 0 else 13) else M.wd m (M.pl T) wd) else M.co T.length l) := hid (by unfold M.mks; rw [if_pos h0])
    rw [h0] at HC
    have HCO := hid (fun w' (hb : Below W.heap.size W w') => members_any m a c T.length al cl l w' (by have := HOK.out.n10; omega) hll (HL.out.stays hb))
    unfold M.cv at HCO
    clear hB hT hl hw h0 hml
    by_cases h1 : M.co T.length l = 0
    · have HR2 : Hid (M.mks m T l wd = if M.wd m (M.pl T) wd = 0 then (if M.can T l wd then 0 else 13) else M.wd m (M.pl T) wd) := hid (by rw [HR.out, if_pos h1])
      have HCI := hid (M.co_zero.1 h1)
      have HCW := hid (fun w' (hb : Below W.heap.size W w') => word_any m a c T aw cw wd w' HOK.out.m2 HOK.out.m4 hwl (by have := HOK.out.n1; omega) (HT.out.stays hb) (HWD.out.stays hb))
      unfold M.cv at HCW
      rw [h1] at HCO
      clear h1 HR
      by_cases h2 : M.wd m (M.pl T) wd = 0
      · have HR3 : Hid (M.mks m T l wd = if M.can T l wd then 0 else 13) := hid (by rw [HR2.out, if_pos h2])
        have HCN := hid (fun w' (hb : Below W.heap.size W w') => makes_any m a c T al cl l aw cw wd w' (M.mk_of HOK.out HCI.out hll h2) (HT.out.stays hb) (HL.out.stays hb) (HWD.out.stays hb))
        unfold M.cv at HCN
        rw [h2] at HCW
        clear h2 HR2
        generalize M.can T l wd = r at *
        go_enter Tryd.func19, Tryd.ntmps19
        go_wp2_with fail
        rw [hW] at *
        go_wp2_with (refine HC.out.mono ?_; rintro e w7 ⟨rfl, hb7⟩; have q0 := cell_stays hb7 (Nat.le_refl _) c0; have q1 := cell_stays hb7 (Nat.le_refl _) c1; replace hb7 := hid hb7)
        refine (HCO.out w7 hb7.out).mono ?_
        rintro e w8 ⟨rfl, hb8⟩
        have r0 := cell_stays hb8 (Nat.le_refl _) q0
        have r1 := cell_stays hb8 (Nat.le_refl _) q1
        have HB8 := hid (hb7.out.trans (hb8.mono hb7.out.size))
        clear hb8 q0 q1
        go_wp2_with fail
        refine (HCW.out w8 HB8.out).mono ?_
        rintro e w9 ⟨rfl, hb9⟩
        have s0 := cell_stays hb9 (Nat.le_refl _) r0
        have s1 := cell_stays hb9 (Nat.le_refl _) r1
        have HB9 := hid (HB8.out.trans (hb9.mono HB8.out.size))
        clear hb9 r0 r1
        go_wp2_with fail
        refine (HCN.out w9 HB9.out).mono ?_
        rintro e w10 ⟨rfl, hb10⟩
        have HB10 := hid (HB9.out.trans (hb10.mono HB9.out.size))
        clear hb10
        cases r with
        | true =>
          go_wp2
          go_ret
          exact ⟨ret_int (by rw [HR3.out]; rfl), HB.out.trans (HB10.out.mono HB.out.size)⟩
        | false =>
          go_wp2
          go_ret
          exact ⟨ret_int (by rw [HR3.out]; rfl), HB.out.trans (HB10.out.mono HB.out.size)⟩
      · have HR3 : Hid (M.mks m T l wd = M.wd m (M.pl T) wd) := hid (by rw [HR2.out, if_neg h2])
        have h2' : (M.wd m (M.pl T) wd == 0) = false := beq_eq_false_iff_ne.2 h2
        generalize M.wd m (M.pl T) wd = y at *
        clear h2 HR2
        go_enter Tryd.func19, Tryd.ntmps19
        go_wp2_with fail
        rw [hW] at *
        go_wp2_with (refine HC.out.mono ?_; rintro e w7 ⟨rfl, hb7⟩; have q0 := cell_stays hb7 (Nat.le_refl _) c0; have q1 := cell_stays hb7 (Nat.le_refl _) c1; replace hb7 := hid hb7)
        refine (HCO.out w7 hb7.out).mono ?_
        rintro e w8 ⟨rfl, hb8⟩
        have r0 := cell_stays hb8 (Nat.le_refl _) q0
        have r1 := cell_stays hb8 (Nat.le_refl _) q1
        have HB8 := hid (hb7.out.trans (hb8.mono hb7.out.size))
        clear hb8 q0 q1
        go_wp2_with fail
        refine (HCW.out w8 HB8.out).mono ?_
        rintro e w9 ⟨rfl, hb9⟩
        have HB9 := hid (HB8.out.trans (hb9.mono HB8.out.size))
        clear hb9
        go_wp2
        go_ret
        exact ⟨ret_int HR3.out.symm, HB.out.trans (HB9.out.mono HB.out.size)⟩
    · have HR2 : Hid (M.mks m T l wd = M.co T.length l) := hid (by rw [HR.out, if_neg h1])
      have h1' : (M.co T.length l == 0) = false := beq_eq_false_iff_ne.2 h1
      generalize M.co T.length l = y at *
      clear h1 HR
      go_enter Tryd.func19, Tryd.ntmps19
      go_wp2_with fail
      rw [hW] at *
      go_wp2_with (refine HC.out.mono ?_; rintro e w7 ⟨rfl, hb7⟩; have q0 := cell_stays hb7 (Nat.le_refl _) c0; have q1 := cell_stays hb7 (Nat.le_refl _) c1; replace hb7 := hid hb7)
      refine (HCO.out w7 hb7.out).mono ?_
      rintro e w8 ⟨rfl, hb8⟩
      have HB8 := hid (hb7.out.trans (hb8.mono hb7.out.size))
      clear hb8
      go_wp2
      go_ret
      exact ⟨ret_int HR2.out.symm, HB.out.trans (HB8.out.mono HB.out.size)⟩
  · have HR : Hid (M.mks m T l wd = M.chk m T) := hid (by unfold M.mks; rw [if_neg h0])
    have h0' : (M.chk m T == 0) = false := beq_eq_false_iff_ne.2 h0
    generalize M.chk m T = y at *
    clear hB hT hl hw h0 hml
    go_enter Tryd.func19, Tryd.ntmps19
    go_wp2_with fail
    rw [hW] at *
    go_wp2_with (refine HC.out.mono ?_; rintro e w7 ⟨rfl, hb7⟩; replace hb7 := hid hb7)
    go_ret
    exact ⟨ret_int HR.out.symm, HB.out.trans (hb7.out.mono HB.out.size)⟩
end Go.Proofs.YthnklabdjaiplaaDoor
