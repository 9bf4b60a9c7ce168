/- Package mark: the walk of isLean. -/
import Derived.Test.YthnklabdjaiplaaDoorMCnI
import Derived.Test.YthnklabdjaiplaaDoorMCan
namespace Go.Proofs.YthnklabdjaiplaaDoor
open Go.RowKit

/-- A list without one place. -/
def M.wo (l : List Int) (i : Nat) : List Int := l.take i ++ l.drop (i + 1)
/-- Is a coalition lean for a word? -/
def M.lea (T : List (List Int)) (l wd : List Int) : Bool := (List.range l.length).all (fun i => !M.can T (M.wo l i) wd) && M.can T l wd

theorem M.rd_take {w : World} {b o : Nat} {l : List Int} (h : RdI w (some ⟨b, o, none⟩) l) (i : Nat) : RdI w (some ⟨b, o, none⟩) (l.take i) := fun k hk => by
  have hk' : k < i ∧ k < l.length := by simpa [List.length_take, Nat.lt_min] using hk
  obtain ⟨b', o', e, hc⟩ := h k hk'.2
  exact ⟨b', o', e, by rw [hc, List.getElem_take]⟩
theorem M.rd_drop {w : World} {b o : Nat} {l : List Int} (h : RdI w (some ⟨b, o, none⟩) l) (i : Nat) : RdI w (some ⟨b, o + i, none⟩) (l.drop i) := fun k hk => by
  have hk' : i + k < l.length := by have := hk; rw [List.length_drop] at this; omega
  obtain ⟨b', o', e, hc⟩ := h (i + k) hk'
  simp only [Option.some.injEq, Addr.mk.injEq, and_true] at e
  obtain ⟨rfl, rfl⟩ := e
  exact ⟨b, o + i, rfl, by rw [show o + i + k = o + (i + k) from by omega, hc, List.getElem_drop]⟩

set_option maxHeartbeats 4000000 in
theorem isLean_any (m : Int) (a : Option Addr) (c : Nat) (T : List (List Int)) (g cl : Nat) (l : List Int) (aw : Option Addr) (cw : Nat) (wd : List Int) (w : World) (H : M.Arg m T l wd) (h10 : l.length ≤ 10) (hcap : l.length ≤ cl) (hT : RdM w a T) (hl : RdI w (some ⟨g, 0, none⟩) l) (hw : RdI w aw wd) :
    Calls Tryd.prog 65 #[M.cv m a T.length c, .slice (some ⟨g, 0, none⟩) l.length cl, .slice aw wd.length cw] w fun e w' => e = .returned (.bool (M.lea T l wd)) ∧ Below w.heap.size w w' := by
  obtain ⟨W, hW, c0, c1, hB, hlt⟩ := M.cvNew w m a T.length c
  have HB := hid hB
  have HT := hid (hT.stays hB)
  have HL := hid (hl.stays hB)
  have HWD := hid (hw.stays hB)
  have HA := hid H
  have HLE : Hid (M.lea T l wd = ((List.range l.length).all (fun i => !M.can T (M.wo l i) wd) && M.can T l wd)) := hid rfl
  generalize M.lea T l wd = r at *
  clear hB hT hl hw H
  unfold M.cv
  go_enter Tryd.func65, Tryd.ntmps65
  go_wp2_with fail
  rw [hW] at *
  go_loopw [11] (fun i wr => ∃ k : Nat, k ≤ l.length ∧ i = .int .i64 k ∧ (∀ j, j < k → M.can T (M.wo l j) wd = false) ∧ Below W.heap.size W wr) (fun i _ => l.length - (intOf i).toNat)
  case atStart => exact ⟨0, Nat.zero_le _, rfl, fun j hj => absurd hj (Nat.not_lt_zero _), Below.refl _ _⟩
  case round =>
    obtain ⟨k, hk, rfl, hno, hb⟩ := hrel
    have HNO := hid hno
    have HBW := hid hb
    have q0 := cell_stays hb (Nat.le_refl _) c0
    have q1 := cell_stays hb (Nat.le_refl _) c1
    have HL1 := hid (HL.out.stays hb)
    clear hno hb
    by_cases hlt2 : k < l.length
    · have hsl : (0 : Int) ≤ (k : Int) ∧ (k : Int) ≤ (cl : Int) := by omega
      have hsl2 : (0 : Int) ≤ (k : Int) + 1 ∧ (k : Int) + 1 ≤ (l.length : Int) := by omega
      have htn : ((k : Int) + 1).toNat = k + 1 := by omega
      have hwx : IntKind.i64.wrap ((k : Int) + 1) = (k : Int) + 1 := IntWalk.i64_in _ ⟨by omega, by omega⟩
      have HT1 := hid (HT.out.stays HBW.out)
      have HWD1 := hid (HWD.out.stays HBW.out)
      have HAO := hid (fun w' (hb : Below wr.heap.size wr w') (al : Option Addr) (cl' : Nat) (hl' : RdI w' al (M.wo l k)) => canMake_any m a c T al cl' (M.wo l k) aw cw wd w' ⟨HA.out.ok, by unfold M.wo maxLen; rw [List.length_append, List.length_take, List.length_drop]; omega, fun i hi => HA.out.inn i (by
        unfold M.wo at hi
        rcases List.mem_append.1 hi with h | h
        · exact List.mem_of_mem_take h
        · exact List.mem_of_mem_drop h), HA.out.wl, HA.out.wm⟩ (HT1.out.stays hb) hl' (HWD1.out.stays hb))
      unfold M.cv at HAO
      have HNX : Hid (M.can T (M.wo l k) wd = false → ∀ j, j < k + 1 → M.can T (M.wo l j) wd = false) := hid (fun h j hj => by
        rcases Nat.lt_succ_iff_lt_or_eq.1 hj with h1 | rfl
        · exact HNO.out j h1
        · exact h)
      have HRF : Hid (M.can T (M.wo l k) wd = true → r = false) := hid (fun h => by
        rw [HLE.out, Bool.and_eq_false_iff]
        left
        rw [List.all_eq_false]
        exact ⟨k, by simp [hlt2], by simp [h]⟩)
      obtain ⟨o2, ho2⟩ : ∃ o2, (if cl = k + 1 then (⟨g, 0, none⟩ : Addr) else ⟨g, k + 1, none⟩) = ⟨g, o2, none⟩ := by
        by_cases e : cl = k + 1
        · exact ⟨0, by rw [if_pos e]⟩
        · exact ⟨k + 1, by rw [if_neg e]⟩
      have hsd : ∀ w, (Instr.slice 25 (.slice (some ⟨g, 0, none⟩) l.length cl) (some (.int .i64 ((k : Int) + 1))) none none).run Tryd.prog w = .ok (.slice (some ⟨g, o2, none⟩) (l.length - (k + 1)) (cl - (k + 1))) w := fun w => by
        rw [run_slice_l (P := Tryd.prog) w 25 (some ⟨g, 0, none⟩) l.length cl (by kernel_rfl) .i64 ((k : Int) + 1) hsl2.1 hsl2.2, show (sizeOf (Tryd.prog.elem 25)).run Tryd.prog w = .ok 1 w by kernel_rfl]
        unfold sliced
        rw [htn]
        by_cases e : cl = k + 1
        · rw [if_pos e] at ho2
          show Result.ok (Value.slice (if cl = k + 1 then _ else _) _ _) w = _
          rw [if_pos e, ho2]
        · rw [if_neg e] at ho2
          show Result.ok (Value.slice (if cl = k + 1 then _ else _) _ _) w = _
          rw [if_neg e, ← ho2]
          simp [Addr.add]
      have hdr : RdI wr (some ⟨g, o2, none⟩) (l.drop (k + 1)) := by
        by_cases e : cl = k + 1
        · have : l.drop (k + 1) = [] := List.drop_of_length_le (by omega)
          rw [this]
          exact RdI.nil _ _
        · rw [if_neg e] at ho2
          rw [← ho2]
          have := M.rd_drop HL1.out (k + 1)
          rwa [Nat.zero_add] at this
      have e1 : (l.take k).length = k := by rw [List.length_take]; omega
      have e2 : (l.drop (k + 1)).length = l.length - (k + 1) := List.length_drop ..
      have HCC := hid (fun w' (hb : Below wr.heap.size wr w') h1 h2 => concatI_any wr.heap.size 0 g 0 cl g o2 (cl - (k + 1)) 2 (l.take k) (l.drop (k + 1)) w' (by omega) (by omega) h1 h2 ((M.rd_take HL1.out k).stays hb) (hdr.stays hb))
      rw [e1, e2, show l.take k ++ l.drop (k + 1) = M.wo l k from rfl] at HCC
      obtain ⟨V, hV⟩ : ∃ V, wr.alloc (.cells #[.slice (some ⟨g, 0, none⟩) k cl, .slice (some ⟨g, o2, none⟩) (l.length - (k + 1)) (cl - (k + 1))] 25) = V := ⟨_, rfl⟩
      have HBV : Hid (Below wr.heap.size wr V) := hid (by rw [← hV]; exact (Below.refl _ _).alloc (Nat.le_refl _) _)
      have HV0 : Hid (V.cell? ⟨wr.heap.size, 0, none⟩ = some (.slice (some ⟨g, 0, none⟩) k cl)) := hid (by rw [← hV, World.cell?_alloc_at _ _ _ _ rfl]; rfl)
      have HV1 : Hid (V.cell? ⟨wr.heap.size, 0 + 1, none⟩ = some (.slice (some ⟨g, o2, none⟩) (l.length - (k + 1)) (cl - (k + 1)))) := hid (by rw [← hV, World.cell?_alloc_at _ _ _ _ rfl]; rfl)
      have HD1 := hid (HCC.out V HBV.out HV0.out HV1.out)
      have HD2 := hid (HCC.out V.drew HBV.out.drew HV0.out HV1.out)
      clear ho2 hdr e1 e2 HCC
      generalize M.wo l k = L at *
      go_wp2_with fail
      go_region_with (first | (go_at_call 82; (with_reducible refine HD2.out.mono ?_); rintro e w5 ⟨v, rfl, hr5, hb5⟩; obtain ⟨a5, cap5, rfl, hrd5⟩ := hr5.rd; have HR5 := hid hrd5; have HB5 := hid ((show Below wr.heap.size wr V.drew from HBV.out.drew).trans (hb5.mono HBV.out.size)); clear hr5 hb5 hrd5))
      all_goals
        have s0 := cell_stays HB5.out (Nat.le_refl _) q0
        have s1 := cell_stays HB5.out (Nat.le_refl _) q1
        have HC5 := hid (HAO.out w5 HB5.out a5 cap5 HR5.out)
        clear q0 q1 hsd hV
        cases hr : M.can T L wd with
        | true =>
          have HRR := hid (HRF.out hr)
          rw [hr] at HC5
          clear hr
          go_wp2_with (refine HC5.out.mono ?_; rintro e w6 ⟨rfl, hb6⟩; replace hb6 := hid hb6)
          go_ret
          exact ⟨ret_bool HRR.out.symm, HB.out.trans ((HBW.out.trans ((HB5.out.trans (hb6.out.mono HB5.out.size)).mono HBW.out.size)).mono HB.out.size)⟩
        | false =>
          have HRR := hid (HNX.out hr)
          rw [hr] at HC5
          clear hr
          go_wp2_with (refine HC5.out.mono ?_; rintro e w6 ⟨rfl, hb6⟩; replace hb6 := hid hb6)
          go_roundw
          case rel => exact ⟨k + 1, by omega, by go_num, HRR.out, HBW.out.trans ((HB5.out.trans (hb6.out.mono HB5.out.size)).mono HBW.out.size)⟩
          case measure => simp [intOf]; omega
    · have hke : k = l.length := by omega
      subst hke
      have HT1 := hid (HT.out.stays HBW.out)
      have HWD1 := hid (HWD.out.stays HBW.out)
      have HC5 := hid (canMake_any m a c T (some ⟨g, 0, none⟩) cl l aw cw wd wr HA.out HT1.out HL1.out HWD1.out)
      unfold M.cv at HC5
      have HRR : Hid (r = M.can T l wd) := hid (by
        rw [HLE.out]
        have : (List.range l.length).all (fun i => !M.can T (M.wo l i) wd) = true := by
          rw [List.all_eq_true]
          intro i hi
          rw [HNO.out i (by simpa using hi)]
          rfl
        rw [this, Bool.true_and])
      generalize M.can T l wd = z at *
      go_wp2_with (refine HC5.out.mono ?_; rintro e w6 ⟨rfl, hb6⟩; replace hb6 := hid hb6)
      go_ret
      exact ⟨ret_bool HRR.out.symm, HB.out.trans ((HBW.out.trans (hb6.out.mono HBW.out.size)).mono HB.out.size)⟩
end Go.Proofs.YthnklabdjaiplaaDoor
