/- Package tuschelaw09: the walk of large. -/
import Derived.Test.YthnklabdjaiplaaDoorMRef1
namespace Go.Proofs.YthnklabdjaiplaaDoor
open Go.RowKit

/-- A code is much larger than it may be. -/
def M.lrg (T : List (List Int)) : Bool := decide (20 < T.length) || T.any fun r => decide (20 < r.length)
theorem M.lrg_false {T : List (List Int)} (h : M.lrg T = false) : T.length ≤ 20 ∧ ∀ i, i < T.length → (T.getD i []).length ≤ 20 := by
  unfold M.lrg at h
  rw [Bool.or_eq_false_iff, decide_eq_false_iff_not, List.any_eq_false] at h
  refine ⟨by omega, fun i hi => ?_⟩
  have := h.2 T[i] (List.getElem_mem _)
  rw [List.getD_eq_getElem?_getD, List.getElem?_eq_getElem hi]
  simpa using this
set_option maxHeartbeats 1000000 in
theorem large_any (m : Int) (a : Option Addr) (c : Nat) (T : List (List Int)) (w : World) (hm : T.length ≤ maxLen) (hT : RdM w a T) :
    Calls Tryd.prog 12 #[M.cv m a T.length c] w fun e w' => e = .returned (.bool (M.lrg T)) ∧ Below w.heap.size w w' := by
  unfold maxLen at hm
  obtain ⟨W, hW, c0, c1, hB, hlt⟩ := M.newT w 24 (.int .i64 m) (.slice a T.length c)
  have HT := hid (hT.stays hB)
  have HB := hid hB
  unfold M.cv
  obtain ⟨r, hr⟩ : ∃ r, M.lrg T = r := ⟨_, rfl⟩
  rw [hr]
  have HR := hid hr
  clear hB hT hr
  by_cases h1 : 20 < T.length
  · have HR2 : Hid (r = true) := hid (by rw [← HR.out]; unfold M.lrg; rw [decide_eq_true h1]; rfl)
    go_enter Tryd.func12, Tryd.ntmps12
    go_wp2
    rw [hW] at *
    go_ret
    exact ⟨ret_bool HR2.out.symm, HB.out⟩
  have HE : Hid (r = T.any fun r => decide (20 < r.length)) := hid (by rw [← HR.out]; unfold M.lrg; rw [decide_eq_false h1]; rfl)
  go_enter Tryd.func12, Tryd.ntmps12
  go_wp2
  rw [hW] at *
  go_loop [3] (fun i => ∃ k : Nat, k ≤ T.length ∧ i = .int .i64 k ∧ ∀ j, j < k → (T.getD j []).length ≤ 20) (fun i => T.length - (intOf i).toNat)
  case atStart => exact ⟨0, Nat.zero_le _, rfl, fun j h => absurd h (Nat.not_lt_zero _)⟩
  case round =>
    obtain ⟨k, hk, rfl, ho⟩ := hrel
    have HO := hid ho
    clear ho
    by_cases hlt2 : k < T.length
    · obtain ⟨b2, o2, r2, cr2, rfl, hck, -⟩ := M.row HT.out hlt2
      have hkx : (0 : Int) ≤ (k : Int) ∧ (k : Int) < (T.length : Int) := by omega
      have HX : Hid (∃ x, (T.getD k []).length = x) := hid ⟨_, rfl⟩
      obtain ⟨x, hxe⟩ := HX.out
      have HXE := hid hxe
      rw [hxe] at hck
      clear HX hxe
      by_cases h2 : 20 < x
      · have HR2 : Hid (r = true) := hid (by
          rw [HE.out, List.any_eq_true]
          refine ⟨T[k], List.getElem_mem _, ?_⟩
          have := HXE.out
          rw [List.getD_eq_getElem?_getD, List.getElem?_eq_getElem hlt2] at this
          simp only [Option.getD_some] at this
          rw [this]
          exact decide_eq_true h2)
        go_wp2
        go_ret
        exact ⟨ret_bool HR2.out.symm, HB.out⟩
      · go_wp2
        go_round
        case rel => exact ⟨k + 1, by omega, by go_num, fun j hj => by
          by_cases e : j = k
          · subst e; rw [HXE.out]; omega
          · exact HO.out j (by omega)⟩
        case measure => simp [intOf]; omega
    · have hke : k = T.length := by omega
      subst hke
      have HR2 : Hid (r = false) := hid (by
        rw [HE.out, List.any_eq_false]
        intro x hx
        obtain ⟨j, hj, rfl⟩ := List.getElem_of_mem hx
        have := HO.out j hj
        rw [List.getD_eq_getElem?_getD, List.getElem?_eq_getElem hj] at this
        simpa using this)
      go_wp2
      go_ret
      exact ⟨ret_bool HR2.out.symm, HB.out⟩
end Go.Proofs.YthnklabdjaiplaaDoor
