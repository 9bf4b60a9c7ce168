/- The law RepeatRingCount: as many rings are counted as there are: all borders up to 7 figures of 3 kinds are turned to their first forms. No condition. -/
import Derived.Test.YtiodcgdjphmffaaBCntW
import Derived.Test.YtiodcgdjphmffaaBOpen
import Derived.ShutString
import Derived.ChangeOld
import Derived.Below
namespace Go.Proofs.Ytiodcgdjphmffaa
open Go.ChangeShapes Go.WideShapes Go.ChangeAt Go.RowKit

theorem repeatRingCount_walk (f : Nat → Nat) (w : World) (hm : MaxL w) (hf : ∀ k, f k < 256) :
    Calls Try.prog 12 #[arr8 f 2] w fun e w' => e = .returned (.bool true) ∧ Below w.heap.size w w' := repeatRingCount_any f w hm hf

/-! The row's frame (the guide's template). -/
set_option linter.unusedVariables false in
set_option maxRecDepth 100000 in
theorem repeatRingCount_lifted (os : Os) (started : os.Started) (H : Type) (enc : TypeId × Value → H) :
    ReturnsInHanded {} Try.checked os 12 .any (Rows.repeatRingCountSpec.pre6 enc Try.prog Try.f12 Rows.repeatRingCountRow.domain false) (Rows.repeatRingCountSpec.post enc Try.prog Try.f12 false true false false) := by
  refine returnsInHanded_of_change_shaped (C := Try.checked) own started (by kernel_rfl) Try.func12
    (ChangeSpec.witness6 (enc := enc) (C := Try.checked) false ⟨#[], #[.agg #[.int .u8 0, .int .u8 0]], []⟩ 8 (by kernel_rfl) (by kernel_rfl) (by kernel_rfl) (by kernel_rfl)) ?_
  intro W base args ds gs before hval0 hW hcnd _ hsh _
  have hval : ∀ (j : Nat) t v, Try.f12.params[j]? = some t → args[j]? = some v → Value.okWide Try.prog W .any base t v := hval0
  have hW' := hW
  obtain ⟨p, q, hA0, hV, rfl, hfz, hnd⟩ := hW
  have hA : DataW.TrodAll enc Try.prog W 0 (fun _ => true) true Try.f12.params.toList args.toList ds p := hA0
  rw [Try.params12] at hA hval
  obtain ⟨v0, vs0, d0, ds0, p0, q0, hargs, rfl, rfl, h0, r0⟩ := trodAll_cons hA
  obtain ⟨rfl, rfl, rfl⟩ := trodAll_nil r0
  obtain rfl : args = #[v0] := by cases args; simp_all
  obtain ⟨rfl, rfl⟩ := trodVars_none hV
  have k0 := h0
  have lt0 : ∀ x ∈ p0, x.block < W.heap.size := by obtain ⟨m, hm⟩ := k0; exact DataW.trod_lt m _ _ _ hm
  obtain ⟨c0, hv0, hc0⟩ := open_A2 (hval 0 61 v0 rfl rfl) h0
  subst hv0
  clear hA0 hval0
  refine (repeatRingCount_walk c0 W (maxL_of W hsh) hc0).mono fun e W' ⟨he, bel⟩ => ?_
  subst he
  exact ⟨_, rfl, _, _, _, [], _, [], hW', trodAll_mk1 (shut_bool Try.underlying4 _), (trodAll_cons_mk (Below.trod laidOut (by kernel_rfl) (of_decide_eq_true (by kernel_rfl)) k0 bel lt0) trodAll_mk0), rfl, bel.frame _, fun h => by cases h⟩

theorem repeatRingCount_over : Rows.repeatRingCountRow.holds Try.pinned (OpenSpec.ofChange Rows.repeatRingCountSpec) :=
  OpenClaim.holds_of_wide 12 Try.f12 rfl rfl rfl rfl rfl rfl rfl ⟨rfl, rfl, rfl, rfl, rfl⟩ rfl rfl rfl rfl rfl (by kernel_rfl) Try.func12 (by kernel_rfl)
    (of_decide_eq_true (by kernel_rfl)) (by unfold Func.isWrapper; first | (rw [if_pos (by decide +kernel)]; kernel_rfl) | (rw [if_neg (by decide +kernel)]; exact ⟨rfl, rfl⟩))
    (fun os started H enc _ => repeatRingCount_lifted os started H enc)

theorem repeatRingCount_proved : Rows.RepeatRingCountSaid := repeatRingCount_over

end Go.Proofs.Ytiodcgdjphmffaa
