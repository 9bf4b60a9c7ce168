/- The law TransferCount: as many chains are counted as there are; the one that is returned is the smallest. No condition. -/
import Derived.Test.YtffcnjcglfkbnaaTCnt0
import Derived.Test.YtffcnjcglfkbnaaTCnt1
import Derived.Test.YtffcnjcglfkbnaaTCnt2
import Derived.Test.YtffcnjcglfkbnaaTCnt3
import Derived.ShutString
import Derived.ChangeOld
import Derived.Below
namespace Go.Proofs.Ytffcnjcglfkbnaa
open Go.ChangeShapes Go.WideShapes Go.ChangeAt Go.RowKit Ev

theorem transferCount_all : ∀ r, r < 24 → runS 8 [.res .u8 24 r] = true
  | 0, _ => cnt0
  | 1, _ => cnt1
  | 2, _ => cnt2
  | 3, _ => cnt3
  | 4, _ => cnt4
  | 5, _ => cnt5
  | 6, _ => cnt6
  | 7, _ => cnt7
  | 8, _ => cnt8
  | 9, _ => cnt9
  | 10, _ => cnt10
  | 11, _ => cnt11
  | 12, _ => cnt12
  | 13, _ => cnt13
  | 14, _ => cnt14
  | 15, _ => cnt15
  | 16, _ => cnt16
  | 17, _ => cnt17
  | 18, _ => cnt18
  | 19, _ => cnt19
  | 20, _ => cnt20
  | 21, _ => cnt21
  | 22, _ => cnt22
  | 23, _ => cnt23
  | r + 24, h => absurd h (by omega)
theorem transferCount_walk (w : World) (a0 : Int) (w0 : (Lit.int .u8 a0).wf = true) : Calls Try.prog 8 #[.int .u8 a0] w fun e w' => e = .returned (.bool true) ∧ Below w.heap.size w w' := by
  obtain ⟨x, rfl, hx⟩ := u8_nat w0
  exact runS_gives (RelL.cons (rel_res (m := 24) (by omega)) (RelL.nil_iff.2 rfl)) (transferCount_all (x % 24) (Nat.mod_lt _ (by decide))) w

/-! The row's frame (the guide's template). -/
set_option linter.unusedVariables false in
set_option maxRecDepth 100000 in
theorem transferCount_lifted (os : Os) (started : os.Started) (H : Type) (enc : TypeId × Value → H) :
    ReturnsInHanded {} Try.checked os 8 .any (Rows.transferCountSpec.pre6 enc Try.prog Try.f8 Rows.transferCountRow.domain false) (Rows.transferCountSpec.post enc Try.prog Try.f8 false true false false) := by
  refine returnsInHanded_of_change (C := Try.checked) own started (by kernel_rfl) Try.func8
    (ChangeSpec.witness6 (enc := enc) (C := Try.checked) false ⟨#[], #[.int .u8 0], []⟩ 8 (by kernel_rfl) (by kernel_rfl) (by kernel_rfl) (by kernel_rfl)) ?_
  intro W base args ds gs before hval0 hW hcnd _
  have hval : ∀ (j : Nat) t v, Try.f8.params[j]? = some t → args[j]? = some v → Value.okWide Try.prog W .any base t v := hval0
  have hW' := hW
  obtain ⟨p, q, hA0, hV, rfl, hfz, hnd⟩ := hW
  have hA : DataW.TrodAll enc Try.prog W 0 (fun _ => true) true Try.f8.params.toList args.toList ds p := hA0
  rw [Try.params8] at hA hval
  obtain ⟨v0, vs0, d0, ds0, p0, q0, hargs, rfl, rfl, h0, r0⟩ := trodAll_cons hA
  obtain ⟨rfl, rfl, rfl⟩ := trodAll_nil r0
  obtain rfl : args = #[v0] := by cases args; simp_all
  obtain ⟨rfl, rfl⟩ := trodVars_none hV
  have k0 := h0
  have lt0 : ∀ x ∈ p0, x.block < W.heap.size := by obtain ⟨m, hm⟩ := k0; exact DataW.trod_lt m _ _ _ hm
  obtain ⟨a0, rfl, rfl, rfl, w0⟩ := open_int Try.underlying5 (hval 0 5 v0 rfl rfl) h0
  clear hA0 hval0
  refine (transferCount_walk W a0 w0 ).mono fun e W' ⟨he, bel⟩ => ?_
  subst he
  exact ⟨_, rfl, _, _, _, [], _, [], hW', trodAll_mk1 (shut_bool Try.underlying4 _), (trodAll_cons_mk (Below.trod laidOut (by kernel_rfl) (of_decide_eq_true (by kernel_rfl)) k0 bel lt0) trodAll_mk0), rfl, bel.frame _, fun h => by cases h⟩

theorem transferCount_over : Rows.transferCountRow.holds Try.pinned (OpenSpec.ofChange Rows.transferCountSpec) :=
  OpenClaim.holds_of_wide 8 Try.f8 rfl rfl rfl rfl rfl rfl rfl ⟨rfl, rfl, rfl, rfl, rfl⟩ rfl rfl rfl rfl rfl (by kernel_rfl) Try.func8 (by kernel_rfl)
    (of_decide_eq_true (by kernel_rfl)) (by unfold Func.isWrapper; first | (rw [if_pos (by decide +kernel)]; kernel_rfl) | (rw [if_neg (by decide +kernel)]; exact ⟨rfl, rfl⟩))
    (fun os started H enc _ => transferCount_lifted os started H enc)

theorem transferCount_proved : Rows.TransferCountSaid := transferCount_over

end Go.Proofs.Ytffcnjcglfkbnaa
