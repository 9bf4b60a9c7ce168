/- The law TransferLeast: no chain has fewer transfers than the distance says: all of them are tried; a row is as short. No condition. -/
import Derived.Test.YtffcnjcglfkbnaaTWorks
import Derived.Test.YtffcnjcglfkbnaaTLst0
import Derived.Test.YtffcnjcglfkbnaaTLst1
import Derived.Test.YtffcnjcglfkbnaaTLst2
import Derived.Test.YtffcnjcglfkbnaaTLst3
import Derived.ShutString
import Derived.ChangeOld
import Derived.Below
namespace Go.Proofs.Ytffcnjcglfkbnaa
open Go.ChangeShapes Go.WideShapes Go.ChangeAt Go.RowKit Ev

theorem transferLeast_all : ∀ r, r < 46 → runC' 7 [.res .u8 46 r] = true
  | 0, _ => least0
  | 1, _ => least1
  | 2, _ => least2
  | 3, _ => least3
  | 4, _ => least4
  | 5, _ => least5
  | 6, _ => least6
  | 7, _ => least7
  | 8, _ => least8
  | 9, _ => least9
  | 10, _ => least10
  | 11, _ => least11
  | 12, _ => least12
  | 13, _ => least13
  | 14, _ => least14
  | 15, _ => least15
  | 16, _ => least16
  | 17, _ => least17
  | 18, _ => least18
  | 19, _ => least19
  | 20, _ => least20
  | 21, _ => least21
  | 22, _ => least22
  | 23, _ => least23
  | 24, _ => least24
  | 25, _ => least25
  | 26, _ => least26
  | 27, _ => least27
  | 28, _ => least28
  | 29, _ => least29
  | 30, _ => least30
  | 31, _ => least31
  | 32, _ => least32
  | 33, _ => least33
  | 34, _ => least34
  | 35, _ => least35
  | 36, _ => least36
  | 37, _ => least37
  | 38, _ => least38
  | 39, _ => least39
  | 40, _ => least40
  | 41, _ => least41
  | 42, _ => least42
  | 43, _ => least43
  | 44, _ => least44
  | 45, _ => least45
  | r + 46, h => absurd h (by omega)
theorem transferLeast_walk (w : World) (a0 : Int) (w0 : (Lit.int .u8 a0).wf = true) : Calls Try.prog 7 #[.int .u8 a0] w fun e w' => e = .returned (.bool true) ∧ Below w.heap.size w w' := by
  obtain ⟨x, rfl, hx⟩ := u8_nat w0
  exact runC'_gives (RelL.cons (rel_res (m := 46) (by omega)) (RelL.nil_iff.2 rfl)) (transferLeast_all (x % 46) (Nat.mod_lt _ (by decide))) w

/-! The row's frame (the guide's template). -/
set_option linter.unusedVariables false in
set_option maxRecDepth 100000 in
theorem transferLeast_lifted (os : Os) (started : os.Started) (H : Type) (enc : TypeId × Value → H) :
    ReturnsInHanded {} Try.checked os 7 .any (Rows.transferLeastSpec.pre6 enc Try.prog Try.f7 Rows.transferLeastRow.domain false) (Rows.transferLeastSpec.post enc Try.prog Try.f7 false true false false) := by
  refine returnsInHanded_of_change (C := Try.checked) own started (by kernel_rfl) Try.func7
    (ChangeSpec.witness6 (enc := enc) (C := Try.checked) false ⟨#[], #[.int .u8 0], []⟩ 8 (by kernel_rfl) (by kernel_rfl) (by kernel_rfl) (by kernel_rfl)) ?_
  intro W base args ds gs before hval0 hW hcnd _
  have hval : ∀ (j : Nat) t v, Try.f7.params[j]? = some t → args[j]? = some v → Value.okWide Try.prog W .any base t v := hval0
  have hW' := hW
  obtain ⟨p, q, hA0, hV, rfl, hfz, hnd⟩ := hW
  have hA : DataW.TrodAll enc Try.prog W 0 (fun _ => true) true Try.f7.params.toList args.toList ds p := hA0
  rw [Try.params7] at hA hval
  obtain ⟨v0, vs0, d0, ds0, p0, q0, hargs, rfl, rfl, h0, r0⟩ := trodAll_cons hA
  obtain ⟨rfl, rfl, rfl⟩ := trodAll_nil r0
  obtain rfl : args = #[v0] := by cases args; simp_all
  obtain ⟨rfl, rfl⟩ := trodVars_none hV
  have k0 := h0
  have lt0 : ∀ x ∈ p0, x.block < W.heap.size := by obtain ⟨m, hm⟩ := k0; exact DataW.trod_lt m _ _ _ hm
  obtain ⟨a0, rfl, rfl, rfl, w0⟩ := open_int Try.underlying5 (hval 0 5 v0 rfl rfl) h0
  clear hA0 hval0
  refine (transferLeast_walk W a0 w0 ).mono fun e W' ⟨he, bel⟩ => ?_
  subst he
  exact ⟨_, rfl, _, _, _, [], _, [], hW', trodAll_mk1 (shut_bool Try.underlying4 _), (trodAll_cons_mk (Below.trod laidOut (by kernel_rfl) (of_decide_eq_true (by kernel_rfl)) k0 bel lt0) trodAll_mk0), rfl, bel.frame _, fun h => by cases h⟩

theorem transferLeast_over : Rows.transferLeastRow.holds Try.pinned (OpenSpec.ofChange Rows.transferLeastSpec) :=
  OpenClaim.holds_of_wide 7 Try.f7 rfl rfl rfl rfl rfl rfl rfl ⟨rfl, rfl, rfl, rfl, rfl⟩ rfl rfl rfl rfl rfl (by kernel_rfl) Try.func7 (by kernel_rfl)
    (of_decide_eq_true (by kernel_rfl)) (by unfold Func.isWrapper; first | (rw [if_pos (by decide +kernel)]; kernel_rfl) | (rw [if_neg (by decide +kernel)]; exact ⟨rfl, rfl⟩))
    (fun os started H enc _ => transferLeast_lifted os started H enc)

theorem transferLeast_proved : Rows.TransferLeastSaid := transferLeast_over

end Go.Proofs.Ytffcnjcglfkbnaa
