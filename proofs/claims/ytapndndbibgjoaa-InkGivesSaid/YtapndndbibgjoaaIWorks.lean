/- Package ink's own examples hold: the evaluator runs them. No condition. -/
import Derived.Test.YtapndndbibgjoaaEvFast
import Derived.Test.YtapndndbibgjoaaRows
namespace Go.Proofs.Ytapndndbibgjoaa
open Go.RowKit

theorem ink_mixed : Try.prog.follows .mixedOrders = true := Try.checked.mixed

/-- Nothing is known of any function. -/
def noOrc : Ev.Orc := fun _ => none
theorem noOrc_ok : Ev.OrcOk Try.prog noOrc := fun _ _ _ _ h => by cases h

theorem ink_works_run : Ev.chkF Try.prog noOrc 1000000 16 [] = some (.bool true) := by kernel_rfl
theorem ink_works (w : World) : Calls Try.prog 16 #[] w fun e w' => e = .returned (.bool true) ∧ Below w.heap.size w w' :=
  Ev.chkF_sound ink_mixed noOrc_ok ink_works_run w

/-- What works() returns is known. -/
def inkOrc : Ev.Orc := fun g => bif g.beq 16 then some (fun vs => bif vs.isEmpty then some (.bool true) else none) else none
theorem inkOrc_ok : Ev.OrcOk Try.prog inkOrc := by
  intro g f vs v hg hv w
  unfold inkOrc at hg
  cases hb : g.beq 16 with
  | false => rw [hb] at hg; cases hg
  | true =>
    rw [hb] at hg
    simp only [cond_true, Option.some.injEq] at hg
    subst hg
    have hgw := Nat.eq_of_beq_eq_true hb
    subst hgw
    cases vs with
    | nil =>
      simp only [List.isEmpty_nil, cond_true, Option.some.injEq] at hv
      subst hv
      exact ink_works w
    | cons x xs => simp at hv
end Go.Proofs.Ytapndndbibgjoaa
