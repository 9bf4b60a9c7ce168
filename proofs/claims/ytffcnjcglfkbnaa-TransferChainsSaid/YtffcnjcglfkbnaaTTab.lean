/- Package transfer by the evaluator: the table of the shortest chains. -/
import Derived.Test.YtffcnjcglfkbnaaTHk
namespace Go.Proofs.Ytffcnjcglfkbnaa
open Go.RowKit Ev
def chains : List (List Int) := [[], [1], [1, 2], [1, 2, 3], [1, 2, 4], [1, 2, 3, 5], [1, 2, 3, 6], [1, 2, 3, 4, 7], [1, 2, 4, 8], [1, 2, 3, 6, 9], [1, 2, 3, 5, 10], [1, 2, 3, 4, 7, 11], [1, 2, 3, 6, 12], [1, 2, 3, 5, 8, 13], [1, 2, 3, 4, 7, 14], [1, 2, 3, 5, 10, 15], [1, 2, 4, 8, 16], [1, 2, 4, 8, 9, 17], [1, 2, 3, 6, 9, 18], [1, 2, 3, 4, 8, 11, 19], [1, 2, 3, 5, 10, 20], [1, 2, 3, 4, 7, 14, 21], [1, 2, 3, 4, 7, 11, 22], [1, 2, 3, 5, 10, 13, 23], [1, 2, 3, 6, 12, 24], [1, 2, 3, 5, 10, 15, 25], [1, 2, 3, 5, 8, 13, 26], [1, 2, 3, 6, 9, 18, 27], [1, 2, 3, 4, 7, 14, 28], [1, 2, 3, 4, 7, 11, 18, 29], [1, 2, 3, 5, 10, 15, 30], [1, 2, 3, 4, 7, 14, 17, 31], [1, 2, 4, 8, 16, 32], [1, 2, 4, 8, 16, 17, 33], [1, 2, 4, 8, 9, 17, 34], [1, 2, 3, 4, 7, 14, 21, 35], [1, 2, 3, 6, 9, 18, 36], [1, 2, 3, 5, 8, 16, 21, 37], [1, 2, 3, 4, 8, 11, 19, 38], [1, 2, 3, 5, 8, 13, 26, 39], [1, 2, 3, 5, 10, 20, 40], [1, 2, 3, 5, 10, 20, 21, 41], [1, 2, 3, 4, 7, 14, 21, 42], [1, 2, 3, 5, 10, 20, 23, 43], [1, 2, 3, 4, 7, 11, 22, 44], [1, 2, 3, 5, 10, 15, 30, 45], [1, 2, 3, 5, 10, 13, 23, 46]]
def chainOf (n : Nat) : List Int := chains.getD n []
noncomputable def shB (n : Nat) (f : AV) (l : List Int) : Bool := match chkPL Try.prog hkA 100000 100000 55 [intA n, f] with
  | some (xs, none) => decide (xs = l)
  | _ => false
theorem shB_gives {n : Nat} {g : FuncId} {l : List Int} (h : shB n (.sc (.func (.func g) #[] #[])) l = true) : GivesL Try.prog 55 [.int .i64 (.ofNat n), .func (.func g) #[] #[]] l none := by
  unfold shB at h
  split at h
  case h_2 => cases h
  rename_i xs hx
  have := of_decide_eq_true h
  subst this
  exact chkPL_sound hkA_ok t_mixed (RelL.cons (RelV.sc _) (RelL.cons (RelV.sc _) (RelL.nil_iff.2 rfl))) hx
end Go.Proofs.Ytffcnjcglfkbnaa
