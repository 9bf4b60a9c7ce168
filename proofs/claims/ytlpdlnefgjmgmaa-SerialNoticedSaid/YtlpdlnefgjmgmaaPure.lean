/- What the functions of the first layer answer, as plain functions on lists. No program is named here. -/
namespace Go.Proofs.Ytlpdlnefgjmgmaa
namespace P

/-- One of some numbers is not from 0 to base - 1. -/
def outside (l : List Int) (base : Int) : Bool := l.any fun n => decide (n < 0) || decide (base ≤ n)

theorem outside_take_succ (l : List Int) (base : Int) (k : Nat) (h : k < l.length) :
    outside (l.take (k + 1)) base = (outside (l.take k) base || (decide (l[k] < 0) || decide (base ≤ l[k]))) := by
  unfold outside
  rw [List.take_succ_eq_append_getElem h, List.any_append]
  simp

theorem outside_of_at (l : List Int) (base : Int) (k : Nat) (h : k < l.length) (hx : l[k] < 0 ∨ base ≤ l[k]) : outside l base = true := by
  unfold outside
  rw [List.any_eq_true]
  exact ⟨l[k], List.getElem_mem h, by simpa using hx⟩

end P
end Go.Proofs.Ytlpdlnefgjmgmaa
