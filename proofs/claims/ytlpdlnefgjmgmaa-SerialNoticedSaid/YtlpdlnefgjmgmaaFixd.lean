/- Fixes and swaps, place by place; what the answers about a code are in a table. -/
import Derived.Test.YtlpdlnefgjmgmaaFixb
import Derived.Test.YtlpdlnefgjmgmaaSpotAt
import Derived.Test.YtlpdlnefgjmgmaaEdit
namespace Go.Proofs.Ytlpdlnefgjmgmaa
open Go.RowKit

theorem P.swaps_le_pre (T : List (List Int)) (l : List Int) {i j : Nat} (h : i ≤ j) : ∃ r, P.swaps T l j = P.swaps T l i ++ r := by
  induction j with
  | zero => exact ⟨[], by rw [show i = 0 from by omega, List.append_nil]⟩
  | succ j ih =>
    by_cases e : i = j + 1
    · exact ⟨[], by rw [e, List.append_nil]⟩
    · obtain ⟨r, hr⟩ := ih (by omega)
      exact ⟨r ++ (if P.after T (P.swap l j) = 0 then [(j : Int)] else []), by rw [P.swaps_succ, hr, List.append_assoc]⟩

theorem P.swaps_mem {T : List (List Int)} {l : List Int} {m : Nat} {x : Int} (h : x ∈ P.swaps T l m) : ∃ i : Nat, x = (i : Int) ∧ P.after T (P.swap l i) = 0 := by
  unfold P.swaps at h
  obtain ⟨i, hi, rfl⟩ := List.mem_map.1 h
  rw [List.mem_filter] at hi
  exact ⟨i, rfl, by simpa using hi.2⟩

/-- The three ways at a place of a code. -/
theorem sw_case {T : List (List Int)} {l : List Int} {m j : Nat} (hj : j < m) :
    (P.after T (P.swap l j) = 0 ∧ (P.swaps T l j).length < (P.swaps T l m).length ∧ (P.swaps T l m)[(P.swaps T l j).length]? = some (j : Int) ∧ (P.swaps T l (j + 1)).length = (P.swaps T l j).length + 1) ∨
    (P.after T (P.swap l j) ≠ 0 ∧ (P.swaps T l (j + 1)).length = (P.swaps T l j).length ∧
      (((P.swaps T l j).length < (P.swaps T l m).length ∧ ∃ y : Int, (P.swaps T l m)[(P.swaps T l j).length]? = some y ∧ y ≠ (j : Int)) ∨ (P.swaps T l m).length ≤ (P.swaps T l j).length)) := by
  obtain ⟨r, hr⟩ := P.swaps_le_pre T l (show j + 1 ≤ m by omega)
  by_cases h : P.after T (P.swap l j) = 0
  · left
    rw [P.swaps_succ, if_pos h] at hr ⊢
    rw [hr]
    refine ⟨h, by simp, ?_, by simp⟩
    rw [List.append_assoc, List.getElem?_append_right (Nat.le_refl _)]
    simp
  · right
    refine ⟨h, by rw [P.swaps_succ, if_neg h, List.append_nil], ?_⟩
    by_cases hl : (P.swaps T l m).length ≤ (P.swaps T l j).length
    · exact Or.inr hl
    · refine Or.inl ⟨by omega, _, List.getElem?_eq_getElem (by omega), fun e => ?_⟩
      obtain ⟨i, hi, h0⟩ := P.swaps_mem (List.getElem_mem (show (P.swaps T l j).length < (P.swaps T l m).length by omega))
      rw [e] at hi
      have : i = j := by omega
      subst this
      exact h h0

theorem P.swaps_inside {T : List (List Int)} {l : List Int} {m j : Nat} (hj : j ≤ m) : (P.swaps T l j).length ≤ (P.swaps T l m).length := by
  obtain ⟨r, hr⟩ := P.swaps_le_pre T l hj
  rw [hr]
  simp

/-- Too short a code. -/
theorem wrong_short {T : List (List Int)} (h : Tab T) {l : List Int} (hl : l.length < 2) : P.wrong T l = 1 := by
  have e : P.right T l = 1 := by
    have e : P.checkDigits T l 2 = 1 := by
      unfold P.checkDigits
      rw [if_neg (by simp [check_of_tab h]), if_pos (by omega)]
    unfold P.right
    rw [if_pos (by rw [e]; decide), e]
  unfold P.wrong
  rw [if_neg (by rw [e]; decide), if_neg (by rw [e]; decide), e]

theorem wrong_right {T : List (List Int)} (h : Tab T) {l : List Int} (h2 : 2 ≤ l.length) (h12 : l.length ≤ 12) (hd : Dg T.length l) (h0 : P.after T l = 0) : P.wrong T l = 20 := by
  have e : P.right T l = 0 := by
    unfold P.right
    rw [if_neg (by rw [P.checks_ok h h12 (by omega) hd]; simp), if_neg (by simp [h0])]
  unfold P.wrong
  rw [if_neg (by rw [e]; decide), if_pos e]

theorem wrong_wrong {T : List (List Int)} (h : Tab T) {l : List Int} (h2 : 2 ≤ l.length) (h12 : l.length ≤ 12) (hd : Dg T.length l) (h0 : P.after T l ≠ 0) : P.wrong T l = 0 := by
  have e : P.right T l = 13 := by
    unfold P.right
    rw [if_neg (by rw [P.checks_ok h h12 (by omega) hd]; simp), if_pos h0]
  unfold P.wrong
  rw [if_pos e]

theorem restore_eq {T : List (List Int)} (h : Tab T) {l : List Int} (h2 : 2 ≤ l.length) (h12 : l.length ≤ 12) (hd : Dg T.length l) {k : Nat} (hk : k < l.length) : P.restore T l (k : Int) = (((P.fixAt T l k : Nat) : Int), 0) := by
  unfold P.restore
  rw [if_neg (by rw [P.checks_ok h h12 (by omega) hd]; simp), if_neg (by omega), Int.toNat_natCast]

/-- The lost digit is the one that is there just if the code is right. -/
theorem restore_same {T : List (List Int)} (h : Tab T) {l : List Int} (hd : Dg T.length l) {k x : Nat} (hk : k < l.length) (hx : l[k]? = some (x : Int)) : P.fixAt T l k = x ↔ P.after T l = 0 := by
  obtain ⟨h1, h2, _⟩ := h.fixAt l hd k hk
  have hxe : l[k] = (x : Int) := by rw [List.getElem?_eq_getElem hk] at hx; simpa using hx
  have hs : l.set k (x : Int) = l := by rw [← hxe, List.set_getElem_self]
  have hxn : x < T.length := by have := hd k hk; omega
  constructor
  · intro e
    rw [e, hs] at h2
    exact h2
  · intro e
    exact h.fix_one l hd k hk h1 hxn (by rw [h2, hs, e])

theorem Dg.swap {n : Nat} {l : List Int} (h : Dg n l) {j : Nat} (hj : j + 1 < l.length) : Dg n (P.swap l j) := Dg.of_mem fun x hx => by
  unfold P.swap at hx
  have h1 := h j (by omega)
  have h2 := h (j + 1) hj
  simp only [List.getD, List.getElem?_eq_getElem hj, List.getElem?_eq_getElem (show j < l.length by omega), Option.getD_some] at hx
  rcases List.mem_or_eq_of_mem_set hx with hx | rfl
  · rcases List.mem_or_eq_of_mem_set hx with hx | rfl
    · exact h.mem hx
    · exact h2
  · exact h1

theorem P.swap_length (l : List Int) (j : Nat) : (P.swap l j).length = l.length := by unfold P.swap; simp

theorem P.fixes_at (T : List (List Int)) (l : List Int) {j : Nat} (hj : j < l.length) : (P.fixes T l)[j]? = some ((j : Int), (P.fixAt T l j : Int)) := by
  unfold P.fixes
  rw [List.getElem?_map, List.getElem?_range hj]
  rfl

end Go.Proofs.Ytlpdlnefgjmgmaa
