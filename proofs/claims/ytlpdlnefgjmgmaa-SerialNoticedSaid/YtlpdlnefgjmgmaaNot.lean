/- What a right code notices: one wrong digit always; twins and neighbours by the table's spots. No program is named here. -/
import Derived.Test.YtlpdlnefgjmgmaaTwins
import Derived.Test.YtlpdlnefgjmgmaaEdit
import Derived.Test.YtlpdlnefgjmgmaaFixd
namespace Go.Proofs.Ytlpdlnefgjmgmaa
open Go.RowKit

theorem P.from_cons (T : List (List Int)) (s : Nat) (d : Nat) (l : List Int) : P.from T s ((d : Int) :: l) = P.from T (P.at T s d) l := rfl

theorem P.after_from (T : List (List Int)) (l : List Int) : P.after T l = P.from T 0 l := rfl

theorem after_split (T : List (List Int)) (l : List Int) (i : Nat) : P.after T l = P.from T (P.after T (l.take i)) (l.drop i) := by
  rw [← P.after_append, List.take_append_drop]

/-- Two digits at i and i + 1. -/
theorem after_two {T : List (List Int)} {l : List Int} {i : Nat} (hi : i + 1 < l.length) {x y : Nat} (hx : l[i]? = some (x : Int)) (hy : l[i + 1]? = some (y : Int)) :
    P.after T l = P.from T (P.at T (P.at T (P.after T (l.take i)) x) y) (l.drop (i + 2)) := by
  rw [after_split T l i]
  have h1 : l.drop i = (x : Int) :: (y : Int) :: l.drop (i + 2) := by
    rw [List.drop_eq_getElem_cons (by omega), List.drop_eq_getElem_cons hi]
    rw [List.getElem?_eq_getElem (by omega)] at hx hy
    rw [Option.some.inj hx, Option.some.inj hy]
  rw [h1, P.from_cons, P.from_cons]

/-- One wrong digit. -/
theorem Tab.one_wrong {T : List (List Int)} (h : Tab T) {l : List Int} (hd : Dg T.length l) (h0 : P.after T l = 0) {i x d : Nat} (hi : i < l.length) (hx : l[i]? = some (x : Int)) (hdn : d < T.length) :
    P.after T (l.set i (d : Int)) = 0 ↔ d = x := by
  have hxe : l[i] = (x : Int) := by rw [List.getElem?_eq_getElem hi] at hx; exact Option.some.inj hx
  have hs : l.set i (x : Int) = l := by rw [← hxe, List.set_getElem_self]
  have hxn : x < T.length := by have := hd i hi; omega
  constructor
  · intro e
    exact h.fix_one l hd i hi hdn hxn (by rw [e, hs, h0])
  · rintro rfl
    rw [hs, h0]

theorem twinAt_sym (T : List (List Int)) (s a b : Nat) : P.twinAt T s a b = P.twinAt T s b a := by
  unfold P.twinAt; rw [Bool.eq_iff_iff, beq_iff_eq, beq_iff_eq]; exact eq_comm

theorem blindAt_sym (T : List (List Int)) (s a b : Nat) : P.blindAt T s a b = P.blindAt T s b a := by
  unfold P.blindAt; rw [Bool.eq_iff_iff, beq_iff_eq, beq_iff_eq]; exact eq_comm

theorem twinAt_mm (T : List (List Int)) (s a b : Nat) : P.twinAt T s (min a b) (max a b) = P.twinAt T s a b := by
  rcases Nat.le_total a b with h | h
  · rw [Nat.min_eq_left h, Nat.max_eq_right h]
  · rw [Nat.min_eq_right h, Nat.max_eq_left h, twinAt_sym]

theorem blindAt_mm (T : List (List Int)) (s a b : Nat) : P.blindAt T s (min a b) (max a b) = P.blindAt T s a b := by
  rcases Nat.le_total a b with h | h
  · rw [Nat.min_eq_left h, Nat.max_eq_right h]
  · rw [Nat.min_eq_right h, Nat.max_eq_left h, blindAt_sym]

/-- Changed twins. -/
theorem Tab.twin_wrong {T : List (List Int)} (h : Tab T) {l : List Int} (hd : Dg T.length l) (h0 : P.after T l = 0) {i x d : Nat} (hi : i + 1 < l.length) (hx : l[i]? = some (x : Int)) (hy : l[i + 1]? = some (x : Int)) (hdn : d < T.length) :
    P.after T ((l.set i (d : Int)).set (i + 1) (d : Int)) = 0 ↔ P.twinAt T (P.after T (l.take i)) (min d x) (max d x) = true := by
  have h00 : 0 < T.length := by have := h.lo; omega
  have hxn : x < T.length := by have := hd i (by omega); rw [List.getElem?_eq_getElem (by omega)] at hx; have e := Option.some.inj hx; omega
  have hs := h.sq.after_lt h00 _ (hd.take i)
  have e1 := after_two hi hx hy (T := T)
  have e2 : P.after T ((l.set i (d : Int)).set (i + 1) (d : Int)) = P.from T (P.at T (P.at T (P.after T (l.take i)) d) d) (l.drop (i + 2)) := by
    have := after_two (T := T) (l := (l.set i (d : Int)).set (i + 1) (d : Int)) (i := i) (by simpa using hi) (x := d) (y := d)
      (by rw [List.getElem?_set_ne (by omega), List.getElem?_set_self (by omega)]) (by rw [List.getElem?_set_self (by simpa using hi)])
    rw [this]
    congr 1
    · rw [List.take_set_of_le (by omega), List.take_set_of_le (Nat.le_refl _)]
    · rw [List.drop_set_of_lt (by omega), List.drop_set_of_lt (by omega)]
  rw [e2, twinAt_mm]
  rw [h0] at e1
  generalize P.after T (l.take i) = s at *
  have a1 := h.sq.at_lt (h.sq.at_lt hs hxn) hxn
  have a2 := h.sq.at_lt (h.sq.at_lt hs hdn) hdn
  unfold P.twinAt
  rw [beq_iff_eq]
  constructor
  · intro e
    exact h.from_inj _ _ _ a2 a1 (hd.drop _) (by rw [e, ← e1])
  · intro e
    rw [e, ← e1]

theorem P.swap_eq {l : List Int} {i : Nat} (hi : i + 1 < l.length) {x y : Nat} (hx : l[i]? = some (x : Int)) (hy : l[i + 1]? = some (y : Int)) : P.swap l i = (l.set i (y : Int)).set (i + 1) (x : Int) := by
  unfold P.swap
  rw [List.getElem?_eq_getElem (by omega)] at hx hy
  simp only [List.getD, List.getElem?_eq_getElem hi, List.getElem?_eq_getElem (show i < l.length by omega), Option.getD_some, Option.some.inj hx, Option.some.inj hy]

/-- Exchanged neighbours. -/
theorem Tab.swap_wrong {T : List (List Int)} (h : Tab T) {l : List Int} (hd : Dg T.length l) (h0 : P.after T l = 0) {i x y : Nat} (hi : i + 1 < l.length) (hx : l[i]? = some (x : Int)) (hy : l[i + 1]? = some (y : Int)) :
    P.after T ((l.set i (y : Int)).set (i + 1) (x : Int)) = 0 ↔ P.blindAt T (P.after T (l.take i)) (min x y) (max x y) = true := by
  have h00 : 0 < T.length := by have := h.lo; omega
  have hxn : x < T.length := by have := hd i (by omega); rw [List.getElem?_eq_getElem (by omega)] at hx; have e := Option.some.inj hx; omega
  have hyn : y < T.length := by have := hd (i + 1) hi; rw [List.getElem?_eq_getElem hi] at hy; have e := Option.some.inj hy; omega
  have hs := h.sq.after_lt h00 _ (hd.take i)
  have e1 := after_two hi hx hy (T := T)
  have e2 : P.after T ((l.set i (y : Int)).set (i + 1) (x : Int)) = P.from T (P.at T (P.at T (P.after T (l.take i)) y) x) (l.drop (i + 2)) := by
    have := after_two (T := T) (l := (l.set i (y : Int)).set (i + 1) (x : Int)) (i := i) (by simpa using hi) (x := y) (y := x)
      (by rw [List.getElem?_set_ne (by omega), List.getElem?_set_self (by omega)]) (by rw [List.getElem?_set_self (by simpa using hi)])
    rw [this]
    congr 1
    · rw [List.take_set_of_le (by omega), List.take_set_of_le (Nat.le_refl _)]
    · rw [List.drop_set_of_lt (by omega), List.drop_set_of_lt (by omega)]
  rw [e2, blindAt_mm]
  rw [h0] at e1
  generalize P.after T (l.take i) = s at *
  have a1 := h.sq.at_lt (h.sq.at_lt hs hxn) hyn
  have a2 := h.sq.at_lt (h.sq.at_lt hs hyn) hxn
  unfold P.blindAt
  rw [beq_iff_eq]
  constructor
  · intro e
    exact h.from_inj _ _ _ a1 a2 (hd.drop _) (by rw [e, ← e1])
  · intro e
    rw [← e, ← e1]

/-- What Right answers, by the state. -/
theorem Tab.right_iff {T : List (List Int)} (h : Tab T) {l : List Int} (h2 : 2 ≤ l.length) (h12 : l.length ≤ 12) (hd : Dg T.length l) : P.right T l = if P.after T l = 0 then 0 else 13 := by
  unfold P.right
  rw [if_neg (by rw [P.checks_ok h h12 (by omega) hd]; simp)]
  by_cases e : P.after T l = 0
  · rw [if_pos e, if_neg (fun k => k e)]
  · rw [if_neg e, if_pos e]

end Go.Proofs.Ytlpdlnefgjmgmaa
