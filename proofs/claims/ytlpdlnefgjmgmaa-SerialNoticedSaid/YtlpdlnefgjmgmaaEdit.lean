/- The code of a number in a table: what it is, and that the next number's code is greater. -/
import Derived.Test.YtlpdlnefgjmgmaaCode
import Derived.Test.YtlpdlnefgjmgmaaSpotAt
namespace Go.Proofs.Ytlpdlnefgjmgmaa
open Go.RowKit

theorem P.outside_dg' {l : List Int} {n : Nat} (h : Dg n l) : P.outside l n = false := by
  unfold P.outside
  rw [List.any_eq_false]
  intro x hx
  have := h.mem hx
  simp
  omega

theorem P.checks_ok {T : List (List Int)} {l : List Int} {least : Int} (h : Tab T) (hl : l.length ≤ 12) (h1 : least ≤ l.length) (hd : Dg T.length l) : P.checkDigits T l least = 0 := by
  unfold P.checkDigits
  rw [if_neg (by simp [check_of_tab h]), if_neg (by omega), if_neg (by omega), if_neg (by rw [P.outside_dg' hd]; simp)]

/-- The digit that leads back to 0. -/
def P.ckd (T : List (List Int)) (l : List Int) : Nat := (P.zeroAt T (P.after T l) T.length 0).toNat

theorem Tab.ckd {T : List (List Int)} (h : Tab T) {l : List Int} (hd : Dg T.length l) : P.ckd T l < T.length ∧ P.zeroAt T (P.after T l) T.length 0 = (P.ckd T l : Int) ∧ P.at T (P.after T l) (P.ckd T l) = 0 := by
  have h0 : 0 < T.length := by have := h.lo; omega
  have hs := h.sq.after_lt h0 l hd
  obtain ⟨d, hdn, hz⟩ := h.zero hs
  have hu : ∀ i, 0 ≤ i → i < d → P.at T (P.after T l) i ≠ 0 := fun i _ hi hz2 => by
    have := h.row_inj hs i d (by omega) hdn (by rw [hz, hz2])
    omega
  have e := P.zeroAt_eq T (P.after T l) T.length 0 d (Nat.zero_le _) (by omega) hz hu
  unfold P.ckd
  rw [e]
  exact ⟨by simpa using hdn, by simp, by simpa using hz⟩

/-- The code of k digits. -/
def P.ed (T : List (List Int)) (k n : Nat) : List Int := P.low T.length (k - 1) n ++ [(P.ckd T (P.low T.length (k - 1) n) : Int)]

theorem P.ed_length (T : List (List Int)) {k : Nat} (n : Nat) (hk : 1 ≤ k) : (P.ed T k n).length = k := by
  unfold P.ed
  rw [List.length_append, P.low_length]
  simp
  omega

theorem P.ed_take (T : List (List Int)) (k n : Nat) : (P.ed T k n).take (k - 1) = P.low T.length (k - 1) n := by
  unfold P.ed
  rw [List.take_append_of_le_length (by rw [P.low_length]; exact Nat.le_refl _), List.take_of_length_le (by rw [P.low_length]; exact Nat.le_refl _)]

theorem Dg.snoc {n : Nat} {l : List Int} {d : Nat} (h : Dg n l) (hd : d < n) : Dg n (l ++ [(d : Int)]) := Dg.of_mem fun x hx => by
  rcases List.mem_append.1 hx with h1 | h1
  · exact h.mem h1
  · rw [List.mem_singleton] at h1
    subst h1
    omega

theorem Tab.low {T : List (List Int)} (h : Tab T) (k n : Nat) : Dg T.length (P.low T.length k n) := P.low_dg _ _ (by have := h.lo; omega) _

theorem Tab.ed_dg {T : List (List Int)} (h : Tab T) (k n : Nat) : Dg T.length (P.ed T k n) := (h.low _ _).snoc (h.ckd (h.low _ _)).1

theorem Tab.ed_after {T : List (List Int)} (h : Tab T) (k n : Nat) : P.after T (P.ed T k n) = 0 := by
  unfold P.ed
  rw [P.after_append]
  exact (h.ckd (h.low _ _)).2.2

theorem P.low_num_from (b : Nat) (n : Nat) : ∀ (j a : Nat), (P.low b j n).foldl (fun m d => m * b + d.toNat) a = a * b ^ j + n % b ^ j := by
  intro j
  induction j with
  | zero => intro a; simp [P.low, Nat.mod_one]
  | succ j ih =>
    intro a
    simp only [P.low, List.foldl_cons]
    rw [ih, Nat.pow_succ, Nat.mod_mul, Int.toNat_natCast, Nat.add_mul, Nat.mul_assoc, Nat.mul_comm b (b ^ j), Nat.mul_comm (n / b ^ j % b)]
    omega

theorem P.low_num {b j n : Nat} (h : n < b ^ j) : P.numOf b (P.low b j n) = n := by
  unfold P.numOf
  rw [P.low_num_from, Nat.mod_eq_of_lt h]
  omega

theorem P.low_at (b n : Nat) : ∀ (j i : Nat), i < j → (P.low b j n)[i]? = some (((n / b ^ (j - 1 - i) % b : Nat)) : Int) := by
  intro j
  induction j with
  | zero => intro i hi; omega
  | succ j ih =>
    intro i hi
    match i with
    | 0 => simp [P.low]
    | i + 1 =>
      simp only [P.low, List.getElem?_cons_succ]
      rw [ih i (by omega)]
      rw [show j - 1 - i = j + 1 - 1 - (i + 1) from by omega]

theorem Tab.code_eq {T : List (List Int)} (h : Tab T) {k n : Nat} (h2 : 2 ≤ k) (h12 : k ≤ 12) (hn : n < T.length ^ (k - 1)) : P.code T k n = (P.ed T k n, 0) := by
  unfold P.code
  rw [if_neg (by simp [check_of_tab h]), if_neg (by omega), if_neg (by omega), if_neg (by simp only [Int.toNat_natCast]; rw [Nat.div_eq_of_lt hn]; omega)]
  simp only [Int.toNat_natCast]
  rw [(h.ckd (h.low (k - 1) n)).2.1]
  rfl

theorem Tab.code_out {T : List (List Int)} (h : Tab T) {k n : Nat} (h2 : 2 ≤ k) (h12 : k ≤ 12) (hn : n = T.length ^ (k - 1)) : P.code T k n = ([], 4) := by
  have hp : 0 < T.length ^ (k - 1) := Nat.pow_pos (by have := h.lo; omega)
  unfold P.code
  rw [if_neg (by simp [check_of_tab h]), if_neg (by omega), if_neg (by omega), if_pos (by simp only [Int.toNat_natCast]; rw [hn, Nat.div_self hp]; omega)]

theorem Tab.ed_right {T : List (List Int)} (h : Tab T) {k n : Nat} (h2 : 2 ≤ k) (h12 : k ≤ 12) : P.right T (P.ed T k n) = 0 := by
  have hl := P.ed_length T n (show 1 ≤ k by omega)
  unfold P.right
  rw [if_neg (by rw [P.checks_ok h (by omega) (by omega) (h.ed_dg _ _)]; simp), if_neg (by simp [h.ed_after])]

theorem Tab.ed_number {T : List (List Int)} (h : Tab T) {k n : Nat} (h2 : 2 ≤ k) (h12 : k ≤ 12) (hn : n < T.length ^ (k - 1)) : P.number T (P.ed T k n) = ((n : Int), 0) := by
  unfold P.number
  rw [if_neg (by simp [h.ed_right h2 h12]), P.ed_length T n (by omega), P.ed_take, P.low_num hn]

theorem Tab.ed_digit {T : List (List Int)} (h : Tab T) {k n : Nat} (h12 : k ≤ 12) : P.digit T (P.low T.length (k - 1) n) = ((P.ckd T (P.low T.length (k - 1) n) : Int), 0) := by
  unfold P.digit
  rw [if_neg (by rw [P.checks_ok h (by rw [P.low_length]; omega) (by omega) (h.low _ _)]; simp), (h.ckd (h.low (k - 1) n)).2.1]

theorem Tab.ed_state {T : List (List Int)} (h : Tab T) {k n : Nat} (h12 : k ≤ 12) : P.state T (P.low T.length (k - 1) n) = (((P.after T (P.low T.length (k - 1) n) : Nat) : Int), 0) := by
  unfold P.state
  rw [if_neg (by rw [P.checks_ok h (by rw [P.low_length]; omega) (by omega) (h.low _ _)]; simp)]

theorem P.ed_at (T : List (List Int)) {k n i : Nat} (hi : i < k - 1) : (P.ed T k n)[i]? = some (((n / T.length ^ (k - 1 - 1 - i) % T.length : Nat)) : Int) := by
  unfold P.ed
  rw [List.getElem?_append_left (by rw [P.low_length]; exact hi), P.low_at _ _ _ _ hi]

theorem P.ed_last (T : List (List Int)) {k n : Nat} : (P.ed T k n)[k - 1]? = some (P.ckd T (P.low T.length (k - 1) n) : Int) := by
  unfold P.ed
  rw [List.getElem?_append_right (by rw [P.low_length]; exact Nat.le_refl _), P.low_length]
  simp

/-- Equal digits at the head: equal numbers. -/
theorem P.ed_high {T : List (List Int)} {k n m : Nat} (hn : n < T.length ^ (k - 1)) (hm : m < T.length ^ (k - 1)) :
    ∀ i, i ≤ k - 1 → (∀ j, j < i → (P.ed T k n)[j]? = (P.ed T k m)[j]?) → n / T.length ^ (k - 1 - i) = m / T.length ^ (k - 1 - i) := by
  intro i
  induction i with
  | zero => intro _ _; rw [Nat.sub_zero, Nat.div_eq_of_lt hn, Nat.div_eq_of_lt hm]
  | succ i ih =>
    intro hi he
    have h1 := ih (by omega) (fun j hj => he j (by omega))
    have h2 := he i (by omega)
    rw [P.ed_at T (by omega), P.ed_at T (by omega)] at h2
    simp only [Option.some.injEq] at h2
    have e : k - 1 - i = k - 1 - (i + 1) + 1 := by omega
    rw [show k - 1 - 1 - i = k - 1 - (i + 1) from by omega] at h2
    rw [e, Nat.pow_succ, ← Nat.div_div_eq_div_mul, ← Nat.div_div_eq_div_mul] at h1
    generalize n / T.length ^ (k - 1 - (i + 1)) = x at *
    generalize m / T.length ^ (k - 1 - (i + 1)) = y at *
    have h3 : x % T.length = y % T.length := by exact_mod_cast h2
    rw [← Nat.div_add_mod x T.length, ← Nat.div_add_mod y T.length, h1, h3]

theorem P.ed_step {T : List (List Int)} {k n : Nat} (hm : n + 1 < T.length ^ (k - 1)) (i : Nat) (hi : i < k) (he : ∀ j, j < i → (P.ed T k n)[j]? = (P.ed T k (n + 1))[j]?)
    {x y : Int} (hx : (P.ed T k n)[i]? = some x) (hy : (P.ed T k (n + 1))[i]? = some y) : i < k - 1 ∧ x ≤ y := by
  have h1 := P.ed_high (T := T) (k := k) (n := n) (m := n + 1) (by omega) hm i (by omega) he
  by_cases hl : i = k - 1
  · subst hl
    rw [Nat.sub_self, Nat.pow_zero, Nat.div_one, Nat.div_one] at h1
    omega
  · refine ⟨by omega, ?_⟩
    rw [P.ed_at T (by omega), Option.some.injEq] at hx hy
    have e : k - 1 - i = k - 1 - 1 - i + 1 := by omega
    rw [e, Nat.pow_succ, ← Nat.div_div_eq_div_mul, ← Nat.div_div_eq_div_mul] at h1
    have h2 : n / T.length ^ (k - 1 - 1 - i) ≤ (n + 1) / T.length ^ (k - 1 - 1 - i) := Nat.div_le_div_right (by omega)
    generalize n / T.length ^ (k - 1 - 1 - i) = p at *
    generalize (n + 1) / T.length ^ (k - 1 - 1 - i) = q at *
    have h3 := Nat.div_add_mod p T.length
    have h4 := Nat.div_add_mod q T.length
    rw [h1] at h3
    subst hx hy
    omega

end Go.Proofs.Ytlpdlnefgjmgmaa
