/- Where a spot is in the list of all spots; and that a table passes its check. -/
import Derived.Test.YtlpdlnefgjmgmaaTwins
import Derived.BigQuiet
namespace Go.Proofs.Ytlpdlnefgjmgmaa
open Go.RowKit

theorem check_of_tab {T : List (List Int)} (h : Tab T) : P.check T = 0 := by
  have h1 := h.lo
  have h2 := h.hi
  unfold P.check
  rw [if_neg (by omega), if_neg, if_neg, if_neg (by rw [h.no]; simp)]
  · rw [Bool.not_eq_true, List.any_eq_false]
    intro r hr
    obtain ⟨i, hi, rfl⟩ := List.getElem_of_mem hr
    rw [Bool.not_eq_true]
    unfold P.outside
    rw [List.any_eq_false]
    intro x hx
    obtain ⟨k, hk, rfl⟩ := List.getElem_of_mem hx
    have := h.sq.dig i hi k hk
    simp; omega
  · rw [Bool.not_eq_true, List.any_eq_false]
    intro r hr
    obtain ⟨i, hi, rfl⟩ := List.getElem_of_mem hr
    have := h.sq.len i hi
    simpa using this

section
variable (pr : Nat → Nat → Nat → Bool)

theorem P.spS_le (n : Nat) {i j : Nat} (h : i ≤ j) : ∃ r, P.spS pr n j = P.spS pr n i ++ r := by
  induction j with
  | zero => exact ⟨[], by rw [show i = 0 from by omega, List.append_nil]⟩
  | succ j ih =>
    by_cases e : i = j + 1
    · exact ⟨[], by rw [e, List.append_nil]⟩
    · obtain ⟨r, hr⟩ := ih (by omega)
      exact ⟨r ++ P.spA pr n j n, by rw [P.spS_succ, hr, List.append_assoc]⟩

theorem P.spA_le (n s : Nat) {i j : Nat} (h : i ≤ j) : ∃ r, P.spA pr n s j = P.spA pr n s i ++ r := by
  induction j with
  | zero => exact ⟨[], by rw [show i = 0 from by omega, List.append_nil]⟩
  | succ j ih =>
    by_cases e : i = j + 1
    · exact ⟨[], by rw [e, List.append_nil]⟩
    · obtain ⟨r, hr⟩ := ih (by omega)
      exact ⟨r ++ P.spK pr s j n, by rw [P.spA_succ, hr, List.append_assoc]⟩

theorem P.spK_le (s a : Nat) {i j : Nat} (hi : a < i) (h : i ≤ j) : ∃ r, P.spK pr s a j = P.spK pr s a i ++ r := by
  induction j with
  | zero => omega
  | succ j ih =>
    by_cases e : i = j + 1
    · exact ⟨[], by rw [e, List.append_nil]⟩
    · obtain ⟨r, hr⟩ := ih (by omega)
      exact ⟨r ++ (if pr s a j = true then [(s, a, j)] else []), by rw [P.spK_succ pr s a j (by omega), hr, List.append_assoc]⟩

/-- The spots before one spot. -/
def P.pos (n s a b : Nat) : Nat := (P.spS pr n s ++ P.spA pr n s a ++ P.spK pr s a b).length

theorem P.pos_succ (n s a b : Nat) (h : a < b) : P.pos pr n s a (b + 1) = P.pos pr n s a b + if pr s a b = true then 1 else 0 := by
  unfold P.pos
  rw [P.spK_succ pr s a b h, ← List.append_assoc, List.length_append]
  cases pr s a b <;> simp

theorem P.pos_start (n s a : Nat) : P.pos pr n s a (a + 1) = (P.spS pr n s ++ P.spA pr n s a).length := by
  unfold P.pos
  rw [P.spK_zero, List.append_nil]

theorem P.pos_end (n s a : Nat) : P.pos pr n s a n = (P.spS pr n s ++ P.spA pr n s (a + 1)).length := by
  unfold P.pos
  rw [P.spA_succ, List.append_assoc]

/-- A spot is where it is told. -/
theorem P.sp_at {n s a b : Nat} (hs : s < n) (ha : a < n) (hb : b < n) (hab : a < b) (hp : pr s a b = true) : (P.spS pr n n)[P.pos pr n s a b]? = some (s, a, b) := by
  obtain ⟨r1, h1⟩ := P.spS_le pr n (show s + 1 ≤ n by omega)
  obtain ⟨r2, h2⟩ := P.spA_le pr n s (show a + 1 ≤ n by omega)
  obtain ⟨r3, h3⟩ := P.spK_le pr s a (show a < b + 1 by omega) (show b + 1 ≤ n by omega)
  rw [h1, P.spS_succ, h2, P.spA_succ, h3, P.spK_succ pr s a b hab, if_pos hp]
  unfold P.pos
  rw [show P.spS pr n s ++ (P.spA pr n s a ++ (P.spK pr s a b ++ [(s, a, b)] ++ r3) ++ r2) ++ r1 = (P.spS pr n s ++ P.spA pr n s a ++ P.spK pr s a b) ++ ((s, a, b) :: (r3 ++ r2 ++ r1)) from by simp [List.append_assoc]]
  simp

/-- What is no spot is nowhere. -/
theorem P.sp_not {n s a b k : Nat} (hp : pr s a b = false) (hk : (P.spS pr n n)[k]? = some (s, a, b)) : False := by
  have hm := List.mem_of_getElem? hk
  unfold P.spS P.spA P.spK at hm
  simp only [List.mem_flatMap, List.mem_map, List.mem_filter, Bool.and_eq_true, Prod.mk.injEq] at hm
  obtain ⟨s', _, a', _, b', ⟨_, _, h⟩, rfl, rfl, rfl⟩ := hm
  rw [hp] at h
  cases h
end

theorem P.spK_len (pr : Nat → Nat → Nat → Bool) (s a k : Nat) : (P.spK pr s a k).length ≤ k := by
  unfold P.spK
  rw [List.length_map]
  exact Nat.le_trans (List.length_filter_le _ _) (by simp)

theorem P.spA_len (pr : Nat → Nat → Nat → Bool) (n s : Nat) (h5 : n ≤ 5) : ∀ j, (P.spA pr n s j).length ≤ j * 5
  | 0 => by simp [P.spA]
  | j + 1 => by
    have := P.spA_len pr n s h5 j
    have := P.spK_len pr s j n
    rw [P.spA_succ, List.length_append]
    omega

theorem P.spS_len (pr : Nat → Nat → Nat → Bool) (n : Nat) (h5 : n ≤ 5) : ∀ i, (P.spS pr n i).length ≤ i * 25
  | 0 => by simp [P.spS]
  | i + 1 => by
    have := P.spS_len pr n h5 i
    have := P.spA_len pr n i h5 n
    rw [P.spS_succ, List.length_append]
    omega

theorem P.pos_len (pr : Nat → Nat → Nat → Bool) {n s a b : Nat} (h5 : n ≤ 5) (hs : s < n) (ha : a < n) (hb : b < n) : P.pos pr n s a b ≤ 1000 := by
  have := P.spS_len pr n h5 s
  have := P.spA_len pr n s h5 a
  have := P.spK_len pr s a b
  unfold P.pos
  rw [List.length_append, List.length_append]
  omega

theorem eql_spot_no {x y z s q b : Nat} (h : ¬ (x = s ∧ y = q ∧ z = b)) (w : World) :
    (binOp .eql 33 (.agg #[.int .i64 x, .int .i64 y, .int .i64 z]) (.agg #[.int .i64 s, .int .i64 q, .int .i64 b])).run Try.prog w = .ok (.bool false) w := by
  go_simp
  intro h1 h2 h3
  exact h ⟨by omega, by omega, by omega⟩

/-- The three cases at a spot. -/
theorem sp_case {pr : Nat → Nat → Nat → Bool} {n s q b : Nat} {xs : List (Nat × Nat × Nat)} {W : World} {r : Option Addr} (hx : xs = P.spS pr n n) (hr : RdT W r xs) (hs : s < n) (hq : q < n) (hb : b < n) (hqb : q < b) :
    (pr s q b = true ∧ (P.pos pr n s q b : Int) < (xs.length : Int) ∧ ∃ b1 o1, r = some ⟨b1, o1, none⟩ ∧ W.cell? ⟨b1, o1 + P.pos pr n s q b * 3, none⟩ = some (.int .i64 s) ∧ W.cell? ⟨b1, o1 + P.pos pr n s q b * 3 + 1, none⟩ = some (.int .i64 q) ∧ W.cell? ⟨b1, o1 + P.pos pr n s q b * 3 + 2, none⟩ = some (.int .i64 b)) ∨
    (pr s q b = false ∧ (P.pos pr n s q b : Int) < (xs.length : Int) ∧ ∃ b1 o1, ∃ x y z : Nat, r = some ⟨b1, o1, none⟩ ∧ W.cell? ⟨b1, o1 + P.pos pr n s q b * 3, none⟩ = some (.int .i64 x) ∧ W.cell? ⟨b1, o1 + P.pos pr n s q b * 3 + 1, none⟩ = some (.int .i64 y) ∧ W.cell? ⟨b1, o1 + P.pos pr n s q b * 3 + 2, none⟩ = some (.int .i64 z) ∧
      ∀ w, (binOp .eql 33 (.agg #[.int .i64 x, .int .i64 y, .int .i64 z]) (.agg #[.int .i64 s, .int .i64 q, .int .i64 b])).run Try.prog w = .ok (.bool false) w) ∨
    (pr s q b = false ∧ (xs.length : Int) ≤ (P.pos pr n s q b : Int)) := by
  cases hp : pr s q b
  · right
    by_cases hl : P.pos pr n s q b < xs.length
    · left
      obtain ⟨b1, o1, ha, h1, h2, h3⟩ := hr _ hl
      refine ⟨rfl, by omega, b1, o1, _, _, _, ha, h1, h2, h3, fun w => eql_spot_no (fun h => ?_) w⟩
      refine P.sp_not pr (n := n) (k := P.pos pr n s q b) hp ?_
      rw [← hx, List.getElem?_eq_getElem hl]
      exact congrArg some (Prod.ext h.1 (Prod.ext h.2.1 h.2.2))
    · right
      exact ⟨rfl, by omega⟩
  · left
    have h := P.sp_at pr hs hq hb hqb hp
    rw [← hx] at h
    obtain ⟨hl, he⟩ := List.getElem?_eq_some_iff.1 h
    obtain ⟨b1, o1, ha, h1, h2, h3⟩ := hr _ hl
    rw [he] at h1 h2 h3
    exact ⟨rfl, by omega, b1, o1, ha, h1, h2, h3⟩

end Go.Proofs.Ytlpdlnefgjmgmaa
