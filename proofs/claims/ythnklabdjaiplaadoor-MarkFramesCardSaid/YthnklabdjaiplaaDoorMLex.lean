/- Package mark, plain: all coalitions of at most so many members in ascending order; comparing lists. No program is named here. -/
import Derived.Test.YthnklabdjaiplaaDoorMComb
namespace Go.Proofs.YthnklabdjaiplaaDoor
open Go.RowKit

/-- All coalitions with at most k members, of customers from a to a + m - 1, in ascending order. -/
def M.nx : Nat → Nat → Nat → List (List Nat)
  | _, 0, _ => []
  | 0, _ + 1, _ => []
  | m + 1, k + 1, a => [a] :: ((M.nx m k (a + 1)).map (a :: ·) ++ M.nx m (k + 1) (a + 1))

theorem M.mem_nx {m k a : Nat} {l : List Nat} : l ∈ M.nx m k a ↔ 0 < l.length ∧ l.length ≤ k ∧ M.asc a (a + m) l := by
  induction m generalizing k a l with
  | zero =>
    cases k with
    | zero => simp only [M.nx, List.not_mem_nil, false_iff]; omega
    | succ k =>
      simp only [M.nx, List.not_mem_nil, false_iff]
      rintro ⟨h, _, h2⟩
      cases l with
      | nil => simp at h
      | cons x l => have := h2.1; have := h2.2.1; omega
  | succ m ih =>
    cases k with
    | zero => simp only [M.nx, List.not_mem_nil, false_iff]; omega
    | succ k =>
      simp only [M.nx, List.mem_cons, List.mem_append, List.mem_map, ih]
      rw [show a + (m + 1) = a + 1 + m from by omega]
      constructor
      · rintro (rfl | ⟨t, ⟨h1, h2, h3⟩, rfl⟩ | ⟨h1, h2, h3⟩)
        · exact ⟨by simp, by simp, Nat.le_refl _, by omega, trivial⟩
        · exact ⟨by simp, by simp; omega, Nat.le_refl _, by omega, h3⟩
        · exact ⟨h1, h2, M.asc_mono h3 (by omega)⟩
      · rintro ⟨h1, h2, h3⟩
        cases l with
        | nil => simp at h1
        | cons x l =>
          obtain ⟨h4, h5, h6⟩ := h3
          by_cases hx : x = a
          · subst hx
            cases l with
            | nil => exact .inl rfl
            | cons y l => exact .inr (.inl ⟨y :: l, ⟨by simp, by simpa using h2, h6⟩, rfl⟩)
          · exact .inr (.inr ⟨h1, h2, by omega, h5, h6⟩)

theorem M.nx_sorted (m k a : Nat) : (M.nx m k a).Pairwise M.lex := by
  induction m generalizing k a with
  | zero => cases k <;> simp [M.nx]
  | succ m ih =>
    cases k with
    | zero => simp [M.nx]
    | succ k =>
      simp only [M.nx, List.pairwise_cons, List.pairwise_append]
      refine ⟨?_, ?_, ih _ _, ?_⟩
      · intro x hx
        rcases List.mem_append.1 hx with h | h
        · obtain ⟨t, ht, rfl⟩ := List.mem_map.1 h
          refine .inr ⟨rfl, ?_⟩
          have := (M.mem_nx.1 ht).1
          cases t with
          | nil => simp at this
          | cons y t => trivial
        · have h' := M.mem_nx.1 h
          cases x with
          | nil => have := h'.1; simp at this
          | cons y x => exact .inl (by have := h'.2.2.1; omega)
      · rw [List.pairwise_map]
        exact (ih k (a + 1)).imp fun h => .inr ⟨rfl, h⟩
      · intro x hx y hy
        obtain ⟨t, _, rfl⟩ := List.mem_map.1 hx
        have hy' := M.mem_nx.1 hy
        cases y with
        | nil => have := hy'.1; simp at this
        | cons z y => exact .inl (by have := hy'.2.2.1; omega)

/-- All coalitions of at most k of N customers, in ascending order. -/
def M.lxs (N k : Nat) : List (List Nat) := M.nx N k 0
theorem M.mem_lxs {N k : Nat} {l : List Nat} : l ∈ M.lxs N k ↔ l ∈ M.all N k := by
  rw [M.mem_all]
  unfold M.lxs
  rw [M.mem_nx, Nat.zero_add]
theorem M.lxs_sorted (N k : Nat) : (M.lxs N k).Pairwise M.lex := M.nx_sorted N k 0

/-- Comparing two lists: below 0 just if the one comes first. -/
def M.cmpL : List Nat → List Nat → Int
  | [], [] => 0
  | [], _ :: _ => -1
  | _ :: _, [] => 1
  | x :: l, y :: r => if x < y then -1 else if y < x then 1 else M.cmpL l r
theorem M.cmpL_neg : ∀ {a b : List Nat}, M.cmpL a b < 0 ↔ M.lex a b
  | [], [] => by simp [M.cmpL, M.lex]
  | [], _ :: _ => by simp [M.cmpL, M.lex]
  | _ :: _, [] => by simp [M.cmpL, M.lex]
  | x :: l, y :: r => by
    unfold M.cmpL M.lex
    by_cases h : x < y
    · simp [h]
    · by_cases h2 : y < x
      · rw [if_neg h, if_pos h2]
        constructor
        · intro h3; omega
        · rintro (h3 | ⟨h3, _⟩)
          · omega
          · omega
      · rw [if_neg h, if_neg h2, M.cmpL_neg]
        constructor
        · intro h3; exact .inr ⟨by omega, h3⟩
        · rintro (h3 | ⟨_, h3⟩)
          · omega
          · exact h3
theorem M.cmpL_len : ∀ {a b : List Nat} {k : Nat}, a.take k = b.take k → k = a.length → k ≤ b.length → M.cmpL a b = if k < b.length then -1 else 0
  | [], [], k, _, hk, _ => by subst hk; simp [M.cmpL]
  | [], _ :: _, k, _, hk, _ => by subst hk; simp [M.cmpL]
  | _ :: _, [], k, _, hk, hl => by simp at hk hl; omega
  | x :: a, y :: b, k, h, hk, hl => by
    cases k with
    | zero => simp at hk
    | succ k =>
      simp only [List.take_succ_cons, List.cons.injEq] at h
      obtain ⟨rfl, h⟩ := h
      unfold M.cmpL
      rw [if_neg (by omega), if_neg (by omega), M.cmpL_len h (by simpa using hk) (by simpa using hl)]
      simp
theorem M.cmpL_short : ∀ {a b : List Nat} {k : Nat}, a.take k = b.take k → k = b.length → k < a.length → M.cmpL a b = 1
  | [], _, k, _, _, hl => by simp at hl
  | _ :: _, [], k, _, hk, _ => by simp [M.cmpL]
  | x :: a, y :: b, k, h, hk, hl => by
    cases k with
    | zero => simp at hk
    | succ k =>
      simp only [List.take_succ_cons, List.cons.injEq] at h
      obtain ⟨rfl, h⟩ := h
      unfold M.cmpL
      rw [if_neg (by omega), if_neg (by omega), M.cmpL_short h (by simpa using hk) (by simpa using hl)]
theorem M.cmpL_at : ∀ {a b : List Nat} {k : Nat}, a.take k = b.take k → k < a.length → k < b.length → a.getD k 0 ≠ b.getD k 0 → M.cmpL a b = if a.getD k 0 < b.getD k 0 then -1 else 1
  | [], _, k, _, hl, _, _ => by simp at hl
  | _ :: _, [], k, _, _, hl, _ => by simp at hl
  | x :: a, y :: b, k, h, h1, h2, hn => by
    cases k with
    | zero =>
      simp only [List.getD_cons_zero] at hn ⊢
      unfold M.cmpL
      by_cases hxy : x < y
      · rw [if_pos hxy, if_pos hxy]
      · rw [if_neg hxy, if_neg hxy, if_pos (by omega)]
    | succ k =>
      simp only [List.take_succ_cons, List.cons.injEq] at h
      obtain ⟨rfl, h⟩ := h
      simp only [List.getD_cons_succ] at hn ⊢
      unfold M.cmpL
      rw [if_neg (by omega), if_neg (by omega), M.cmpL_at h (by simpa using h1) (by simpa using h2) hn]
theorem M.take_next {a b : List Nat} {k : Nat} (h : a.take k = b.take k) (h1 : k < a.length) (h2 : k < b.length) (e : a.getD k 0 = b.getD k 0) : a.take (k + 1) = b.take (k + 1) := by
  have ea : a.getD k 0 = a[k] := by rw [List.getD_eq_getElem?_getD, List.getElem?_eq_getElem h1]; rfl
  have eb : b.getD k 0 = b[k] := by rw [List.getD_eq_getElem?_getD, List.getElem?_eq_getElem h2]; rfl
  rw [List.take_succ_eq_append_getElem h1, List.take_succ_eq_append_getElem h2, h, ← ea, ← eb, e]
end Go.Proofs.YthnklabdjaiplaaDoor
