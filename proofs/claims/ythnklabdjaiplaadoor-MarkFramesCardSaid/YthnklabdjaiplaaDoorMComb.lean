/- Package mark, plain: all coalitions with just so many members, in ascending order, and the step from one to the next. No program is named here. -/
import Derived.Test.YthnklabdjaiplaaDoorMPlain
import Derived.KernelRfl
namespace Go.Proofs.YthnklabdjaiplaaDoor
open Go.RowKit

/-- All ascending lists of k numbers from a to a + m - 1, in ascending order. -/
def M.sub : Nat → Nat → Nat → List (List Nat)
  | _, 0, _ => [[]]
  | 0, _ + 1, _ => []
  | m + 1, k + 1, a => (M.sub m k (a + 1)).map (a :: ·) ++ M.sub m (k + 1) (a + 1)

/-- Strictly ascending from a on, below b. -/
def M.asc (a b : Nat) : List Nat → Prop
  | [] => True
  | x :: l => a ≤ x ∧ x < b ∧ M.asc (x + 1) b l

theorem M.asc_mono {a a' b : Nat} : ∀ {l : List Nat}, M.asc a b l → a' ≤ a → M.asc a' b l
  | [], _, _ => trivial
  | _ :: _, h, ha => ⟨Nat.le_trans ha h.1, h.2.1, h.2.2⟩

theorem M.mem_sub {m k a : Nat} {l : List Nat} : l ∈ M.sub m k a ↔ l.length = k ∧ M.asc a (a + m) l := by
  induction m generalizing k a l with
  | zero =>
    cases k with
    | zero =>
      simp only [M.sub, List.mem_singleton]
      constructor
      · rintro rfl; exact ⟨rfl, trivial⟩
      · rintro ⟨h, _⟩; exact List.length_eq_zero_iff.1 h
    | succ k =>
      simp only [M.sub, List.not_mem_nil, false_iff]
      rintro ⟨h, h2⟩
      cases l with
      | nil => cases h
      | cons x l => have := h2.1; have := h2.2.1; omega
  | succ m ih =>
    cases k with
    | zero =>
      simp only [M.sub, List.mem_singleton]
      constructor
      · rintro rfl; exact ⟨rfl, trivial⟩
      · rintro ⟨h, _⟩; exact List.length_eq_zero_iff.1 h
    | succ k =>
      simp only [M.sub, List.mem_append, List.mem_map, ih]
      constructor
      · rintro (⟨t, ⟨h1, h2⟩, rfl⟩ | ⟨h1, h2⟩)
        · exact ⟨by simp [h1], Nat.le_refl _, by omega, by rw [show a + (m + 1) = a + 1 + m from by omega]; exact h2⟩
        · exact ⟨h1, by rw [show a + (m + 1) = a + 1 + m from by omega]; exact M.asc_mono h2 (by omega)⟩
      · rintro ⟨h1, h2⟩
        cases l with
        | nil => cases h1
        | cons x l =>
          obtain ⟨h3, h4, h5⟩ := h2
          rw [show a + (m + 1) = a + 1 + m from by omega] at h4 h5
          by_cases hx : x = a
          · subst hx
            exact .inl ⟨l, ⟨by simpa using h1, h5⟩, rfl⟩
          · exact .inr ⟨h1, by omega, h4, h5⟩

/-- The order of lists (R6), strictly. -/
def M.lex : List Nat → List Nat → Prop
  | [], [] => False
  | [], _ :: _ => True
  | _ :: _, [] => False
  | x :: l, y :: r => x < y ∨ (x = y ∧ M.lex l r)

theorem M.lex_irrefl : ∀ l : List Nat, ¬ M.lex l l
  | [] => id
  | x :: l => fun h => by
    rcases h with h | ⟨_, h⟩
    · omega
    · exact M.lex_irrefl l h

theorem M.lex_trans : ∀ {a b c : List Nat}, M.lex a b → M.lex b c → M.lex a c
  | [], [], _, h, _ => h.elim
  | [], _ :: _, [], _, k => k.elim
  | [], _ :: _, _ :: _, _, _ => trivial
  | _ :: _, [], _, h, _ => h.elim
  | _ :: _, _ :: _, [], _, k => k.elim
  | x :: a, y :: b, z :: c, h, k => by
    rcases h with h | ⟨rfl, h⟩
    · rcases k with k | ⟨rfl, _⟩
      · exact .inl (by omega)
      · exact .inl h
    · rcases k with k | ⟨rfl, k⟩
      · exact .inl k
      · exact .inr ⟨rfl, M.lex_trans h k⟩

theorem M.lex_total : ∀ (a b : List Nat), M.lex a b ∨ a = b ∨ M.lex b a
  | [], [] => .inr (.inl rfl)
  | [], _ :: _ => .inl trivial
  | _ :: _, [] => .inr (.inr trivial)
  | x :: a, y :: b => by
    rcases Nat.lt_trichotomy x y with h | rfl | h
    · exact .inl (.inl h)
    · rcases M.lex_total a b with h | rfl | h
      · exact .inl (.inr ⟨rfl, h⟩)
      · exact .inr (.inl rfl)
      · exact .inr (.inr (.inr ⟨rfl, h⟩))
    · exact .inr (.inr (.inl h))

theorem M.sub_sorted (m k a : Nat) : (M.sub m k a).Pairwise M.lex := by
  induction m generalizing k a with
  | zero => cases k <;> simp [M.sub]
  | succ m ih =>
    cases k with
    | zero => simp [M.sub]
    | succ k =>
      simp only [M.sub, List.pairwise_append]
      refine ⟨?_, ih _ _, ?_⟩
      · rw [List.pairwise_map]
        exact (ih k (a + 1)).imp fun h => .inr ⟨rfl, h⟩
      · intro x hx y hy
        obtain ⟨t, _, rfl⟩ := List.mem_map.1 hx
        have hy' := M.mem_sub.1 hy
        cases y with
        | nil => have := hy'.1; simp at this
        | cons z y => exact .inl (by have := hy'.2.1; omega)

/-- Two strictly ascending lists with the same members are one. -/
theorem M.sorted_ext : ∀ {A B : List (List Nat)}, A.Pairwise M.lex → B.Pairwise M.lex → (∀ l, l ∈ A ↔ l ∈ B) → A = B
  | [], [], _, _, _ => rfl
  | [], b :: _, _, _, h => by have := (h b).2 (by simp); simp at this
  | a :: _, [], _, _, h => by have := (h a).1 (by simp); simp at this
  | a :: A, b :: B, hA, hB, h => by
    rw [List.pairwise_cons] at hA hB
    have hab : a = b := by
      rcases List.mem_cons.1 ((h a).1 (by simp)) with h1 | h1
      · exact h1
      · rcases List.mem_cons.1 ((h b).2 (by simp)) with h2 | h2
        · exact h2.symm
        · exact absurd (M.lex_trans (hB.1 a h1) (hA.1 b h2)) (M.lex_irrefl b)
    subst hab
    rw [M.sorted_ext hA.2 hB.2 fun l => ?_]
    constructor
    · intro hl
      rcases List.mem_cons.1 ((h l).1 (List.mem_cons_of_mem _ hl)) with rfl | h2
      · exact absurd (hA.1 l hl) (M.lex_irrefl l)
      · exact h2
    · intro hl
      rcases List.mem_cons.1 ((h l).2 (List.mem_cons_of_mem _ hl)) with rfl | h2
      · exact absurd (hB.1 l hl) (M.lex_irrefl l)
      · exact h2

/-- Counting up from a number. -/
def M.up (x k : Nat) : List Nat := (List.range k).map (x + ·)

/-- The next list of numbers below n: looked for below index i. -/
def M.bump (n : Nat) (l : List Nat) : Nat → Option (List Nat)
  | 0 => none
  | i + 1 => if l.getD i 0 + l.length < n + i then some (l.take i ++ M.up (l.getD i 0 + 1) (l.length - i)) else M.bump n l i

def M.adv (n : Nat) (l : List Nat) : Option (List Nat) := M.bump n l l.length

/-- Each list's next one is the one behind it. -/
def M.chain (n : Nat) : List (List Nat) → Bool
  | [] => true
  | [x] => M.adv n x == none
  | x :: y :: t => M.adv n x == some y && M.chain n (y :: t)

theorem M.chain_next {n : Nat} : ∀ {L : List (List Nat)}, M.chain n L = true → ∀ j (h : j + 1 < L.length), M.adv n (L[j]'(by omega)) = some L[j + 1]
  | [], _, j, h => by simp at h
  | [_], _, j, h => by simp at h
  | x :: y :: t, hc, j, h => by
    simp only [M.chain, Bool.and_eq_true, beq_iff_eq] at hc
    cases j with
    | zero => exact hc.1
    | succ j => exact M.chain_next (L := y :: t) hc.2 j (by simpa using h)

theorem M.chain_last {n : Nat} : ∀ {L : List (List Nat)}, M.chain n L = true → ∀ j (h : j < L.length), j + 1 = L.length → M.adv n L[j] = none
  | [], _, j, h, _ => by simp at h
  | [x], hc, j, h, hl => by
    obtain rfl : j = 0 := by simpa using h
    simpa [M.chain] using hc
  | x :: y :: t, hc, j, h, hl => by
    simp only [M.chain, Bool.and_eq_true] at hc
    cases j with
    | zero => simp at hl
    | succ j => exact M.chain_last (L := y :: t) hc.2 j (by simpa using h) (by simpa using hl)

/-- All coalitions of k of n customers. -/
def M.combs (n k : Nat) : List (List Nat) := M.sub n k 0

theorem M.combs_ok : ((List.range 11).all fun n => (List.range 11).all fun k => M.chain n (M.combs n k) && (decide (n < k) || (M.combs n k).head? == some (M.up 0 k))) = true := by kernel_rfl

theorem M.combs_chain {n k : Nat} (hn : n ≤ 10) (hk : k ≤ 10) : M.chain n (M.combs n k) = true := by
  have h := List.all_eq_true.1 (List.all_eq_true.1 M.combs_ok n (by simp; omega)) k (by simp; omega)
  simp only [Bool.and_eq_true] at h
  exact h.1

theorem M.combs_head {n k : Nat} (hn : n ≤ 10) (hk : k ≤ n) : (M.combs n k).head? = some (M.up 0 k) := by
  have h := List.all_eq_true.1 (List.all_eq_true.1 M.combs_ok n (by simp; omega)) k (by simp; omega)
  simp only [Bool.and_eq_true, Bool.or_eq_true, decide_eq_true_eq, beq_iff_eq] at h
  rcases h.2 with h2 | h2
  · omega
  · exact h2

theorem M.combs_none {n k : Nat} (h : n < k) : M.combs n k = [] := by
  apply List.eq_nil_iff_forall_not_mem.2
  intro l hl
  have hl' := M.mem_sub.1 hl
  have : ∀ (a b : Nat) (l : List Nat), M.asc a b l → a + l.length ≤ b ∨ l = [] := by
    intro a b l
    induction l generalizing a with
    | nil => intro _; exact .inr rfl
    | cons x l ih =>
      rintro ⟨h1, h2, h3⟩
      rcases ih _ h3 with h4 | rfl
      · left; simp; omega
      · left; simp; omega
  rcases this _ _ _ hl'.2 with h1 | rfl
  · omega
  · have := hl'.1; simp at this; omega

/-- All coalitions of at most so many members, those with fewer members first. -/
def M.all (n most : Nat) : List (List Nat) := (List.range most).flatMap fun s => M.combs n (s + 1)

theorem M.all_succ (n most : Nat) : M.all n (most + 1) = M.all n most ++ M.combs n (most + 1) := by
  unfold M.all
  rw [List.range_succ, List.flatMap_append]
  simp

theorem M.mem_all {n most : Nat} {l : List Nat} : l ∈ M.all n most ↔ 0 < l.length ∧ l.length ≤ most ∧ M.asc 0 n l := by
  unfold M.all M.combs
  simp only [List.mem_flatMap, List.mem_range, M.mem_sub, Nat.zero_add]
  constructor
  · rintro ⟨s, hs, h1, h2⟩; exact ⟨by omega, by omega, h2⟩
  · rintro ⟨h1, h2, h3⟩; exact ⟨l.length - 1, by omega, by omega, h3⟩
end Go.Proofs.YthnklabdjaiplaaDoor
