/- Package cross: in plain. -/
import Derived.Test.YthaoacnaeafbeaaBase
namespace Go.Proofs.Ythaoacnaeafbeaa
open Go.RowKit

/-- The first number that is not 0. -/
def X.fst (f : Nat → Int) : Nat → Int
  | 0 => 0
  | n + 1 => if X.fst f n ≠ 0 then X.fst f n else f n
theorem X.fst_zero {f : Nat → Int} {n : Nat} : X.fst f n = 0 ↔ ∀ i, i < n → f i = 0 := by
  induction n with
  | zero => simp [X.fst]
  | succ n ih =>
    unfold X.fst
    by_cases h : X.fst f n = 0
    · rw [if_neg (by simpa using h)]
      refine ⟨fun hn i hi => ?_, fun h' => h' n (by omega)⟩
      rcases Nat.lt_succ_iff_lt_or_eq.1 hi with h1 | rfl
      · exact ih.1 h i h1
      · exact hn
    · rw [if_pos h]
      exact ⟨fun h' => absurd h' h, fun h' => absurd (ih.2 fun i hi => h' i (by omega)) h⟩
theorem X.fst_at {f : Nat → Int} {n k : Nat} (h : X.fst f k = 0) (hk : k < n) (he : f k ≠ 0) : X.fst f n = f k := by
  induction n with
  | zero => omega
  | succ n ih =>
    unfold X.fst
    rcases Nat.lt_succ_iff_lt_or_eq.1 hk with h1 | rfl
    · rw [ih h1, if_pos he]
    · rw [if_neg (by simpa using h)]
theorem X.fst_step {f : Nat → Int} {k : Nat} (h : X.fst f k = 0) (he : f k = 0) : X.fst f (k + 1) = 0 := by
  unfold X.fst; rw [if_neg (by simpa using h)]; exact he

/-- The number from lo to hi. -/
def X.wi (n lo hi : Int) : Bool := decide (lo ≤ n) && decide (n ≤ hi)
theorem X.wi_true {n lo hi : Int} : X.wi n lo hi = true ↔ lo ≤ n ∧ n ≤ hi := by unfold X.wi; simp
theorem X.wi_false {n lo hi : Int} : X.wi n lo hi = false ↔ ¬ (lo ≤ n ∧ n ≤ hi) := by
  rw [← X.wi_true]; simp
/-- The error of one number of a list. -/
def X.er (most : Int) (l : List Int) (k : Nat) : Int := if X.wi (l.getD k 0) 0 most = false then 4 else if 0 < k ∧ l.getD k 0 ≤ l.getD (k - 1) 0 then 7 else 0
def X.asc (most : Int) (l : List Int) : Int := X.fst (X.er most l) l.length
/-- The error of a rule. -/
def X.chk (l : List Int) : Int := if l.length < 2 then 1 else if 8 < l.length then 2 else X.asc 60 l
/-- A list in strictly ascending order, from 0 to most. -/
structure X.Up (most : Int) (l : List Int) : Prop where
  lo : ∀ i, i < l.length → 0 ≤ l.getD i 0
  hi : ∀ i, i < l.length → l.getD i 0 ≤ most
  lt : ∀ i k, i < k → k < l.length → l.getD i 0 < l.getD k 0
theorem X.asc_zero {most : Int} {l : List Int} : X.asc most l = 0 ↔ X.Up most l := by
  unfold X.asc
  rw [X.fst_zero]
  constructor
  · intro h
    have h1 : ∀ i, i < l.length → (0 ≤ l.getD i 0 ∧ l.getD i 0 ≤ most) ∧ ¬ (0 < i ∧ l.getD i 0 ≤ l.getD (i - 1) 0) := fun i hi => by
      have := h i hi
      unfold X.er at this
      split at this
      · omega
      rename_i e1
      split at this
      · omega
      rename_i e2
      exact ⟨X.wi_true.1 (by simpa using e1), e2⟩
    refine ⟨fun i hi => (h1 i hi).1.1, fun i hi => (h1 i hi).1.2, ?_⟩
    intro i k
    induction k with
    | zero => intro h; omega
    | succ k ih =>
      intro h2 h3
      have := (h1 (k + 1) h3).2
      rw [Nat.add_sub_cancel] at this
      by_cases e : i = k
      · subst e; omega
      · have := ih (by omega) (by omega); omega
  · intro h i hi
    unfold X.er
    rw [if_neg (by rw [X.wi_true.2 ⟨h.lo i hi, h.hi i hi⟩]; simp), if_neg]
    rintro ⟨h1, h2⟩
    have := h.lt (i - 1) i (by omega) hi
    omega
/-- A rule. -/
structure X.Ok (l : List Int) : Prop where
  up : X.Up 60 l
  two : 2 ≤ l.length
  eight : l.length ≤ 8
theorem X.chk_zero {l : List Int} : X.chk l = 0 ↔ X.Ok l := by
  unfold X.chk
  by_cases h1 : l.length < 2
  · rw [if_pos h1]; exact ⟨fun h => by omega, fun h => by have := h.two; omega⟩
  rw [if_neg h1]
  by_cases h2 : 8 < l.length
  · rw [if_pos h2]; exact ⟨fun h => by omega, fun h => by have := h.eight; omega⟩
  rw [if_neg h2, X.asc_zero]
  exact ⟨fun h => ⟨h, by omega, by omega⟩, fun h => h.up⟩
theorem X.Ok.rng {l : List Int} (h : X.Ok l) {i k : Nat} (h1 : i < k) (h2 : k < l.length) : 1 ≤ l.getD k 0 - l.getD i 0 ∧ l.getD k 0 - l.getD i 0 ≤ 60 := by
  have := h.up.lt i k h1 h2
  have := h.up.lo i (by omega)
  have := h.up.hi k h2
  omega

/-- Pairs with first i, second from k on; all pairs with first from i on. -/
def X.seg (ok : Nat → Nat → Bool) (n i : Nat) : Nat → Nat → List (Nat × Nat)
  | 0, _ => []
  | f + 1, k => if ok i k = true then (i, k) :: X.seg ok n i f (k + 1) else X.seg ok n i f (k + 1)
def X.from (ok : Nat → Nat → Bool) (n : Nat) : Nat → Nat → List (Nat × Nat)
  | 0, _ => []
  | f + 1, i => X.seg ok n i n 0 ++ X.from ok n f (i + 1)
def X.up (i k : Nat) : Bool := decide (i < k)
def X.ne (i k : Nat) : Bool := decide (i ≠ k)
theorem X.mem_seg {ok : Nat → Nat → Bool} {n i : Nat} : ∀ {f k : Nat} {p : Nat × Nat}, p ∈ X.seg ok n i f k ↔ p.1 = i ∧ k ≤ p.2 ∧ p.2 < k + f ∧ ok i p.2 = true
  | 0, k, p => by
    unfold X.seg
    exact ⟨fun h => absurd h List.not_mem_nil, fun h => by omega⟩
  | f + 1, k, p => by
    have ih := X.mem_seg (ok := ok) (n := n) (i := i) (f := f) (k := k + 1) (p := p)
    unfold X.seg
    obtain ⟨p1, p2⟩ := p
    dsimp only at *
    by_cases h : ok i k = true
    · rw [if_pos h, List.mem_cons, ih]
      constructor
      · rintro (h1 | h1)
        · obtain ⟨rfl, rfl⟩ := Prod.mk.inj h1; exact ⟨rfl, Nat.le_refl _, by omega, h⟩
        · exact ⟨h1.1, by omega, by omega, h1.2.2.2⟩
      · rintro ⟨h1, h2, h3, h4⟩
        by_cases e : p2 = k
        · exact .inl (by rw [h1, e])
        · exact .inr ⟨h1, by omega, by omega, h4⟩
    · rw [if_neg h, ih]
      constructor
      · rintro ⟨h1, h2, h3, h4⟩; exact ⟨h1, by omega, by omega, h4⟩
      · rintro ⟨h1, h2, h3, h4⟩
        refine ⟨h1, ?_, by omega, h4⟩
        by_cases e : p2 = k
        · exact absurd (by rw [← e]; exact h4) h
        · omega
theorem X.mem_from {ok : Nat → Nat → Bool} {n : Nat} : ∀ {f i : Nat} {p : Nat × Nat}, p ∈ X.from ok n f i ↔ i ≤ p.1 ∧ p.1 < i + f ∧ p.2 < n ∧ ok p.1 p.2 = true
  | 0, i, p => by
    unfold X.from
    exact ⟨fun h => absurd h List.not_mem_nil, fun h => by omega⟩
  | f + 1, i, p => by
    unfold X.from
    rw [List.mem_append, X.mem_seg, X.mem_from]
    constructor
    · rintro (⟨h1, h2, h3, h4⟩ | ⟨h1, h2, h3, h4⟩)
      · exact ⟨by omega, by omega, by omega, by rw [h1]; exact h4⟩
      · exact ⟨by omega, by omega, h3, h4⟩
    · rintro ⟨h1, h2, h3, h4⟩
      by_cases e : p.1 = i
      · exact .inl ⟨e, by omega, by omega, by rw [← e]; exact h4⟩
      · exact .inr ⟨by omega, by omega, h3, h4⟩

/-- The pair that was met last with a distance, of pairs met from the last one on. -/
def X.met (D : Nat × Nat → Nat) (S : List (Nat × Nat)) (d : Nat) : Nat × Nat := (S.find? fun p => D p == d).getD (0, 0)
/-- The two pairs that are passed on last. -/
def X.tw (D : Nat × Nat → Nat) : List (Nat × Nat) → Option ((Nat × Nat) × (Nat × Nat))
  | [] => none
  | p :: S => match S.find? (fun q => D q == D p) with
    | some q => some (p, q)
    | none => X.tw D S
theorem X.met_cons {D : Nat × Nat → Nat} {S : List (Nat × Nat)} {p : Nat × Nat} {d : Nat} : X.met D (p :: S) d = if d = D p then p else X.met D S d := by
  unfold X.met
  rw [List.find?_cons]
  by_cases h : d = D p
  · rw [if_pos h, show (D p == d) = true by rw [h]; simp]; rfl
  · rw [if_neg h, show (D p == d) = false by simpa using fun e => h e.symm]
/-- A distance was met. -/
def X.has (D : Nat × Nat → Nat) (S : List (Nat × Nat)) (d : Nat) : Bool := S.any fun p => D p == d
theorem X.has_met {D : Nat × Nat → Nat} {S : List (Nat × Nat)} {d : Nat} (h0 : ∀ p ∈ S, p.1 ≠ p.2) : (X.has D S d = true ∧ S.find? (fun p => D p == d) = some (X.met D S d) ∧ (X.met D S d).1 ≠ (X.met D S d).2) ∨ (X.has D S d = false ∧ S.find? (fun p => D p == d) = none ∧ X.met D S d = (0, 0)) := by
  unfold X.has X.met
  cases h : S.find? (fun p => D p == d) with
  | none =>
    refine .inr ⟨?_, rfl, rfl⟩
    rw [List.any_eq_false]
    exact fun p hp => List.find?_eq_none.1 h p hp
  | some q =>
    refine .inl ⟨?_, rfl, h0 q (List.mem_of_find?_eq_some h)⟩
    rw [List.any_eq_true]
    exact ⟨q, List.mem_of_find?_eq_some h, by simpa using List.find?_some (p := fun p => D p == d) h⟩
theorem X.met_lt {D : Nat × Nat → Nat} {S : List (Nat × Nat)} {d : Nat} (h : ∀ p ∈ S, p.1 < 8 ∧ p.2 < 8) : (X.met D S d).1 < 8 ∧ (X.met D S d).2 < 8 := by
  unfold X.met
  cases hf : S.find? (fun p => D p == d) with
  | none => exact ⟨by decide, by decide⟩
  | some q => exact h q (List.mem_of_find?_eq_some hf)
end Go.Proofs.Ythaoacnaeafbeaa
