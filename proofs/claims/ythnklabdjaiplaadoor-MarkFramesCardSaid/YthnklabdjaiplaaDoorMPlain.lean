/- Package mark, plain: first errors, codes, coalitions, copies. No program is named here. -/
import Derived.Test.YthnklabdjaiplaaDoorBase
namespace Go.Proofs.YthnklabdjaiplaaDoor
open Go.RowKit

/-- The first error among f 0, .., f (n - 1); 0: none. -/
def M.fst (f : Nat → Int) : Nat → Int
  | 0 => 0
  | n + 1 => if M.fst f n ≠ 0 then M.fst f n else f n

theorem M.fst_zero {f : Nat → Int} {n : Nat} : M.fst f n = 0 ↔ ∀ i, i < n → f i = 0 := by
  induction n with
  | zero => simp [M.fst]
  | succ n ih =>
    unfold M.fst
    by_cases h : M.fst f n = 0
    · rw [if_neg (by simpa using h)]
      refine ⟨fun hn i hi => ?_, fun h' => h' n (by omega)⟩
      rcases Nat.lt_succ_iff_lt_or_eq.1 hi with h1 | rfl
      · exact ih.1 h i h1
      · exact hn
    · rw [if_pos h]
      exact ⟨fun h' => absurd h' h, fun h' => absurd (ih.2 fun i hi => h' i (by omega)) h⟩

theorem M.fst_at {f : Nat → Int} {n k : Nat} (h : M.fst f k = 0) (hk : k < n) (he : f k ≠ 0) : M.fst f n = f k := by
  induction n with
  | zero => omega
  | succ n ih =>
    unfold M.fst
    rcases Nat.lt_succ_iff_lt_or_eq.1 hk with h1 | rfl
    · rw [ih h1, if_pos he]
    · rw [if_neg (by simpa using h)]

theorem M.fst_step {f : Nat → Int} {k : Nat} (h : M.fst f k = 0) (he : f k = 0) : M.fst f (k + 1) = 0 := by
  unfold M.fst; rw [if_neg (by simpa using h)]; exact he

/-- The error of a word: marks, places. -/
def M.wd (m : Int) (n : Nat) (w : List Int) : Int :=
  if w.length = n then M.fst (fun k => if w.getD k 0 < 0 ∨ m ≤ w.getD k 0 then 4 else 0) w.length else 3

/-- The places of a code. -/
def M.pl (T : List (List Int)) : Nat := (T.getD 0 []).length

/-- The error of a code. -/
def M.chk (m : Int) (T : List (List Int)) : Int :=
  if m < 2 ∨ 4 < m then 4 else if T.length = 0 then 1 else if 10 < T.length then 2 else if M.pl T = 0 ∨ 8 < M.pl T then 3
  else if M.fst (fun i => if (T.getD i []).length = M.pl T then 0 else 3) T.length = 0 then M.fst (fun i => M.wd m (M.pl T) (T.getD i [])) T.length else 3

/-- A valid code. -/
structure M.Ok (m : Int) (T : List (List Int)) : Prop where
  m2 : 2 ≤ m
  m4 : m ≤ 4
  n1 : 1 ≤ T.length
  n10 : T.length ≤ 10
  p1 : 1 ≤ M.pl T
  p8 : M.pl T ≤ 8
  len : ∀ i, i < T.length → (T.getD i []).length = M.pl T
  rng : ∀ i k, i < T.length → k < M.pl T → 0 ≤ (T.getD i []).getD k 0 ∧ (T.getD i []).getD k 0 < m

theorem M.wd_zero {m : Int} {n : Nat} {w : List Int} : M.wd m n w = 0 ↔ w.length = n ∧ ∀ k, k < n → 0 ≤ w.getD k 0 ∧ w.getD k 0 < m := by
  unfold M.wd
  by_cases h : w.length = n
  · rw [if_pos h, M.fst_zero, h]
    refine ⟨fun h' => ⟨rfl, fun k hk => ?_⟩, fun h' k hk => ?_⟩
    · have := h' k hk
      by_cases hb : w.getD k 0 < 0 ∨ m ≤ w.getD k 0
      · rw [if_pos hb] at this; omega
      · omega
    · have := h'.2 k hk
      rw [if_neg (by omega)]
  · rw [if_neg h]
    exact ⟨fun h' => by omega, fun h' => absurd h'.1 h⟩

theorem M.chk_zero {m : Int} {T : List (List Int)} : M.chk m T = 0 ↔ M.Ok m T := by
  unfold M.chk
  by_cases h1 : m < 2 ∨ 4 < m
  · rw [if_pos h1]; exact ⟨fun h => by omega, fun h => by have := h.m2; have := h.m4; omega⟩
  rw [if_neg h1]
  by_cases h2 : T.length = 0
  · rw [if_pos h2]; exact ⟨fun h => by omega, fun h => by have := h.n1; omega⟩
  rw [if_neg h2]
  by_cases h3 : 10 < T.length
  · rw [if_pos h3]; exact ⟨fun h => by omega, fun h => by have := h.n10; omega⟩
  rw [if_neg h3]
  by_cases h4 : M.pl T = 0 ∨ 8 < M.pl T
  · rw [if_pos h4]; exact ⟨fun h => by omega, fun h => by have := h.p1; have := h.p8; omega⟩
  rw [if_neg h4]
  by_cases h5 : M.fst (fun i => if (T.getD i []).length = M.pl T then 0 else 3) T.length = 0
  · rw [if_pos h5]
    have h5' : ∀ i, i < T.length → (T.getD i []).length = M.pl T := fun i hi => by
      have := M.fst_zero.1 h5 i hi
      by_cases hl : (T.getD i []).length = M.pl T
      · exact hl
      · simp only [if_neg hl] at this; omega
    rw [M.fst_zero]
    refine ⟨fun h => ⟨by omega, by omega, by omega, by omega, by omega, by omega, h5', fun i k hi hk => (M.wd_zero.1 (h i hi)).2 k hk⟩, fun h i hi => M.wd_zero.2 ⟨h5' i hi, fun k hk => h.rng i k hi hk⟩⟩
  · rw [if_neg h5]
    refine ⟨fun h => by omega, fun h => absurd (M.fst_zero.2 fun i hi => by rw [if_pos (h.len i hi)]) h5⟩

/-- The error of a coalition of n customers. -/
def M.co (n : Nat) (l : List Int) : Int :=
  if l.length = 0 then 1 else M.fst (fun i => if l.getD i 0 < 0 ∨ (n : Int) ≤ l.getD i 0 then 5 else if 0 < i ∧ l.getD i 0 ≤ l.getD (i - 1) 0 then 7 else 0) l.length

/-- A coalition: ascending customers. -/
structure M.Co (n : Nat) (l : List Int) : Prop where
  pos : 0 < l.length
  rg : ∀ i, i < l.length → 0 ≤ l.getD i 0 ∧ l.getD i 0 < n
  asc : ∀ i, i + 1 < l.length → l.getD i 0 < l.getD (i + 1) 0

theorem M.co_zero {n : Nat} {l : List Int} : M.co n l = 0 ↔ M.Co n l := by
  unfold M.co
  by_cases h : l.length = 0
  · rw [if_pos h]; exact ⟨fun h => by omega, fun h' => by have := h'.pos; omega⟩
  rw [if_neg h, M.fst_zero]
  constructor
  · intro h'
    have hr : ∀ i, i < l.length → 0 ≤ l.getD i 0 ∧ l.getD i 0 < n := fun i hi => by
      have := h' i hi
      by_cases hb : l.getD i 0 < 0 ∨ (n : Int) ≤ l.getD i 0
      · rw [if_pos hb] at this; omega
      · omega
    refine ⟨by omega, hr, fun i hi => ?_⟩
    have h2 := h' (i + 1) hi
    have h3 := hr (i + 1) hi
    rw [if_neg (by omega)] at h2
    by_cases hb : 0 < i + 1 ∧ l.getD (i + 1) 0 ≤ l.getD (i + 1 - 1) 0
    · rw [if_pos hb] at h2; omega
    · simp only [Nat.add_sub_cancel] at hb; omega
  · intro h' i hi
    have h2 := h'.rg i hi
    rw [if_neg (by omega)]
    cases i with
    | zero => rw [if_neg (by omega)]
    | succ i => have := h'.asc i hi; rw [if_neg (by simp only [Nat.add_sub_cancel]; omega)]

/-- Customer i's mark at place k. -/
def M.mk (T : List (List Int)) (i : Int) (k : Nat) : Int := (T.getD i.toNat []).getD k 0

/-- A coalition can make a word. -/
def M.can (T : List (List Int)) (l w : List Int) : Bool := (List.range w.length).all fun k => l.any fun i => M.mk T i k == w.getD k 0

theorem M.can_iff {T : List (List Int)} {l w : List Int} : M.can T l w = true ↔ ∀ k, k < w.length → ∃ i, i ∈ l ∧ M.mk T i k = w.getD k 0 := by
  simp [M.can, List.all_eq_true, List.any_eq_true]

/-- The distance of two words. -/
def M.dist (a b : List Int) : Nat := (List.range a.length).countP fun k => a.getD k 0 != b.getD k 0
end Go.Proofs.YthnklabdjaiplaaDoor
