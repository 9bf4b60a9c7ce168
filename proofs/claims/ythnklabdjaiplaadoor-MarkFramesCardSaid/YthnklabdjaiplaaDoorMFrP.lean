/- Package mark, plain: the smallest coalition that frames, by going through all in ascending order. -/
import Derived.Test.YthnklabdjaiplaaDoorMBef
import Derived.Test.YthnklabdjaiplaaDoorMFra
namespace Go.Proofs.YthnklabdjaiplaaDoor
open Go.RowKit

/-- No smaller one: by members, then by order. -/
def M.le (b c : List Nat) : Prop := b.length < c.length ∨ (b.length = c.length ∧ (b = c ∨ M.lex b c))
/-- The best so far. -/
structure M.St (T : List (List Int)) (P : List (List Nat)) (b : List Nat) (cu : Nat) : Prop where
  nn : b = [] → cu = 0 ∧ ∀ c ∈ P, M.frw T c = none
  ss : b ≠ [] → b ∈ P ∧ M.frw T b = some cu ∧ ∀ c ∈ P, (M.frw T c).isSome = true → M.le b c
/-- May a coalition be better than the best so far? -/
def M.elig (b c : List Nat) : Prop := b.length = 0 ∨ c.length < b.length ∨ ¬ M.lex b c
/-- The best so far, in the midst of a coalition's customers: those from j on are done. -/
def M.Mid (T : List (List Int)) (c b0 : List Nat) (c0 j : Nat) (b : List Nat) (cu : Nat) : Prop :=
  (b = b0 ∧ cu = c0 ∧ (M.elig b0 c → ∀ k, j ≤ k → k < T.length → M.frp T c k = false)) ∨
  (M.elig b0 c ∧ b = c ∧ j ≤ cu ∧ cu < T.length ∧ M.frp T c cu = true ∧ ∀ k, j ≤ k → k < cu → M.frp T c k = false)
theorem M.Mid.start (T : List (List Int)) (c b0 : List Nat) (c0 : Nat) : M.Mid T c b0 c0 T.length b0 c0 := .inl ⟨rfl, rfl, fun _ k h1 h2 => by omega⟩
/-- The condition of a round, by what is known. -/
theorem M.Mid.hit {T : List (List Int)} {c b0 : List Nat} {c0 q : Nat} {b : List Nat} {cu : Nat} (h : M.Mid T c b0 c0 (q + 1) b cu) (hq : q < T.length) (hf : M.frp T c q = true) (he : M.elig b c) : M.Mid T c b0 c0 q c q := by
  rcases h with ⟨rfl, rfl, h3⟩ | ⟨h1, rfl, h3, h4, h5, h6⟩
  · exact .inr ⟨he, rfl, Nat.le_refl _, hq, hf, fun k h1 h2 => by omega⟩
  · exact .inr ⟨h1, rfl, Nat.le_refl _, hq, hf, fun k h1 h2 => by omega⟩
theorem M.Mid.miss {T : List (List Int)} {c b0 : List Nat} {c0 q : Nat} {b : List Nat} {cu : Nat} (h : M.Mid T c b0 c0 (q + 1) b cu) (hc : 0 < c.length) (hf : M.frp T c q = false ∨ ¬ M.elig b c) : M.Mid T c b0 c0 q b cu := by
  rcases h with ⟨rfl, rfl, h3⟩ | ⟨h1, rfl, h3, h4, h5, h6⟩
  · refine .inl ⟨rfl, rfl, fun he k h1 h2 => ?_⟩
    rcases hf with hf | hf
    · by_cases e : k = q
      · subst e; exact hf
      · exact h3 he k (by omega) h2
    · exact absurd he hf
  · refine .inr ⟨h1, rfl, by omega, h4, h5, fun k h7 h8 => ?_⟩
    by_cases e : k = q
    · subst e
      rcases hf with hf | hf
      · exact hf
      · exact absurd (.inr (.inr (M.lex_irrefl _))) hf
    · exact h6 k (by omega) h8
/-- All customers of a coalition are done. -/
theorem M.St.step {T : List (List Int)} {P : List (List Nat)} {c b0 b : List Nat} {c0 cu : Nat} (h : M.St T P b0 c0) (hP : ∀ x ∈ P, M.lex x c) (hc : 0 < c.length) (hm : M.Mid T c b0 c0 0 b cu) : M.St T (P ++ [c]) b cu := by
  have hne : c ≠ [] := by intro e; rw [e] at hc; simp at hc
  rcases hm with ⟨rfl, rfl, h3⟩ | ⟨h1, rfl, h3, h4, h5, h6⟩
  · refine ⟨fun e => ⟨(h.nn e).1, fun x hx => ?_⟩, fun e => ?_⟩
    · rcases List.mem_append.1 hx with hx | hx
      · exact (h.nn e).2 x hx
      · rw [List.mem_singleton.1 hx]
        exact M.frw_none fun j hj => h3 (.inl (by rw [e]; rfl)) j (Nat.zero_le _) hj
    · obtain ⟨g1, g2, g3⟩ := h.ss e
      refine ⟨List.mem_append_left _ g1, g2, fun x hx hs => ?_⟩
      rcases List.mem_append.1 hx with hx | hx
      · exact g3 x hx hs
      · rw [List.mem_singleton.1 hx] at hs ⊢
        have hlx := hP b g1
        by_cases hl : c.length < b.length
        · have : M.frw T c = none := M.frw_none fun j hj => h3 (.inr (.inl hl)) j (Nat.zero_le _) hj
          rw [this] at hs
          cases hs
        · by_cases hl2 : b.length < c.length
          · exact .inl hl2
          · exact .inr ⟨by omega, .inr hlx⟩
  · have hw : M.frw T b = some cu := M.frw_some h4 h5 (fun j hj => h6 j (Nat.zero_le _) hj)
    refine ⟨fun e => absurd e hne, fun _ => ⟨List.mem_append_right _ (List.mem_singleton.2 rfl), hw, fun x hx hs => ?_⟩⟩
    rcases List.mem_append.1 hx with hx | hx
    · by_cases e0 : b0 = []
      · rw [(h.nn e0).2 x hx] at hs
        cases hs
      · obtain ⟨g1, g2, g3⟩ := h.ss e0
        have hlx := hP b0 g1
        have hbl : b.length < b0.length := by
          rcases h1 with h1 | h1 | h1
          · exact absurd (List.length_eq_zero_iff.1 h1) e0
          · exact h1
          · exact absurd hlx h1
        rcases g3 x hx hs with g | ⟨g, _⟩
        · exact .inl (by omega)
        · exact .inl (by omega)
    · rw [List.mem_singleton.1 hx]
      exact .inr ⟨rfl, .inl rfl⟩
theorem M.all_sorted (N n : Nat) : (M.all N n).Pairwise fun a b => a.length < b.length ∨ (a.length = b.length ∧ M.lex a b) := by
  unfold M.all M.combs
  induction n with
  | zero => simp
  | succ n ih =>
    rw [List.range_succ, List.flatMap_append, List.pairwise_append]
    refine ⟨ih, ?_, fun a ha b hb => ?_⟩
    · simp only [List.flatMap_cons, List.flatMap_nil, List.append_nil]
      refine List.Pairwise.imp_of_mem (fun {a b} ha hb h => ?_) (M.sub_sorted N (n + 1) 0)
      exact .inr ⟨by rw [(M.mem_sub.1 ha).1, (M.mem_sub.1 hb).1], h⟩
    · simp only [List.flatMap_cons, List.flatMap_nil, List.append_nil] at hb
      obtain ⟨s, hs, ha⟩ := List.mem_flatMap.1 ha
      have h1 := (M.mem_sub.1 ha).1
      have h2 := (M.mem_sub.1 hb).1
      have := List.mem_range.1 hs
      exact .inl (by omega)
theorem M.find_le {p : List Nat → Bool} {A : List (List Nat)} {c : List Nat} (hA : A.Pairwise fun a b => a.length < b.length ∨ (a.length = b.length ∧ M.lex a b)) (hc : c ∈ A) (hp : p c = true) (h : ∀ x ∈ A, p x = true → M.le c x) : A.find? p = some c := by
  obtain ⟨aa, bs, rfl⟩ := List.append_of_mem hc
  rw [List.find?_eq_some_iff_append]
  refine ⟨hp, aa, bs, rfl, fun x hx => ?_⟩
  cases hpx : p x with
  | false => rfl
  | true =>
    exfalso
    have h1 := h x (List.mem_append_left _ hx) hpx
    have h2 := (List.pairwise_append.1 hA).2.2 x hx c (by simp)
    rcases h1 with h1 | ⟨h1, h3⟩
    · rcases h2 with h2 | ⟨h2, _⟩ <;> omega
    · rcases h2 with h2 | ⟨_, h2⟩
      · omega
      · rcases h3 with rfl | h3
        · exact M.lex_irrefl _ h2
        · exact M.lex_irrefl _ (M.lex_trans h2 h3)
/-- The reference's answer is the program's. -/
theorem M.St.fra {T : List (List Int)} {n cu : Nat} {b : List Nat} (h : M.St T (M.lxs T.length n) b cu) : (b = [] → M.frR T (M.fra T n) = ([], 0, 5)) ∧ (b ≠ [] → M.frR T (M.fra T n) = (M.toI b, (cu : Int), 0)) := by
  constructor
  · intro e
    have hn : M.fra T n = none := by
      unfold M.fra
      rw [List.find?_eq_none]
      intro c hc
      rw [(h.nn e).2 c (M.mem_lxs.2 hc)]
      simp
    rw [hn]
    rfl
  · intro e
    obtain ⟨g1, g2, g3⟩ := h.ss e
    have hs : M.fra T n = some b := by
      unfold M.fra
      exact M.find_le (M.all_sorted _ _) (M.mem_lxs.1 g1) (by rw [g2]; rfl) fun x hx hpx => g3 x (M.mem_lxs.2 hx) hpx
    rw [hs]
    show (M.toI b, (((M.frw T b).getD 0 : Nat) : Int), (0 : Int)) = _
    rw [g2]
    rfl
end Go.Proofs.YthnklabdjaiplaaDoor
