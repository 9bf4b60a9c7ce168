/- How many groups there are when a rod is added: one fewer just if its row and its column did not keep together. -/
import Derived.Test.YtmbfpekcfeeifaaKMvm
namespace Go.Proofs.Ytmbfpekcfeeifaa

/-- Arrows that lead both ways. -/
def K.Sym (M : Nat → Nat → Bool) : Prop := ∀ x y, M x y = true → M y x = true
theorem K.Reach.symm {M : Nat → Nat → Bool} (hS : K.Sym M) {x y : Nat} (h : K.Reach M x y) : K.Reach M y x := by
  induction h with
  | refl => exact .refl _
  | step h _ ih => exact ih.trans (.step (hS _ _ h) (.refl _))
theorem K.Reach.more {M G : Nat → Nat → Bool} (hG : ∀ x y, M x y = true → K.Reach G x y) {x y : Nat} (h : K.Reach M x y) : K.Reach G x y := by
  induction h with
  | refl => exact .refl _
  | step h _ ih => exact (hG _ _ h).trans ih
theorem K.drawn_iff {M : Nat → Nat → Bool} {i j x y : Nat} : K.drawn M i j 0 x y = true ↔ M x y = true ∨ (x = i ∧ y = j) ∨ (x = j ∧ y = i) := by
  have e : K.drawn M i j 0 = K.with (K.with M i j) j i := by unfold K.drawn; rw [if_neg (by decide), if_neg (by decide)]
  rw [e]
  show (if x = j ∧ y = i then true else if x = i ∧ y = j then true else M x y) = true ↔ _
  by_cases h1 : x = j ∧ y = i
  · rw [if_pos h1]; exact ⟨fun _ => .inr (.inr h1), fun _ => rfl⟩
  · rw [if_neg h1]
    by_cases h2 : x = i ∧ y = j
    · rw [if_pos h2]; exact ⟨fun _ => .inr (.inl h2), fun _ => rfl⟩
    · rw [if_neg h2]
      exact ⟨fun h => .inl h, fun h => h.elim id (fun h => h.elim (fun h => absurd h h2) (fun h => absurd h h1))⟩
theorem K.drawn_sym {M : Nat → Nat → Bool} (hS : K.Sym M) (i j : Nat) : K.Sym (K.drawn M i j 0) := fun x y h => by
  rcases K.drawn_iff.1 h with h | h | h
  · exact K.drawn_iff.2 (.inl (hS _ _ h))
  · exact K.drawn_iff.2 (.inr (.inr ⟨h.2, h.1⟩))
  · exact K.drawn_iff.2 (.inr (.inl ⟨h.2, h.1⟩))
theorem K.leads_sym (m : Nat) {bs : List Br} (h : ∀ b ∈ bs, b.2.2 = 0) : K.Sym (K.leads m bs) := by
  have : ∀ (l : List Br) (M : Nat → Nat → Bool), (∀ b ∈ l, b.2.2 = 0) → K.Sym M → K.Sym (l.foldl (fun M b => K.drawn M b.1.toNat (m + b.2.1.toNat) b.2.2) M) := fun l => by
    induction l with
    | nil => intro M _ hM; exact hM
    | cons b l ih =>
      intro M hl hM
      rw [List.foldl_cons]
      refine ih _ (fun b hb => hl b (List.mem_cons_of_mem _ hb)) ?_
      rw [hl b List.mem_cons_self]
      exact K.drawn_sym hM _ _
  exact this bs _ h (fun x y h => by cases h)
/-- What reaches what, with one rod more. -/
theorem K.drawn_reach {M : Nat → Nat → Bool} (i j : Nat) {x y : Nat} : K.Reach (K.drawn M i j 0) x y ↔ K.Reach M x y ∨ (K.Reach M x i ∧ K.Reach M j y) ∨ (K.Reach M x j ∧ K.Reach M i y) ∨ (K.Reach M x i ∧ K.Reach M i y) ∨ (K.Reach M x j ∧ K.Reach M j y) := by
  have up : ∀ {x y}, K.Reach M x y → K.Reach (K.drawn M i j 0) x y := fun h => h.more fun x y h => .step (K.drawn_iff.2 (.inl h)) (.refl _)
  have hij : K.Reach (K.drawn M i j 0) i j := .step (K.drawn_iff.2 (.inr (.inl ⟨rfl, rfl⟩))) (.refl _)
  have hji : K.Reach (K.drawn M i j 0) j i := .step (K.drawn_iff.2 (.inr (.inr ⟨rfl, rfl⟩))) (.refl _)
  constructor
  · intro h
    induction h with
    | refl x => exact .inl (.refl _)
    | step h _ ih =>
      rcases K.drawn_iff.1 h with h | ⟨rfl, rfl⟩ | ⟨rfl, rfl⟩
      · have s := K.Reach.step h (.refl _)
        rcases ih with ih | ih | ih | ih | ih
        · exact .inl (s.trans ih)
        · exact .inr (.inl ⟨s.trans ih.1, ih.2⟩)
        · exact .inr (.inr (.inl ⟨s.trans ih.1, ih.2⟩))
        · exact .inl (s.trans (ih.1.trans ih.2))
        · exact .inl (s.trans (ih.1.trans ih.2))
      · rcases ih with ih | ih | ih | ih | ih
        · exact .inr (.inl ⟨.refl _, ih⟩)
        · exact .inr (.inl ⟨.refl _, ih.2⟩)
        · exact .inl ih.2
        · exact .inl ih.2
        · exact .inr (.inl ⟨.refl _, ih.2⟩)
      · rcases ih with ih | ih | ih | ih | ih
        · exact .inr (.inr (.inl ⟨.refl _, ih⟩))
        · exact .inl ih.2
        · exact .inr (.inr (.inl ⟨.refl _, ih.2⟩))
        · exact .inr (.inr (.inl ⟨.refl _, ih.2⟩))
        · exact .inl ih.2
  · intro h
    rcases h with h | h | h | h | h
    · exact up h
    · exact ((up h.1).trans hij).trans (up h.2)
    · exact ((up h.1).trans hji).trans (up h.2)
    · exact (up h.1).trans (up h.2)
    · exact (up h.1).trans (up h.2)
theorem K.T_R {M : Nat → Nat → Bool} (hS : K.Sym M) {x y : Nat} : K.T M x y = true ↔ K.Reach M x y :=
  K.T_iff.trans ⟨fun h => h.1, fun h => ⟨h, h.symm hS⟩⟩
theorem K.drawn_T {M : Nat → Nat → Bool} (hS : K.Sym M) (i j : Nat) {x y : Nat} : K.T (K.drawn M i j 0) x y = true ↔ K.T M x y = true ∨ (K.T M x i = true ∧ K.T M j y = true) ∨ (K.T M x j = true ∧ K.T M i y = true) := by
  simp only [K.T_R hS, K.T_R (K.drawn_sym hS i j), K.drawn_reach]
  constructor
  · rintro (h | h | h | h | h)
    · exact .inl h
    · exact .inr (.inl h)
    · exact .inr (.inr h)
    · exact .inl (h.1.trans h.2)
    · exact .inl (h.1.trans h.2)
  · rintro (h | h | h)
    · exact .inl h
    · exact .inr (.inl h)
    · exact .inr (.inr (.inl h))
theorem K.grouped_iff {M : Nat → Nat → Bool} {p : Nat} : K.grouped M p p = true ↔ ∃ q, q < p ∧ K.T M q p = true := by
  unfold K.grouped
  rw [List.any_eq_true]
  constructor
  · rintro ⟨q, hq, h⟩; exact ⟨q, List.mem_range.1 hq, h⟩
  · rintro ⟨q, hq, h⟩; exact ⟨q, List.mem_range.2 hq, h⟩
/-- The first place of a group. -/
theorem K.leader (M : Nat → Nat → Bool) : ∀ x : Nat, ∃ l, l ≤ x ∧ K.T M l x = true ∧ K.grouped M l l = false := by
  intro x
  induction x using Nat.strongRecOn with
  | ind x ih =>
    cases hg : K.grouped M x x with
    | false => exact ⟨x, Nat.le_refl _, K.T_refl, hg⟩
    | true =>
      obtain ⟨q, hq, hT⟩ := K.grouped_iff.1 hg
      obtain ⟨l, h1, h2, h3⟩ := ih q hq
      exact ⟨l, by omega, K.T_trans h2 hT, h3⟩
theorem K.leader_one {M : Nat → Nat → Bool} {l p : Nat} (h1 : K.grouped M l l = false) (h2 : K.grouped M p p = false) (h : K.T M l p = true) : l = p := by
  rcases Nat.lt_trichotomy l p with e | e | e
  · rw [K.grouped_iff.2 ⟨l, e, h⟩] at h2; cases h2
  · exact e
  · rw [K.grouped_iff.2 ⟨p, e, K.T_symm h⟩] at h1; cases h1
/-- A rod whose row and column keep together already changes nothing. -/
theorem K.gs_same {M G : Nat → Nat → Bool} (h : ∀ x y, K.T G x y = K.T M x y) (m N : Nat) : ∀ p, (K.gs G m N p).length = (K.gs M m N p).length
  | 0 => rfl
  | p + 1 => by
    have ih := K.gs_same h m N p
    have hg : K.grouped G p p = K.grouped M p p := by unfold K.grouped; simp only [h]
    unfold K.gs
    rw [hg]
    split
    · exact ih
    · rw [List.length_append, List.length_append, ih]; rfl
theorem K.drawn_in {M : Nat → Nat → Bool} (hS : K.Sym M) {i j : Nat} (h : K.R M i j = true) (m N p : Nat) : (K.gs (K.drawn M i j 0) m N p).length = (K.gs M m N p).length := by
  refine K.gs_same (fun x y => ?_) m N p
  have hT : K.T M i j = true := (K.T_R hS).2 (K.R_iff.1 h)
  rw [Bool.eq_iff_iff, K.drawn_T hS]
  constructor
  · rintro (h | h | h)
    · exact h
    · exact K.T_trans (K.T_trans h.1 hT) h.2
    · exact K.T_trans (K.T_trans h.1 (K.T_symm hT)) h.2
  · exact .inl
/-- A rod that joins: one group fewer. -/
theorem K.drawn_out {M : Nat → Nat → Bool} (hS : K.Sym M) {i j N : Nat} (hi : i < N) (hj : j < N) (h : K.R M i j = false) (m : Nat) : (K.gs (K.drawn M i j 0) m N N).length + 1 = (K.gs M m N N).length := by
  have hn : ¬ K.T M i j = true := fun e => by rw [K.R_iff.2 ((K.T_R hS).1 e)] at h; cases h
  obtain ⟨a, a1, a2, a3⟩ := K.leader M i
  obtain ⟨b, b1, b2, b3⟩ := K.leader M j
  have hab : a ≠ b := fun e => hn (K.T_trans (K.T_symm a2) (e ▸ b2))
  have key : ∀ c d x y : Nat, c < d → K.T M c x = true → K.T M d y = true → K.grouped M c c = false → K.grouped M d d = false → (∀ p q, K.T (K.drawn M i j 0) p q = true ↔ K.T M p q = true ∨ (K.T M p x = true ∧ K.T M y q = true) ∨ (K.T M p y = true ∧ K.T M x q = true)) →
      ∀ k, (K.gs (K.drawn M i j 0) m N k).length + (if d < k then 1 else 0) = (K.gs M m N k).length := by
    intro c d x y hcd hc hd hgc hgd hT k
    induction k with
    | zero => rfl
    | succ p ih =>
      have hg : K.grouped (K.drawn M i j 0) p p = (K.grouped M p p || decide (p = d)) := by
        rw [Bool.eq_iff_iff, Bool.or_eq_true, decide_eq_true_iff, K.grouped_iff, K.grouped_iff]
        constructor
        · rintro ⟨q, hq, h⟩
          rcases (hT q p).1 h with h | h | h
          · exact .inl ⟨q, hq, h⟩
          · by_cases hgp : K.grouped M p p = true
            · exact .inl (K.grouped_iff.1 hgp)
            · right
              exact (K.leader_one hgd (by simpa using hgp) (K.T_trans hd h.2)).symm
          · by_cases hgp : K.grouped M p p = true
            · exact .inl (K.grouped_iff.1 hgp)
            · exfalso
              have hgp' : K.grouped M p p = false := by simpa using hgp
              have e := K.leader_one hgc hgp' (K.T_trans hc h.2)
              obtain ⟨l, l1, l2, l3⟩ := K.leader M q
              have e2 := K.leader_one l3 hgd (K.T_trans (K.T_trans l2 h.1) (K.T_symm hd))
              omega
        · rintro (h | h)
          · obtain ⟨q, hq, h⟩ := h
            exact ⟨q, hq, (hT q p).2 (.inl h)⟩
          · subst h
            exact ⟨c, hcd, (hT c p).2 (.inr (.inl ⟨hc, K.T_symm hd⟩))⟩
      have e1 : (K.gs (K.drawn M i j 0) m N (p + 1)).length = (K.gs (K.drawn M i j 0) m N p).length + (if K.grouped (K.drawn M i j 0) p p = true then 0 else 1) := by
        conv => lhs; unfold K.gs
        split
        · rfl
        · rw [List.length_append]; rfl
      have e2 : (K.gs M m N (p + 1)).length = (K.gs M m N p).length + (if K.grouped M p p = true then 0 else 1) := by
        conv => lhs; unfold K.gs
        split
        · rfl
        · rw [List.length_append]; rfl
      rw [e1, e2, hg]
      by_cases hpd : p = d
      · subst hpd
        rw [if_neg (Nat.lt_irrefl _)] at ih
        rw [hgd, if_pos (Nat.lt_succ_self _)]
        simp
        omega
      · have h1 : decide (p = d) = false := decide_eq_false hpd
        rw [h1, Bool.or_false]
        have h2 : (if d < p + 1 then 1 else 0) = (if d < p then 1 else 0 : Nat) := by
          by_cases h3 : d < p
          · rw [if_pos h3, if_pos (by omega)]
          · rw [if_neg h3, if_neg (by omega)]
        rw [h2]
        omega
  rcases Nat.lt_or_ge a b with e | e
  · have := key a b i j e a2 b2 a3 b3 (fun p q => K.drawn_T hS i j) N
    rw [if_pos (by omega)] at this
    exact this
  · have := key b a j i (by omega) b2 a2 b3 a3 (fun p q => (K.drawn_T hS i j).trans ⟨fun h => h.elim .inl (fun h => .inr h.symm), fun h => h.elim .inl (fun h => .inr h.symm)⟩) N
    rw [if_pos (by omega)] at this
    exact this
end Go.Proofs.Ytmbfpekcfeeifaa
