/- Package rack: what can be reached, and a search in depth: as plain mathematics. No program is named here. -/
import Derived.Test.YtmbfpekcfeeifaaKRead
namespace Go.Proofs.Ytmbfpekcfeeifaa

/-- One can go from one place to another one along arrows. -/
inductive K.Reach (M : Nat → Nat → Bool) : Nat → Nat → Prop where
  | refl (x : Nat) : K.Reach M x x
  | step {x z y : Nat} (h : M x z = true) (t : K.Reach M z y) : K.Reach M x y
theorem K.Reach.trans {M : Nat → Nat → Bool} {x y z : Nat} (h : K.Reach M x y) (k : K.Reach M y z) : K.Reach M x z := by
  induction h with
  | refl => exact k
  | step h _ ih => exact .step h (ih k)
/-- A set that no arrow leaves. -/
theorem K.Reach.closed {M : Nat → Nat → Bool} {S : Nat → Bool} (hS : ∀ x y, S x = true → M x y = true → S y = true) {x y : Nat} (h : K.Reach M x y) (hx : S x = true) : S y = true := by
  induction h with
  | refl => exact hx
  | step h _ ih => exact ih (hS _ _ hx h)

/-- Places that have not been passed. -/
def K.cnt (P : Nat → Bool) : Nat := (List.range 12).countP fun i => !P i
theorem countP_less {α : Type} {p q : α → Bool} : ∀ {l : List α}, (∀ x ∈ l, q x = true → p x = true) → ∀ {a : α}, a ∈ l → p a = true → q a = false → l.countP q < l.countP p
  | [], _, a, ha, _, _ => by cases ha
  | b :: l, h, a, ha, hp, hq => by
    have hle : l.countP q ≤ l.countP p := List.countP_mono_left fun x hx => h x (List.mem_cons_of_mem _ hx)
    rcases List.mem_cons.1 ha with rfl | ha'
    · rw [List.countP_cons_of_neg (by simp [hq]), List.countP_cons_of_pos hp]
      omega
    · have ih := countP_less (fun x hx => h x (List.mem_cons_of_mem _ hx)) ha' hp hq
      rw [List.countP_cons, List.countP_cons]
      have := h b (List.mem_cons_self ..)
      cases hb : q b with
      | true => rw [this hb]; simp; omega
      | false => cases p b <;> simp <;> omega
theorem K.cnt_less {P Q : Nat → Bool} (h : ∀ x, P x = true → Q x = true) {a : Nat} (ha : a < 12) (hp : P a = false) (hq : Q a = true) : K.cnt Q < K.cnt P := by
  refine countP_less (fun x _ hx => ?_) (List.mem_range.2 ha) (by simp [hp]) (by simp [hq])
  cases hpx : P x with
  | false => rfl
  | true => rw [h x hpx] at hx; cases hx
theorem K.cnt_le {P Q : Nat → Bool} (h : ∀ x, P x = true → Q x = true) : K.cnt Q ≤ K.cnt P := by
  refine List.countP_mono_left fun x _ hx => ?_
  cases hpx : P x with
  | false => rfl
  | true => rw [h x hpx] at hx; cases hx

/-- What a search from a place says: what has been passed before and behind it. -/
structure K.Searched (M : Nat → Nat → Bool) (goal : Int) (P : Nat → Bool) (place : Nat) (r : Bool) (P' : Nat → Bool) : Prop where
  found : r = true → ∃ y : Nat, goal = y ∧ K.Reach M place y
  more : r = false → (∀ x, P x = true → P' x = true) ∧ P' place = true
  free : r = false → ∀ x : Nat, P' x = true → P x = true ∨ goal ≠ x
  shut : r = false → ∀ x, P' x = true → P x = true ∨ ∀ y, y < 12 → M x y = true → P' y = true
/-- What holds while the places behind a place are searched. -/
structure K.Under (M : Nat → Nat → Bool) (goal : Int) (P : Nat → Bool) (place k : Nat) (P' : Nat → Bool) : Prop where
  more : ∀ x, P x = true → P' x = true
  self : P' place = true
  free : ∀ x : Nat, P' x = true → P x = true ∨ goal ≠ x
  shut : ∀ x, P' x = true → P x = true ∨ x = place ∨ ∀ y, y < 12 → M x y = true → P' y = true
  done : ∀ y, y < k → M place y = true → P' y = true
/-- One more place passed. -/
def K.pass1 (P : Nat → Bool) (place : Nat) : Nat → Bool := fun j => if j = place then true else P j
theorem K.Under.start {M : Nat → Nat → Bool} {goal : Int} {P : Nat → Bool} {place : Nat} (hne : goal ≠ place) : K.Under M goal P place 0 (K.pass1 P place) := by
  refine ⟨fun x hx => ?_, by simp [K.pass1], fun x hx => ?_, fun x hx => ?_, fun y hy => absurd hy (Nat.not_lt_zero _)⟩
  · unfold K.pass1; split
    · rfl
    · exact hx
  · unfold K.pass1 at hx
    split at hx
    · rename_i e; subst e; exact .inr hne
    · exact .inl hx
  · unfold K.pass1 at hx
    split at hx
    · rename_i e; exact .inr (.inl e)
    · exact .inl hx
theorem K.Under.skip {M : Nat → Nat → Bool} {goal : Int} {P : Nat → Bool} {place k : Nat} {P' : Nat → Bool} (h : K.Under M goal P place k P') (hk : M place k = true → P' k = true) : K.Under M goal P place (k + 1) P' := by
  refine ⟨h.more, h.self, h.free, h.shut, fun y hy hm => ?_⟩
  by_cases e : y = k
  · subst e; exact hk hm
  · exact h.done y (by omega) hm
theorem K.Under.next {M : Nat → Nat → Bool} {goal : Int} {P : Nat → Bool} {place k : Nat} {P' P2 : Nat → Bool} (h : K.Under M goal P place k P') (s : K.Searched M goal P' k false P2) : K.Under M goal P place (k + 1) P2 := by
  obtain ⟨m1, m2⟩ := s.more rfl
  refine ⟨fun x hx => m1 x (h.more x hx), m1 _ h.self, fun x hx => ?_, fun x hx => ?_, fun y hy hm => ?_⟩
  · rcases s.free rfl x hx with h1 | h1
    · exact h.free x h1
    · exact .inr h1
  · rcases s.shut rfl x hx with h1 | h1
    · rcases h.shut x h1 with h2 | h2 | h2
      · exact .inl h2
      · exact .inr (.inl h2)
      · exact .inr (.inr fun y hy hm => m1 y (h2 y hy hm))
    · exact .inr (.inr h1)
  · by_cases e : y = k
    · subst e; exact m2
    · exact m1 y (h.done y (by omega) hm)
theorem K.Under.end {M : Nat → Nat → Bool} {goal : Int} {P : Nat → Bool} {place : Nat} {P' : Nat → Bool} (h : K.Under M goal P place 12 P') : K.Searched M goal P place false P' := by
  refine ⟨fun e => (by cases e), fun _ => ⟨h.more, h.self⟩, fun _ => h.free, fun _ x hx => ?_⟩
  rcases h.shut x hx with h1 | rfl | h1
  · exact .inl h1
  · exact .inr fun y hy hm => h.done y hy hm
  · exact .inr h1
theorem K.Searched.hit {M : Nat → Nat → Bool} {P P' : Nat → Bool} {place : Nat} : K.Searched M (place : Int) P place true P' :=
  ⟨fun _ => ⟨place, rfl, .refl _⟩, fun e => (by cases e), fun e => (by cases e), fun e => (by cases e)⟩
theorem K.Searched.up {M : Nat → Nat → Bool} {goal : Int} {P P1 P' P2 : Nat → Bool} {place k : Nat} (s : K.Searched M goal P1 k true P') (hm : M place k = true) : K.Searched M goal P place true P2 := by
  refine ⟨fun _ => ?_, fun e => (by cases e), fun e => (by cases e), fun e => (by cases e)⟩
  obtain ⟨y, e, h⟩ := s.found rfl
  exact ⟨y, e, .step hm h⟩
/-- A search from the beginning. -/
theorem K.Searched.reach {M : Nat → Nat → Bool} {place y : Nat} {r : Bool} {P' : Nat → Bool} (s : K.Searched M (y : Int) (fun _ => false) place r P') (hM : ∀ i j, M i j = true → j < 12) : r = true ↔ K.Reach M place y := by
  constructor
  · intro h
    obtain ⟨z, e, h⟩ := s.found h
    have : y = z := by omega
    rw [this]; exact h
  · intro h
    cases r with
    | true => rfl
    | false =>
      exfalso
      have hy := h.closed (S := P') (fun i j hi hm => by
        rcases s.shut rfl i hi with h1 | h1
        · cases h1
        · exact h1 j (hM i j hm) hm) (s.more rfl).2
      rcases s.free rfl y hy with h1 | h1
      · cases h1
      · exact h1 rfl
end Go.Proofs.Ytmbfpekcfeeifaa
