/- Which sets of periods borders have: a tree of all borders of three kinds, each with its periods. -/
import Derived.Test.YtiodcgdjphmffaaBCntP
namespace Go.Proofs.Ytiodcgdjphmffaa
open Go.RowKit
namespace B
/-- The periods of c :: T, from those of T. -/
def nxt (c : Nat) (T : List Nat) : List Nat → List Nat
  | [] => []
  | p :: P => bif Nat.beq (getN T (p - 1)) c then p :: nxt c T P else nxt c T P
def cod : List Nat → Nat
  | [] => 0
  | p :: P => 2 ^ p + cod P
def perL : List Nat → List Nat
  | [] => []
  | c :: T => nxt c T (perL T) ++ [T.length + 1]
def getT : List (List Nat) → Nat → List Nat
  | [], _ => []
  | x :: _, 0 => x
  | _ :: t, i + 1 => getT t i
def tabs : List (List Nat) := [[0], [2], [6, 4], [14, 8, 12], [30, 16, 24, 20], [62, 32, 48, 56, 40, 52], [126, 64, 96, 112, 72, 80, 104, 84], [254, 128, 192, 224, 240, 144, 200, 160, 208, 212], [510, 256, 384, 448, 480, 272, 288, 400, 456, 320, 416, 328, 340], [1022, 512, 768, 896, 960, 992, 544, 784, 576, 800, 912, 584, 640, 832, 840, 672, 852], [2046, 1024, 1536, 1792, 1920, 1984, 1056, 1088, 1568, 1808, 1152, 1600, 1824, 1608, 1280, 1664, 1296, 1312, 1344, 1696, 1364], [4094, 2048, 3072, 3584, 3840, 3968, 4032, 2112, 3104, 2176, 3136, 3616, 3856, 2304, 3200, 3648, 2320, 3656, 2560, 3328, 3344, 2632, 3360, 2624, 2688, 3392, 3412]]
/-- Borders of two figures with these sets of periods. -/
def wits : List (List Nat) := [[0], [0], [0, 1], [0, 1, 2], [0, 1, 2, 5], [0, 1, 2, 4, 9, 10], [0, 1, 2, 4, 9, 17, 18, 21], [0, 1, 2, 4, 8, 17, 18, 33, 34, 42], [0, 1, 2, 4, 8, 17, 33, 34, 36, 65, 66, 73, 85], [0, 1, 2, 4, 8, 16, 33, 34, 65, 66, 68, 73, 129, 130, 146, 165, 170], [0, 1, 2, 4, 8, 16, 33, 65, 66, 68, 129, 130, 132, 146, 257, 258, 273, 297, 325, 330, 341], [0, 1, 2, 4, 8, 16, 32, 65, 66, 129, 130, 132, 136, 257, 258, 260, 273, 292, 513, 514, 546, 585, 594, 617, 645, 650, 682]]
def tb (n : Nat) : List Nat := getT tabs n
def tree : Nat → Nat → List Nat → List Nat → Bool
  | 0, _, _, _ => true
  | k + 1, n, T, P =>
    ((fun c => forceN (cod (nxt c T P ++ [n + 1])) fun m => (memN m (tb (n + 1))).and (tree k (n + 1) (c :: T) (nxt c T P ++ [n + 1]))) 0).and
    (((fun c => forceN (cod (nxt c T P ++ [n + 1])) fun m => (memN m (tb (n + 1))).and (tree k (n + 1) (c :: T) (nxt c T P ++ [n + 1]))) 1).and
    ((fun c => forceN (cod (nxt c T P ++ [n + 1])) fun m => (memN m (tb (n + 1))).and (tree k (n + 1) (c :: T) (nxt c T P ++ [n + 1]))) 2))
def app : List Nat → List Nat → List Nat
  | [], T => T
  | c :: R, T => app R (c :: T)
theorem app_eq : ∀ (R T : List Nat), app R T = R.reverse ++ T
  | [], _ => rfl
  | c :: R, T => by rw [app, app_eq R (c :: T)]; simp
theorem tree_at {k n : Nat} {T P : List Nat} (h : tree (k + 1) n T P = true) {c : Nat} (hc : c < 3) : memN (cod (nxt c T P ++ [n + 1])) (tb (n + 1)) = true ∧ tree k (n + 1) (c :: T) (nxt c T P ++ [n + 1]) = true := by
  rw [tree] at h
  simp only [forceN_eq] at h
  obtain ⟨h0, h12⟩ := and2 h
  obtain ⟨h1, h2⟩ := and2 h12
  have h3 : c = 0 ∨ c = 1 ∨ c = 2 := by omega
  rcases h3 with rfl | rfl | rfl
  · exact and2 h0
  · exact and2 h1
  · exact and2 h2
theorem tree_app : ∀ (R : List Nat) (k n : Nat) (T : List Nat), tree k n T (perL T) = true → T.length = n → R ≠ [] → R.length ≤ k → (∀ x ∈ R, x < 3) → memN (cod (perL (app R T))) (tb (n + R.length)) = true
  | [], _, _, _, _, _, h, _, _ => absurd rfl h
  | c :: R, 0, _, _, _, _, _, h, _ => by simp at h
  | c :: R, k + 1, n, T, h, hn, _, hl, hR => by
    obtain ⟨h1, h2⟩ := tree_at h (hR c List.mem_cons_self)
    have hp : nxt c T (perL T) ++ [n + 1] = perL (c :: T) := by rw [perL, hn]
    rw [hp] at h1 h2
    rw [app, List.length_cons]
    by_cases e : R = []
    · subst e; exact h1
    · have := tree_app R k (n + 1) (c :: T) h2 (by rw [List.length_cons, hn]) e (by rw [List.length_cons] at hl; omega) (fun x hx => hR x (List.mem_cons_of_mem _ hx))
      rw [show n + (R.length + 1) = n + 1 + R.length by omega]
      exact this

/-- What the list of periods holds. -/
theorem preN_iff : ∀ (s t : List Nat), preN s t = true ↔ s <+: t
  | [], t => ⟨fun _ => List.nil_prefix, fun _ => rfl⟩
  | _ :: _, [] => ⟨fun h => (by cases h), fun h => (by simp at h)⟩
  | a :: s, b :: t => by
    have ih := preN_iff s t
    rw [preN, List.cons_prefix_cons, ← ih]
    by_cases e : a = b
    · rw [show Nat.beq a b = true from by simpa using e]; simp [e]
    · rw [show Nat.beq a b = false from by rw [← Bool.not_eq_true]; simpa using e]; simp [e]
theorem nxt_in (c : Nat) (T : List Nat) (p : Nat) : ∀ P, p ∈ nxt c T P ↔ p ∈ P ∧ getN T (p - 1) = c
  | [] => by simp [nxt]
  | q :: P => by
    have ih := nxt_in c T p P
    rw [nxt]
    by_cases e : getN T (q - 1) = c
    · rw [show Nat.beq (getN T (q - 1)) c = true from by simpa using e, cond_true, List.mem_cons, ih, List.mem_cons]
      constructor
      · rintro (rfl | h)
        · exact ⟨Or.inl rfl, e⟩
        · exact ⟨Or.inr h.1, h.2⟩
      · rintro ⟨rfl | h, h2⟩
        · exact Or.inl rfl
        · exact Or.inr ⟨h, h2⟩
    · rw [show Nat.beq (getN T (q - 1)) c = false from by rw [← Bool.not_eq_true]; simpa using e, cond_false, ih, List.mem_cons]
      constructor
      · rintro ⟨h, h2⟩; exact ⟨Or.inr h, h2⟩
      · rintro ⟨rfl | h, h2⟩
        · exact absurd h2 e
        · exact ⟨h, h2⟩
theorem perL_in : ∀ (T : List Nat) (p : Nat), p ∈ perL T ↔ 1 ≤ p ∧ p ≤ T.length ∧ perN T p = true
  | [], p => by simp [perL]; omega
  | c :: T, p => by
    have ih := perL_in T p
    rw [perL, List.mem_append, nxt_in, ih, List.mem_singleton, List.length_cons]
    by_cases e : p = T.length + 1
    · subst e
      have h1 : perN (c :: T) (T.length + 1) = true := by unfold perN; rw [List.drop_of_length_le (by simp)]; rfl
      simp [h1]
    · by_cases hb : 1 ≤ p ∧ p ≤ T.length
      · have h2 : perN (c :: T) p = true ↔ perN T p = true ∧ getN T (p - 1) = c := by
          unfold perN
          obtain ⟨q, rfl⟩ : ∃ q, p = q + 1 := ⟨p - 1, by omega⟩
          rw [List.drop_succ_cons, List.drop_eq_getElem_cons (show q < T.length by omega), preN_iff, preN_iff, List.cons_prefix_cons, Nat.add_sub_cancel, getN_eq]
          rw [show T.getD q 0 = T[q]'(by omega) from by simp [List.getD, List.getElem?_eq_getElem (show q < T.length by omega)]]
          exact ⟨fun h => ⟨h.2, h.1⟩, fun h => ⟨h.2, h.1⟩⟩
        rw [h2]
        constructor
        · rintro (⟨⟨_, _, h⟩, h3⟩ | h)
          · exact ⟨hb.1, by omega, h, h3⟩
          · exact absurd h e
        · rintro ⟨_, _, h, h3⟩
          exact Or.inl ⟨⟨hb.1, hb.2, h⟩, h3⟩
      · constructor
        · rintro (⟨⟨h1, h2, _⟩, _⟩ | h)
          · exact absurd ⟨h1, h2⟩ hb
          · exact absurd h e
        · rintro ⟨h1, h2, _⟩
          exact absurd ⟨h1, by omega⟩ hb
end B
end Go.Proofs.Ytiodcgdjphmffaa
