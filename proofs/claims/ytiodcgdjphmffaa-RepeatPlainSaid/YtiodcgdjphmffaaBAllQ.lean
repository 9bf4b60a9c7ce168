/- All borders of three kinds up to 8 figures: what was looked at, said of borders. -/
import Derived.Test.YtiodcgdjphmffaaBAllP
namespace Go.Proofs.Ytiodcgdjphmffaa
open Go.RowKit Go.Maps
namespace B
theorem memN_iff (x : Nat) : ∀ A : List Nat, memN x A = true ↔ x ∈ A
  | [] => ⟨fun h => (by cases h), fun h => (by cases h)⟩
  | y :: t => by
    have ih := memN_iff x t
    rw [memN, List.mem_cons, ← ih]
    by_cases e : x = y
    · rw [show Nat.beq x y = true from by simpa using e]; simp [e]
    · rw [show Nat.beq x y = false from by rw [← Bool.not_eq_true]; simpa using e]; simp [e]
def lit8 (x : Nat) : Lit := .int .u8 ((97 + x : Nat) : Int)
theorem kd_fold : ∀ (N A : List Nat) (L : List Lit), (L.length = A.length ∧ ∀ x, L.any (fun y => y.sameKey (lit8 x)) = memN x A) → ((N.map lit8).foldl addKey L).length = kdN N A
  | [], A, L, h => h.1
  | x :: t, A, L, h => by
    rw [List.map_cons, List.foldl_cons, kdN]
    cases hm : memN x A with
    | true =>
      rw [cond_true]
      have e : addKey L (lit8 x) = L := by unfold addKey; rw [h.2 x, hm]; rfl
      rw [e]
      exact kd_fold t A L h
    | false =>
      rw [cond_false]
      have e : addKey L (lit8 x) = L ++ [lit8 x] := by unfold addKey; rw [h.2 x, hm]; rfl
      rw [e]
      refine kd_fold t (x :: A) _ ⟨by simp [h.1], fun z => ?_⟩
      rw [List.any_append, h.2 z]
      by_cases ez : z = x
      · subst ez
        have h1 : memN z (z :: A) = true := (memN_iff _ _).2 List.mem_cons_self
        rw [h1]
        simp [lit8, Lit.sameKey]
      · have h1 : memN z (x :: A) = memN z A := by
          rw [Bool.eq_iff_iff, memN_iff, memN_iff, List.mem_cons]; simp [ez]
        rw [h1]
        simp only [List.any_cons, List.any_nil, Bool.or_false, lit8, Lit.sameKey]
        simp
        omega
theorem kd_eq (N : List Nat) (hN : ∀ x ∈ N, x < 100) : Maps.size (B.Sn (H := Unit) (byt N) N.length) = kdN N [] := by
  unfold Sn
  have hk : keys (byt N) N.length = N.map lit8 := by
    unfold keys byt
    rw [List.take_of_length_le (by simp), List.map_map]
    refine List.map_congr_left (fun x hx => ?_)
    have := hN x hx
    simp only [Function.comp, lit8, UInt8.toNat_ofNat']
    congr 1
    omega
  rw [hk, size_setOf]
  · exact kd_fold N [] [] ⟨rfl, fun _ => rfl⟩
  · intro y hy
    obtain ⟨x, _, rfl⟩ := List.mem_map.1 hy
    trivial
theorem digs_len : ∀ (k x : Nat), (digs k x).length = k
  | 0, _ => rfl
  | k + 1, x => by rw [digs, List.length_cons, digs_len k]
theorem digs_lt : ∀ (k x : Nat), ∀ y ∈ digs k x, y < 3
  | 0, _, y, h => by cases h
  | k + 1, x, y, h => by
    rw [digs] at h
    rcases List.mem_cons.1 h with rfl | h
    · exact Nat.mod_lt _ (by decide)
    · exact digs_lt k _ y h
theorem and2 {a b : Bool} (h : a.and b = true) : a = true ∧ b = true := by revert h; cases a <;> cases b <;> simp
theorem all_n : ∀ n, 1 ≤ n → n ≤ 8 → allN n = true := by
  obtain ⟨h6, h7⟩ := and2 alls
  obtain ⟨h5, h6'⟩ := and2 h6
  obtain ⟨h4, h5'⟩ := and2 h5
  obtain ⟨h3, h4'⟩ := and2 h4
  obtain ⟨h2, h3'⟩ := and2 h3
  obtain ⟨h1, h2'⟩ := and2 h2
  intro n h0 h8
  have hn : n = 1 ∨ n = 2 ∨ n = 3 ∨ n = 4 ∨ n = 5 ∨ n = 6 ∨ n = 7 ∨ n = 8 := by omega
  rcases hn with rfl | rfl | rfl | rfl | rfl | rfl | rfl | rfl
  · exact h1
  · exact h2'
  · exact h3'
  · exact h4'
  · exact h5'
  · exact h6'
  · exact h7
  · exact all8
theorem all_at {n x p q : Nat} (hn : 1 ≤ n ∧ n ≤ 8) (hx : x < 3 ^ n) (hp : 1 ≤ p ∧ p ≤ n) (hq : 1 ≤ q ∧ q ≤ n) (h1 : B.per (byt (digs n x)) p = true) (h2 : B.per (byt (digs n x)) q = true) :
    (p + q ≤ n + Nat.gcd p q → B.per (byt (digs n x)) (Nat.gcd p q) = true) ∧ kdN (digs n x) [] ≤ max (Nat.gcd p q) (p + q - n) := by
  have hl : ∀ y ∈ digs n x, y < 100 := fun y hy => by have := digs_lt n x y hy; omega
  have h := allTo_at (all_n n hn.1 hn.2) x hx
  have h' := allTo_at h (p - 1) (by omega)
  rw [show p - 1 + 1 = p by omega, perN_eq _ _ hl, h1, cond_true] at h'
  have h'' := allTo_at h' (q - 1) (by omega)
  rw [show q - 1 + 1 = q by omega, perN_eq _ _ hl, h2, cond_true] at h''
  obtain ⟨k1, k2⟩ := and2 h''
  refine ⟨fun hc => ?_, ?_⟩
  · rw [show Nat.ble (p + q) (n + Nat.gcd p q) = true from by simpa using hc, cond_true, perN_eq _ _ hl] at k1; exact k1
  · rw [← mx_eq]; exact Nat.le_of_ble_eq_true k2
theorem widk_at {n p q : Nat} (hn : 1 ≤ n ∧ n ≤ 8) (hp : 1 ≤ p ∧ p ≤ n) (hq : 1 ≤ q ∧ q ≤ n) : kdN (widN n p q) [] = max (Nat.gcd p q) (p + q - n) := by
  obtain ⟨m, rfl⟩ : ∃ m, n = m + 1 := ⟨n - 1, by omega⟩
  have h : widk (m + 1) = true := allTo_at (f := fun n => widk (n + 1)) (n := 8) widks m (by omega)
  have h0 := allTo_at (f := fun p => allTo (m + 1) fun q => Nat.beq (kdN (widN (m + 1) (p + 1) (q + 1)) []) (mx (Nat.gcd (p + 1) (q + 1)) (p + 1 + (q + 1) - (m + 1)))) (n := m + 1) h (p - 1) (by omega)
  have h' := allTo_at (f := fun q => Nat.beq (kdN (widN (m + 1) (p - 1 + 1) (q + 1)) []) (mx (Nat.gcd (p - 1 + 1) (q + 1)) (p - 1 + 1 + (q + 1) - (m + 1)))) (n := m + 1) h0 (q - 1) (by omega)
  simp only [show p - 1 + 1 = p by omega, show q - 1 + 1 = q by omega] at h'
  rw [← mx_eq]
  exact Nat.eq_of_beq_eq_true h'
end B
end Go.Proofs.Ytiodcgdjphmffaa
