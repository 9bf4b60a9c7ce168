/- Wide borders: what is looked at holds at each length up to 24; other names. -/
import Derived.Test.YtiodcgdjphmffaaBFinA
import Derived.Test.YtiodcgdjphmffaaBFinB
import Derived.Test.YtiodcgdjphmffaaBFinC
import Derived.Test.YtiodcgdjphmffaaBFinD
import Derived.Test.YtiodcgdjphmffaaBClo
import Derived.Test.YtiodcgdjphmffaaBPers
namespace Go.Proofs.Ytiodcgdjphmffaa
open Go.RowKit
namespace B
theorem fin_n : ∀ n, 1 ≤ n → n ≤ 24 → finAll n = true
  | 0, h, _ => absurd h (by decide)
  | 1, _, _ => fin_1
  | 2, _, _ => fin_2
  | 3, _, _ => fin_3
  | 4, _, _ => fin_4
  | 5, _, _ => fin_5
  | 6, _, _ => fin_6
  | 7, _, _ => fin_7
  | 8, _, _ => fin_8
  | 9, _, _ => fin_9
  | 10, _, _ => fin_10
  | 11, _, _ => fin_11
  | 12, _, _ => fin_12
  | 13, _, _ => fin_13
  | 14, _, _ => fin_14
  | 15, _, _ => fin_15
  | 16, _, _ => fin_16
  | 17, _, _ => fin_17
  | 18, _, _ => fin_18
  | 19, _, _ => fin19
  | 20, _, _ => fin20
  | 21, _, _ => fin21
  | 22, _, _ => fin22
  | 23, _, _ => fin23
  | 24, _, _ => fin24
  | n + 25, _, h => absurd h (by omega)
theorem fine_all {n p q : Nat} (hn : 1 ≤ n ∧ n ≤ 24) (hp : 1 ≤ p ∧ p ≤ n) (hq : 1 ≤ q ∧ q ≤ n) : Fine n p q (widN n p q) := by
  have h := allTo_at (fin_n n hn.1 hn.2) (p - 1) (by omega)
  have h2 := allTo_at h (q - 1) (by omega)
  rw [show p - 1 + 1 = p by omega, show q - 1 + 1 = q by omega] at h2
  exact fine_of hn.2 hp.2 hq.2 h2
theorem preN_pre : ∀ (s t : List Nat), preN s t = true → s <+: t
  | [], t, _ => List.nil_prefix
  | _ :: _, [], h => by cases h
  | a :: s, b :: t, h => by
    have h1 : (Nat.beq a b).and (preN s t) = true := h
    have h2 : Nat.beq a b = true ∧ preN s t = true := by revert h1; cases Nat.beq a b <;> cases preN s t <;> simp
    have e : a = b := by simpa using h2.1
    rw [List.cons_prefix_cons]
    exact ⟨e, preN_pre s t h2.2⟩
/-- A period stays one under other names. -/
theorem per_names {N : List Nat} {p : Nat} (h : B.per (byt N) p = true) (hN : ∀ x ∈ N, x < 24) (F : Nat → UInt8) : B.per (N.map F) p = true := by
  rw [← perN_eq N p (fun x hx => by have := hN x hx; omega)] at h
  have h2 := preN_pre _ _ h
  unfold B.per
  rw [List.isPrefixOf_iff_prefix, ← List.map_drop]
  exact h2.map F
theorem byt_len (N : List Nat) : (byt N).length = N.length := by simp [byt]
/-- Figures of few names. -/
theorem chk_names {N : List Nat} (F : Nat → UInt8) (h1 : 1 ≤ N.length) (h2 : N.length ≤ 24) (hF : ∀ x ∈ N, 97 ≤ (F x).toNat ∧ (F x).toNat ≤ 122) : B.chk (B.str (N.map F)) = 0 := by
  have hs : (B.str (N.map F)).size = N.length := by rw [Lib.size_eq]; simp [B.str]
  unfold B.chk
  rw [if_neg (by omega), if_neg (by omega), if_pos]
  rw [show (B.str (N.map F)).data.toList = N.map F from rfl, List.all_map, List.all_eq_true]
  intro x hx
  have := hF x hx
  simp [B.fig, this]
theorem goes_in {l : List UInt8} {k : Nat} (h1 : 1 ≤ k) (h2 : k ≤ l.length) : B.goes l k = B.per l k := by
  unfold B.goes; simp [h1, h2]
end B
end Go.Proofs.Ytiodcgdjphmffaa
