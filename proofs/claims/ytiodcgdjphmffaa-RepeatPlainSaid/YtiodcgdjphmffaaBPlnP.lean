/- Two figures suffice for the periods of each border of three, up to 11 figures. -/
import Derived.Test.YtiodcgdjphmffaaBTreA
import Derived.Test.YtiodcgdjphmffaaBTreB
import Derived.Test.YtiodcgdjphmffaaBTreC
import Derived.Test.YtiodcgdjphmffaaBPln
namespace Go.Proofs.Ytiodcgdjphmffaa
open Go.RowKit
namespace B
def Asc (P : List Nat) : Prop := P.Pairwise (· < ·)
theorem cod_dvd (m : Nat) : ∀ P : List Nat, (∀ x ∈ P, m ≤ x) → 2 ^ m ∣ cod P
  | [], _ => ⟨0, by simp [cod]⟩
  | p :: P, h => by
    rw [cod]
    exact Nat.dvd_add (Nat.pow_dvd_pow 2 (h p List.mem_cons_self)) (cod_dvd m P (fun x hx => h x (List.mem_cons_of_mem _ hx)))
theorem cod_lt {p q : Nat} {P Q : List Nat} (hP : Asc (p :: P)) (hQ : Asc (q :: Q)) (h : p < q) : cod (p :: P) ≠ cod (q :: Q) := by
  intro e
  have h1 : 2 ^ (p + 1) ∣ cod P := cod_dvd _ _ (fun x hx => (List.pairwise_cons.1 hP).1 x hx)
  have h2 : 2 ^ (p + 1) ∣ cod (q :: Q) := cod_dvd _ _ (fun x hx => by
    rcases List.mem_cons.1 hx with rfl | hm
    · exact h
    · have := (List.pairwise_cons.1 hQ).1 x hm; omega)
  rw [← e, cod] at h2
  have h3 := (Nat.dvd_add_left h1).1 h2
  have h4 := Nat.le_of_dvd (Nat.two_pow_pos p) h3
  rw [Nat.pow_succ] at h4
  have := Nat.two_pow_pos p
  omega
theorem cod_inj : ∀ {P Q : List Nat}, Asc P → Asc Q → cod P = cod Q → P = Q
  | [], [], _, _, _ => rfl
  | [], q :: Q, _, _, e => by
    have := Nat.two_pow_pos q
    rw [cod, cod] at e; omega
  | p :: P, [], _, _, e => by
    have := Nat.two_pow_pos p
    rw [cod, cod] at e; omega
  | p :: P, q :: Q, hP, hQ, e => by
    by_cases h : p = q
    · subst h
      rw [cod, cod] at e
      rw [cod_inj (List.pairwise_cons.1 hP).2 (List.pairwise_cons.1 hQ).2 (by omega)]
    · by_cases h2 : p < q
      · exact absurd e (cod_lt hP hQ h2)
      · exact absurd e.symm (cod_lt hQ hP (by omega))
theorem nxt_sub (c : Nat) (T : List Nat) : ∀ P, (nxt c T P).Sublist P
  | [] => List.Sublist.refl _
  | q :: P => by
    rw [nxt]
    cases Nat.beq (getN T (q - 1)) c with
    | true => exact (nxt_sub c T P).cons_cons q
    | false => exact (nxt_sub c T P).cons q
theorem perL_asc : ∀ T : List Nat, Asc (perL T)
  | [] => List.Pairwise.nil
  | c :: T => by
    unfold Asc
    rw [perL, List.pairwise_append]
    refine ⟨(perL_asc T).sublist (nxt_sub c T _), List.pairwise_singleton _ _, fun a ha b hb => ?_⟩
    rw [List.mem_singleton] at hb
    have := ((perL_in T a).1 ((nxt_sub c T _).subset ha)).2.1
    omega
def numN (x n : Nat) : List Nat := (List.range n).map fun i => x / 2 ^ (n - 1 - i) % 2
theorem numN_len (x n : Nat) : (numN x n).length = n := by simp [numN]
theorem numN_lt (x n : Nat) : ∀ y ∈ numN x n, y < 3 := fun y hy => by
  obtain ⟨i, _, rfl⟩ := List.mem_map.1 hy
  have := Nat.mod_lt (x / 2 ^ (n - 1 - i)) (show 0 < 2 by decide)
  omega
theorem byt_num (x n : Nat) : byt (numN x n) = B.num x n := by
  unfold byt numN B.num
  rw [List.map_map]
  rfl
def wOk (n : Nat) : List Nat → List Nat → Bool
  | [], _ => true
  | _ :: _, [] => false
  | m :: M, x :: X => (Nat.beq (cod (perL (numN x n))) m).and ((Nat.blt x (2 ^ n)).and (wOk n M X))
theorem wOk_at (n : Nat) : ∀ (M X : List Nat), wOk n M X = true → ∀ m, memN m M = true → ∃ x, x < 2 ^ n ∧ cod (perL (numN x n)) = m
  | [], _, _, m, h => by cases h
  | _ :: _, [], h, _, _ => by cases h
  | m0 :: M, x :: X, h, m, hm => by
    obtain ⟨h1, h23⟩ := and2 (show (Nat.beq (cod (perL (numN x n))) m0).and ((Nat.blt x (2 ^ n)).and (wOk n M X)) = true from h)
    obtain ⟨h2, h3⟩ := and2 h23
    by_cases e : m = m0
    · subst e
      exact ⟨x, Nat.le_of_ble_eq_true h2, Nat.eq_of_beq_eq_true h1⟩
    · refine wOk_at n M X h3 m ?_
      rw [memN_iff] at hm ⊢
      rcases List.mem_cons.1 hm with h | h
      · exact absurd h e
      · exact h
end B
set_option maxRecDepth 100000
theorem B.wits_ok : B.allTo 12 (fun n => B.wOk n (B.tb n) (B.getT B.wits n)) = true := by kernel_rfl
namespace B
theorem tree8 {a b c : Nat} (ha : a < 3) (hb : b < 3) (hc : c < 3) : tree 8 3 [a, b, c] (perL [a, b, c]) = true := by
  have h1 : a = 0 ∨ a = 1 ∨ a = 2 := by omega
  have h2 : b = 0 ∨ b = 1 ∨ b = 2 := by omega
  have h3 : c = 0 ∨ c = 1 ∨ c = 2 := by omega
  rcases h1 with rfl | rfl | rfl
  · rcases h2 with rfl | rfl | rfl
    · rcases h3 with rfl | rfl | rfl
      · exact tree000
      · exact tree001
      · exact tree002
    · rcases h3 with rfl | rfl | rfl
      · exact tree010
      · exact tree011
      · exact tree012
    · rcases h3 with rfl | rfl | rfl
      · exact tree020
      · exact tree021
      · exact tree022
  · rcases h2 with rfl | rfl | rfl
    · rcases h3 with rfl | rfl | rfl
      · exact tree100
      · exact tree101
      · exact tree102
    · rcases h3 with rfl | rfl | rfl
      · exact tree110
      · exact tree111
      · exact tree112
    · rcases h3 with rfl | rfl | rfl
      · exact tree120
      · exact tree121
      · exact tree122
  · rcases h2 with rfl | rfl | rfl
    · rcases h3 with rfl | rfl | rfl
      · exact tree200
      · exact tree201
      · exact tree202
    · rcases h3 with rfl | rfl | rfl
      · exact tree210
      · exact tree211
      · exact tree212
    · rcases h3 with rfl | rfl | rfl
      · exact tree220
      · exact tree221
      · exact tree222
theorem masks {W : List Nat} (h1 : 1 ≤ W.length) (h11 : W.length ≤ 11) (hW : ∀ x ∈ W, x < 3) : memN (cod (perL W)) (tb W.length) = true := by
  by_cases h3 : W.length ≤ 3
  · have h := tree_app W.reverse 3 0 [] tree3 rfl (by intro e; rw [List.reverse_eq_nil_iff] at e; rw [e] at h1; simp at h1) (by simpa using h3) (fun x hx => hW x (by simpa using hx))
    rw [app_eq, List.reverse_reverse, List.append_nil, List.length_reverse, Nat.zero_add] at h
    exact h
  · obtain ⟨a, b, c, e⟩ : ∃ a b c, W.drop (W.length - 3) = [a, b, c] := by
      have hl : (W.drop (W.length - 3)).length = 3 := by rw [List.length_drop]; omega
      match W.drop (W.length - 3), hl with
      | [a, b, c], _ => exact ⟨a, b, c, rfl⟩
    have hm : ∀ x ∈ [a, b, c], x < 3 := fun x hx => hW x (List.mem_of_mem_drop (by rw [e]; exact hx))
    have ht := tree8 (hm a (by simp)) (hm b (by simp)) (hm c (by simp))
    have hne : (W.take (W.length - 3)).reverse ≠ [] := by
      intro k
      have := congrArg List.length k
      rw [List.length_reverse, List.length_take, List.length_nil] at this
      omega
    have h := tree_app (W.take (W.length - 3)).reverse 8 3 [a, b, c] ht rfl hne (by rw [List.length_reverse, List.length_take]; omega) (fun x hx => hW x (List.mem_of_mem_take (by simpa using hx)))
    rw [app_eq, List.reverse_reverse, ← e, List.take_append_drop, List.length_reverse, List.length_take] at h
    rw [show 3 + min (W.length - 3) W.length = W.length by omega] at h
    exact h
theorem same_of {x n : Nat} {W : List Nat} (hn : W.length = n) (hW : ∀ y ∈ W, y < 3) (h : perL (numN x n) = perL W) : B.same (B.num x n) (byt W) = true := by
  unfold B.same
  rw [List.all_eq_true]
  intro p hp
  rw [← byt_num, byt_len, numN_len, List.mem_range] at hp
  by_cases h0 : p = 0
  · subst h0; rfl
  · have e1 := perL_in (numN x n) p
    rw [h, perL_in W p, numN_len, hn] at e1
    have e2 : perN W p = perN (numN x n) p := by
      rw [Bool.eq_iff_iff]
      exact ⟨fun k => (e1.1 ⟨by omega, by omega, k⟩).2.2, fun k => (e1.2 ⟨by omega, by omega, k⟩).2.2⟩
    rw [← byt_num, ← perN_eq _ _ (fun y hy => by have := numN_lt x n y hy; omega), ← perN_eq _ _ (fun y hy => by have := hW y hy; omega), e2]
    simp
/-- There is one, and a first one. -/
theorem first_same {W : List Nat} (h1 : 1 ≤ W.length) (h11 : W.length ≤ 11) (hW : ∀ x ∈ W, x < 3) : ∃ x, x < 2 ^ W.length ∧ B.same (B.num x W.length) (byt W) = true ∧ ∀ y, y < x → B.same (B.num y W.length) (byt W) = false := by
  have hw := allTo_at (f := fun n => wOk n (tb n) (getT wits n)) (n := 12) wits_ok W.length (by omega)
  obtain ⟨x, hx, hc⟩ := wOk_at W.length _ _ hw _ (masks h1 h11 hW)
  have hs := same_of rfl hW (cod_inj (perL_asc _) (perL_asc _) hc)
  cases hf : (List.range (2 ^ W.length)).find? (fun x => B.same (B.num x W.length) (byt W)) with
  | none =>
    rw [List.find?_range_eq_none] at hf
    have := hf x hx
    rw [hs] at this
    cases this
  | some y =>
    rw [List.find?_range_eq_some] at hf
    obtain ⟨a, b, c⟩ := hf
    exact ⟨y, by simpa using b, a, fun z hz => by simpa using c z hz⟩
end B
end Go.Proofs.Ytiodcgdjphmffaa
