/- Package ink: what an ink adds to a set: as plain functions. No program is named here. -/
import Derived.Test.YtapndndbibgjoaaIRChk
namespace Go.Proofs.Ytapndndbibgjoaa
open Go.RowKit

/-- The colours of a set. -/
def K.cols (s : Nat) : List Nat := (List.range 7).filter (s.testBit ·)
/-- What an ink adds to a set. -/
def K.addL (r : List Int) (s : Nat) : Nat := (K.cols s).foldl (fun a c => a ||| 2 ^ (r.getD c 0).toNat) s
/-- The same, colour by colour. -/
def K.addR (r : List Int) (s k : Nat) : Nat := (List.range k).foldl (fun a c => if s.testBit c = true then a ||| 2 ^ (r.getD c 0).toNat else a) s

theorem K.addR_zero (r : List Int) (s : Nat) : K.addR r s 0 = s := rfl
theorem K.addR_succ (r : List Int) (s k : Nat) : K.addR r s (k + 1) = if s.testBit k = true then K.addR r s k ||| 2 ^ (r.getD k 0).toNat else K.addR r s k := by
  unfold K.addR
  rw [List.range_succ, List.foldl_append]
  rfl

theorem K.foldl_filter {α β : Type} (p : α → Bool) (f : β → α → β) : ∀ (l : List α) (b : β), (l.filter p).foldl f b = l.foldl (fun b a => if p a = true then f b a else b) b
  | [], b => rfl
  | x :: l, b => by
    by_cases h : p x = true
    · rw [List.filter_cons_of_pos h, List.foldl_cons, List.foldl_cons, if_pos h]
      exact K.foldl_filter p f l _
    · rw [List.filter_cons_of_neg h, List.foldl_cons, if_neg h]
      exact K.foldl_filter p f l _

theorem K.testBit_high {s n k : Nat} (hs : s < 2 ^ n) (hk : n ≤ k) : s.testBit k = false := Nat.testBit_lt_two_pow (Nat.lt_of_lt_of_le hs (Nat.pow_le_pow_right (by decide) hk))

theorem K.addR_high (r : List Int) {s n : Nat} (hs : s < 2 ^ n) : ∀ k, n ≤ k → K.addR r s k = K.addR r s n
  | 0, h => by rw [Nat.le_zero.1 h]
  | k + 1, h => by
    by_cases e : n = k + 1
    · rw [e]
    · rw [K.addR_succ, if_neg (by rw [K.testBit_high hs (by omega)]; simp), K.addR_high r hs k (by omega)]

theorem K.addL_eq (r : List Int) {s n : Nat} (hs : s < 2 ^ n) (hn : n ≤ 7) : K.addL r s = K.addR r s n := by
  unfold K.addL K.cols
  rw [K.foldl_filter]
  exact K.addR_high r hs 7 hn

/-- A row of colours below n. -/
def K.Row (n : Nat) (r : List Int) : Prop := r.length = n ∧ ∀ x ∈ r, 0 ≤ x ∧ x < n

theorem K.Row.at {n : Nat} {r : List Int} (h : K.Row n r) {c : Nat} (hc : c < n) : ∃ m : Nat, m < n ∧ r.getD c 0 = (m : Int) := by
  have hl : c < r.length := by rw [h.1]; exact hc
  have := h.2 r[c] (List.getElem_mem hl)
  refine ⟨r[c].toNat, by omega, ?_⟩
  simp only [List.getD, List.getElem?_eq_getElem hl, Option.getD_some]
  omega

theorem K.two_lt {m n : Nat} (h : m < n) : 2 ^ m < 2 ^ n := Nat.pow_lt_pow_right (by decide) h

theorem K.addR_lt {n : Nat} {r : List Int} (h : K.Row n r) {s : Nat} (hs : s < 2 ^ n) : ∀ k, k ≤ n → K.addR r s k < 2 ^ n
  | 0, _ => hs
  | k + 1, hk => by
    rw [K.addR_succ]
    split
    · obtain ⟨m, hm, e⟩ := h.at (c := k) (by omega)
      rw [e, Int.toNat_natCast]
      exact Nat.or_lt_two_pow (K.addR_lt h hs k (by omega)) (K.two_lt hm)
    · exact K.addR_lt h hs k (by omega)

theorem K.addL_lt {n : Nat} {r : List Int} (h : K.Row n r) {s : Nat} (hs : s < 2 ^ n) (hn : n ≤ 7) : K.addL r s < 2 ^ n := by
  rw [K.addL_eq r hs hn]; exact K.addR_lt h hs n (Nat.le_refl _)

theorem K.lt_128 {s n : Nat} (hs : s < 2 ^ n) (hn : n ≤ 7) : s < 128 := Nat.lt_of_lt_of_le hs (Nat.pow_le_pow_right (show 0 < 2 by decide) hn)

theorem K.cols_mem {s c : Nat} : c ∈ K.cols s ↔ c < 7 ∧ s.testBit c = true := by
  unfold K.cols; simp [List.mem_filter, List.mem_range]

theorem K.foldl_const (q s : Nat) : ∀ (l : List Nat) (a : Nat), l.foldl (fun a _ => a ||| q) (a ||| q) = a ||| q
  | [], a => rfl
  | _ :: l, a => by
    rw [List.foldl_cons, Nat.or_assoc, Nat.or_self]
    exact K.foldl_const q s l a

/-- An opaque ink adds its own colour. -/
theorem K.addL_opq {n : Nat} {r : List Int} {f : Int} {s : Nat} (hs : s < 2 ^ n) (hl : r.length = n) (h : ∀ x ∈ r, x = f) (h0 : s.testBit 0 = true) (_ : n ≤ 7) : K.addL r s = s ||| 2 ^ f.toNat := by
  have hc : (K.cols s).foldl (fun a c => a ||| 2 ^ (r.getD c 0).toNat) s = (K.cols s).foldl (fun a _ => a ||| 2 ^ f.toNat) s := by
    have : ∀ (l : List Nat), (∀ c ∈ l, c < n) → ∀ a, l.foldl (fun a c => a ||| 2 ^ (r.getD c 0).toNat) a = l.foldl (fun a _ => a ||| 2 ^ f.toNat) a := fun l => by
      induction l with
      | nil => intro _ a; rfl
      | cons c l ih =>
        intro hl' a
        have hcl : c < r.length := by rw [hl]; exact hl' c (by simp)
        rw [List.foldl_cons, List.foldl_cons, ih (fun c hc => hl' c (by simp [hc]))]
        congr 3
        simp only [List.getD, List.getElem?_eq_getElem hcl, Option.getD_some]
        rw [h _ (List.getElem_mem hcl)]
    refine this _ (fun c hc => ?_) s
    have h2 := (K.cols_mem.1 hc).2
    rcases Nat.lt_or_ge c n with h3 | h3
    · exact h3
    · rw [K.testBit_high hs h3] at h2; cases h2
  unfold K.addL
  rw [hc]
  have hm : 0 ∈ K.cols s := K.cols_mem.2 ⟨by decide, h0⟩
  cases hcs : K.cols s with
  | nil => rw [hcs] at hm; cases hm
  | cons c l => rw [List.foldl_cons]; exact K.foldl_const _ s l s

/-- What is in a set remains. -/
theorem K.addR_bit (r : List Int) {s c : Nat} (h : s.testBit c = true) : ∀ k, (K.addR r s k).testBit c = true
  | 0 => h
  | k + 1 => by
    rw [K.addR_succ]
    split
    · rw [Nat.testBit_or, K.addR_bit r h k]; rfl
    · exact K.addR_bit r h k

/-- All inks at once. -/
def K.grown (T : List (List Int)) (s : Nat) : Nat := T.foldl (fun a r => a ||| K.addL r s) s

theorem K.grown_take_succ {T : List (List Int)} {s k : Nat} (h : k < T.length) : K.grown (T.take (k + 1)) s = K.grown (T.take k) s ||| K.addL T[k] s := by
  unfold K.grown
  rw [List.take_succ_eq_append_getElem h, List.foldl_append]
  rfl

theorem K.Good.row {n : Int} {T : List (List Int)} (h : K.Good n T) {k : Nat} (hk : k < T.length) : K.Row n.toNat T[k] := by
  have h1 := h.len k hk
  have h2 := h.lo
  refine ⟨by omega, fun x hx => ?_⟩
  obtain ⟨j, hj, rfl⟩ := List.getElem_of_mem hx
  have := h.dig k hk j hj
  omega

theorem K.grown_lt {n : Int} {T : List (List Int)} (h : K.Good n T) {s : Nat} (hs : s < 2 ^ n.toNat) : ∀ k, k ≤ T.length → K.grown (T.take k) s < 2 ^ n.toNat
  | 0, _ => by simpa [K.grown] using hs
  | k + 1, hk => by
    rw [K.grown_take_succ (by omega)]
    exact Nat.or_lt_two_pow (K.grown_lt h hs k (by omega)) (K.addL_lt (h.row (by omega)) hs (by have := h.hi; omega))

theorem K.grown_bit {T : List (List Int)} {s c : Nat} (h : s.testBit c = true) : (K.grown T s).testBit c = true := by
  unfold K.grown
  have : ∀ (T : List (List Int)) (a : Nat), a.testBit c = true → (T.foldl (fun a r => a ||| K.addL r s) a).testBit c = true := fun T => by
    induction T with
    | nil => intro a ha; exact ha
    | cons r T ih => intro a ha; rw [List.foldl_cons]; exact ih _ (by rw [Nat.testBit_or, ha]; rfl)
  exact this T s h
end Go.Proofs.Ytapndndbibgjoaa
