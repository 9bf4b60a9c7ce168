/- Wide borders on plain numbers: what is looked at for each length and each two periods. -/
import Derived.Test.YtiodcgdjphmffaaBWide
import Derived.Test.YtiodcgdjphmffaaBGoes
namespace Go.Proofs.Ytiodcgdjphmffaa
open Go.RowKit
namespace B
def getN : List Nat → Nat → Nat
  | [], _ => 0
  | x :: _, 0 => x
  | _ :: t, i + 1 => getN t i
def unL (a b : Nat) : List Nat → List Nat
  | [] => []
  | x :: t => (bif (Nat.beq x a).or (Nat.beq x b) then (bif Nat.ble a b then a else b) else x) :: unL a b t
def raL (p : Nat) (L : List Nat) : Nat → List Nat
  | 0 => L
  | k + 1 => unL (getN (raL p L k) k) (getN (raL p L k) (k + p)) (raL p L k)
def iota : Nat → List Nat
  | 0 => []
  | k + 1 => iota k ++ [k]
def nmN (L : List Nat) : Nat → List Nat × Nat
  | 0 => ([], 0)
  | k + 1 => bif Nat.beq (getN L k) k then ((nmN L k).1 ++ [(nmN L k).2], (nmN L k).2 + 1) else ((nmN L k).1 ++ [getN (nmN L k).1 (getN L k)], (nmN L k).2)
def preN : List Nat → List Nat → Bool
  | [], _ => true
  | _ :: _, [] => false
  | a :: s, b :: t => (Nat.beq a b).and (preN s t)
def perN (l : List Nat) (p : Nat) : Bool := preN (l.drop p) l
def ordN : List Nat → Nat → Nat → Bool
  | [], f, F => Nat.beq f F
  | c :: t, f, F => (Nat.ble c f).and (bif Nat.beq c f then ordN t (f + 1) F else ordN t f F)
def allTo : Nat → (Nat → Bool) → Bool
  | 0, _ => true
  | k + 1, f => (f k).and (allTo k f)
def mx (a b : Nat) : Nat := bif Nat.ble a b then b else a
def fin1 (p q n g : Nat) (l : List Nat) : Bool :=
  (((ordN l 0 (mx g (p + q - n))).and (perN l p)).and (perN l q)).and (bif Nat.ble (p + q) (n + g) then perN l g else (perN l g).not)
def widN (n p q : Nat) : List Nat := (nmN (raL q (raL p (iota n) (n - p)) (n - q)) n).1
def fin (n p q : Nat) : Bool := fin1 p q n (Nat.gcd p q) (widN n p q)
def finAll (n : Nat) : Bool := allTo n fun p => allTo n fun q => fin n (p + 1) (q + 1)
def tab (M : Nat → Nat) (n : Nat) : List Nat := (List.range n).map M
def byt (l : List Nat) : List UInt8 := l.map fun x => UInt8.ofNat (97 + x)

theorem allTo_at {f : Nat → Bool} : ∀ {n : Nat}, allTo n f = true → ∀ i, i < n → f i = true
  | 0, _, i, h => absurd h (Nat.not_lt_zero _)
  | k + 1, h, i, hi => by
    have h1 : ((f k).and (allTo k f)) = true := h
    have h2 : f k = true ∧ allTo k f = true := by revert h1; cases f k <;> cases allTo k f <;> simp
    by_cases e : i = k
    · rw [e]; exact h2.1
    · exact allTo_at h2.2 i (by omega)
theorem getN_eq : ∀ (l : List Nat) (i : Nat), getN l i = l.getD i 0
  | [], _ => by simp [getN]
  | x :: _, 0 => by simp [getN]
  | _ :: t, i + 1 => by rw [getN, getN_eq t i]; simp
theorem getN_tab (M : Nat → Nat) (n i : Nat) (h : i < n) : getN (tab M n) i = M i := by
  rw [getN_eq]; simp [tab, h]
theorem unL_eq (a b : Nat) : ∀ l : List Nat, unL a b l = l.map (B.un a b)
  | [] => rfl
  | x :: t => by
    rw [unL, unL_eq a b t, List.map_cons]
    congr 1
    unfold B.un
    by_cases h : x = a ∨ x = b
    · have e : (Nat.beq x a).or (Nat.beq x b) = true := by rcases h with h | h <;> simp [h]
      rw [e, if_pos h, cond_true]
      by_cases hab : a ≤ b
      · rw [show Nat.ble a b = true from by simpa using hab, cond_true, Nat.min_eq_left hab]
      · rw [show Nat.ble a b = false from by rw [← Bool.not_eq_true]; simpa using hab, cond_false, Nat.min_eq_right (by omega)]
    · have e : (Nat.beq x a).or (Nat.beq x b) = false := by
        have h1 : Nat.beq x a = false := by rw [← Bool.not_eq_true]; simp; omega
        have h2 : Nat.beq x b = false := by rw [← Bool.not_eq_true]; simp; omega
        rw [h1, h2]; rfl
      rw [e, if_neg h, cond_false]
theorem raL_eq (p : Nat) (M : Nat → Nat) (n : Nat) : ∀ k, k + p ≤ n → raL p (tab M n) k = tab (B.ra p M k) n
  | 0, _ => rfl
  | k + 1, h => by
    rw [raL, raL_eq p M n k (by omega), unL_eq, getN_tab _ _ _ (by omega), getN_tab _ _ _ (by omega)]
    simp only [tab, List.map_map]
    rfl
theorem iota_eq : ∀ n, iota n = tab id n
  | 0 => rfl
  | k + 1 => by rw [iota, iota_eq k]; simp [tab, List.range_succ]
theorem byt_append (a b : List Nat) : byt (a ++ b) = byt a ++ byt b := by simp [byt]
theorem nmN_eq (M : Nat → Nat) (n : Nat) (hM : ∀ i, i < n → M i ≤ i) : ∀ k, k ≤ n → byt (nmN (tab M n) k).1 = (B.nm M k).1 ∧ (nmN (tab M n) k).2 = (B.nm M k).2 ∧ (nmN (tab M n) k).1.length = k
  | 0, _ => ⟨rfl, rfl, rfl⟩
  | k + 1, h => by
    obtain ⟨h1, h2, h3⟩ := nmN_eq M n hM k (by omega)
    rw [nmN, getN_tab _ _ _ (by omega)]
    by_cases e : M k = k
    · have hb : Nat.beq (M k) k = true := by simpa using e
      have hs : B.nm M (k + 1) = ((B.nm M k).1 ++ [UInt8.ofNat (97 + (B.nm M k).2)], (B.nm M k).2 + 1) := by rw [B.nm, if_pos e]
      rw [hb, cond_true, hs]
      refine ⟨?_, by rw [h2], by simp [h3]⟩
      show byt ((nmN (tab M n) k).1 ++ [(nmN (tab M n) k).2]) = _
      rw [byt_append, h1, h2]
      rfl
    · have hb : Nat.beq (M k) k = false := by rw [← Bool.not_eq_true]; simpa using e
      have hs : B.nm M (k + 1) = ((B.nm M k).1 ++ [(B.nm M k).1.getD (M k) 0], (B.nm M k).2) := by rw [B.nm, if_neg e]
      rw [hb, cond_false, hs]
      refine ⟨?_, h2, by simp [h3]⟩
      show byt ((nmN (tab M n) k).1 ++ [getN (nmN (tab M n) k).1 (M k)]) = _
      have hk : M k < k := by have := hM k (by omega); omega
      rw [byt_append, h1, getN_eq, ← h1]
      simp only [byt, List.map_cons, List.map_nil, List.getD_eq_getElem?_getD, List.getElem?_map]
      rw [List.getElem?_eq_getElem (show M k < (nmN (tab M n) k).1.length by omega)]
      rfl
theorem widN_eq (n p q : Nat) (hp : p ≤ n) (hq : q ≤ n) : byt (widN n p q) = B.wide p q n ∧ (widN n p q).length = n := by
  unfold widN B.wide
  rw [iota_eq, raL_eq p id n (n - p) (by omega), raL_eq q _ n (n - q) (by omega)]
  have h := nmN_eq (B.ra q (B.ra p id (n - p)) (n - q)) n (fun i _ => Nat.le_trans (B.ra_le _ _ _ _) (Nat.le_trans (B.ra_le _ _ _ _) (Nat.le_refl _))) n (Nat.le_refl _)
  exact ⟨h.1, h.2.2⟩
theorem byt_inj {x y : Nat} (hx : x < 100) (hy : y < 100) : UInt8.ofNat (97 + x) = UInt8.ofNat (97 + y) ↔ x = y := by
  constructor
  · intro h
    have := congrArg UInt8.toNat h
    simp only [UInt8.toNat_ofNat'] at this
    omega
  · rintro rfl; rfl
theorem preN_eq : ∀ (s t : List Nat), (∀ x ∈ s, x < 100) → (∀ x ∈ t, x < 100) → preN s t = (byt s).isPrefixOf (byt t)
  | [], t, _, _ => by simp [preN, byt]
  | _ :: _, [], _, _ => by simp [preN, byt]
  | a :: s, b :: t, hs, ht => by
    have h := preN_eq s t (fun x hx => hs x (List.mem_cons_of_mem _ hx)) (fun x hx => ht x (List.mem_cons_of_mem _ hx))
    have e := byt_inj (hs a List.mem_cons_self) (ht b List.mem_cons_self)
    rw [preN, h]
    show _ = (UInt8.ofNat (97 + a) == UInt8.ofNat (97 + b) && (byt s).isPrefixOf (byt t))
    have h2 : Nat.beq a b = (UInt8.ofNat (97 + a) == UInt8.ofNat (97 + b)) := by
      rw [Bool.eq_iff_iff, Nat.beq_eq, beq_iff_eq, e]
    rw [h2]
theorem perN_eq (l : List Nat) (p : Nat) (h : ∀ x ∈ l, x < 100) : perN l p = B.per (byt l) p := by
  unfold perN B.per
  rw [preN_eq _ _ (fun x hx => h x (List.mem_of_mem_drop hx)) h]
  simp [byt, List.map_drop]
theorem ordN_lt : ∀ (l : List Nat) (f F : Nat), ordN l f F = true → ∀ x ∈ l, x < f + l.length
  | [], _, _, _, x, hx => by cases hx
  | c :: t, f, F, h, x, hx => by
    rw [ordN] at h
    have h1 : Nat.ble c f = true ∧ (bif Nat.beq c f then ordN t (f + 1) F else ordN t f F) = true := by
      revert h; cases Nat.ble c f <;> cases (bif Nat.beq c f then ordN t (f + 1) F else ordN t f F) <;> simp
    have hc : c ≤ f := Nat.le_of_ble_eq_true h1.1
    rcases List.mem_cons.1 hx with rfl | hm
    · rw [List.length_cons]; omega
    · have h2 := h1.2
      rw [List.length_cons]
      cases hb : Nat.beq c f with
      | true => rw [hb, cond_true] at h2; have := ordN_lt t (f + 1) F h2 x hm; omega
      | false => rw [hb, cond_false] at h2; have := ordN_lt t f F h2 x hm; omega
theorem ordN_step {c : Nat} {t : List Nat} {f F : Nat} (h : ordN (c :: t) f F = true) : c ≤ f ∧ ordN t (if c = f then f + 1 else f) F = true := by
  rw [ordN] at h
  have h1 : Nat.ble c f = true ∧ (bif Nat.beq c f then ordN t (f + 1) F else ordN t f F) = true := by
    revert h; cases Nat.ble c f <;> cases (bif Nat.beq c f then ordN t (f + 1) F else ordN t f F) <;> simp
  refine ⟨Nat.le_of_ble_eq_true h1.1, ?_⟩
  have h2 := h1.2
  by_cases e : c = f
  · rw [if_pos e]; rw [show Nat.beq c f = true from by simpa using e, cond_true] at h2; exact h2
  · rw [if_neg e]; rw [show Nat.beq c f = false from by rw [← Bool.not_eq_true]; simpa using e, cond_false] at h2; exact h2

/-- What is known of a wide border. -/
structure Fine (n p q : Nat) (N : List Nat) : Prop where
  len : N.length = n
  row : byt N = B.wide p q n
  lt : ∀ x ∈ N, x < 24
  ord : ordN N 0 (max (Nat.gcd p q) (p + q - n)) = true
  perp : B.per (byt N) p = true
  perq : B.per (byt N) q = true
  perg : p + q ≤ n + Nat.gcd p q → B.per (byt N) (Nat.gcd p q) = true
  pern : ¬ p + q ≤ n + Nat.gcd p q → B.per (byt N) (Nat.gcd p q) = false
theorem mx_eq (a b : Nat) : mx a b = max a b := by
  unfold mx
  by_cases h : a ≤ b
  · rw [show Nat.ble a b = true from by simpa using h, cond_true, Nat.max_eq_right h]
  · rw [show Nat.ble a b = false from by rw [← Bool.not_eq_true]; simpa using h, cond_false, Nat.max_eq_left (by omega)]
theorem and4 {a b c d : Bool} (h : ((a.and b).and c).and d = true) : a = true ∧ b = true ∧ c = true ∧ d = true := by
  revert h; cases a <;> cases b <;> cases c <;> cases d <;> simp
theorem fine_of {n p q : Nat} (hn : n ≤ 24) (hp : p ≤ n) (hq : q ≤ n) (h : fin n p q = true) : Fine n p q (widN n p q) := by
  obtain ⟨e1, e2⟩ := widN_eq n p q hp hq
  obtain ⟨h1, h2, h3, h4⟩ := and4 (show (((ordN (widN n p q) 0 (mx (Nat.gcd p q) (p + q - n))).and (perN (widN n p q) p)).and (perN (widN n p q) q)).and (bif Nat.ble (p + q) (n + Nat.gcd p q) then perN (widN n p q) (Nat.gcd p q) else (perN (widN n p q) (Nat.gcd p q)).not) = true from h)
  have hlt : ∀ x ∈ widN n p q, x < 24 := fun x hx => by have := ordN_lt _ _ _ h1 x hx; omega
  have hl : ∀ x ∈ widN n p q, x < 100 := fun x hx => by have := hlt x hx; omega
  rw [perN_eq _ _ hl] at h2 h3
  rw [perN_eq _ _ hl] at h4
  refine ⟨e2, e1, hlt, by rw [← mx_eq]; exact h1, h2, h3, fun hc => ?_, fun hc => ?_⟩
  · rw [show Nat.ble (p + q) (n + Nat.gcd p q) = true from by simpa using hc, cond_true] at h4; exact h4
  · rw [show Nat.ble (p + q) (n + Nat.gcd p q) = false from by rw [← Bool.not_eq_true]; simpa using hc, cond_false] at h4; simpa using h4
end B
end Go.Proofs.Ytiodcgdjphmffaa
