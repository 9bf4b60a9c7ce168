/- All borders up to 7 figures of up to 3 kinds, turned to their first forms: counted. -/
import Derived.Test.YtiodcgdjphmffaaBLook
import Derived.Test.YtiodcgdjphmffaaBRoot
import Derived.Test.YtiodcgdjphmffaaBFirst
namespace Go.Proofs.Ytiodcgdjphmffaa
open Go.RowKit Go.Maps
namespace B
def leN : List Nat → List Nat → Bool
  | [], _ => true
  | _ :: _, [] => false
  | x :: s, y :: t => bif Nat.beq x y then leN s t else Nat.ble x y
def minN (a b : List Nat) : List Nat := bif leN a b then a else b
def rotN (T : List Nat) (t : Nat) : List Nat := T.drop t ++ T.take t
def firN (T : List Nat) : Nat → List Nat
  | 0 => T
  | k + 1 => minN (firN T k) (rotN T k)
def rtN (T : List Nat) : Nat := (((List.range T.length).find? (fun k => (perN T (k + 1)).and (Nat.beq (T.length % (k + 1)) 0))).map (· + 1)).getD T.length
/-- The border with this number, of so many kinds. -/
def digk (K : Nat) : Nat → Nat → List Nat
  | 0, _ => []
  | k + 1, x => (x % K) :: digk K k (x / K)
def codeN : List Nat → Nat
  | [] => 0
  | d :: t => d + 3 * codeN t
def forceN {α : Type} : Nat → (Nat → α) → α
  | 0, f => f 0
  | n + 1, f => f (n + 1)
theorem forceN_eq {α : Type} (n : Nat) (f : Nat → α) : forceN n f = f n := by cases n <;> rfl
/-- So many borders more: is the count right behind them? -/
def runC (K n r t : Nat) : Nat → Nat → List Nat → Nat → Bool
  | 0, _, A, s => (Nat.beq A.length r).and (Nat.beq s t)
  | k + 1, x, A, s => forceN x fun x => forceN (codeN (firN (digk K n x) n)) fun c => bif memN c A then runC K n r t k (x + 1) A s else forceN (s + rtN (digk K n x)) fun s => runC K n r t k (x + 1) (c :: A) s
def cntN (K n : Nat) : Bool := runC K n (B.rings n K) (K ^ n) (K ^ n) 0 [] 0
theorem runC_succ (K n r t k x : Nat) (A : List Nat) (s : Nat) : runC K n r t (k + 1) x A s = bif memN (codeN (firN (digk K n x) n)) A then runC K n r t k (x + 1) A s else runC K n r t k (x + 1) (codeN (firN (digk K n x) n) :: A) (s + rtN (digk K n x)) := by
  rw [runC, forceN_eq, forceN_eq, forceN_eq]

theorem codeN_inj : ∀ {s t : List Nat}, s.length = t.length → (∀ x ∈ s, x < 3) → (∀ x ∈ t, x < 3) → codeN s = codeN t → s = t
  | [], [], _, _, _, _ => rfl
  | [], _ :: _, h, _, _, _ => by cases h
  | _ :: _, [], h, _, _, _ => by cases h
  | a :: s, b :: t, h, hs, ht, e => by
    have ha := hs a List.mem_cons_self
    have hb := ht b List.mem_cons_self
    rw [codeN, codeN] at e
    have e1 : a = b := by omega
    have e2 : codeN s = codeN t := by omega
    rw [e1, codeN_inj (by simpa using h) (fun x hx => hs x (List.mem_cons_of_mem _ hx)) (fun x hx => ht x (List.mem_cons_of_mem _ hx)) e2]
/-- Borders of this length and these kinds. -/
def Of (n : Nat) (T : List Nat) : Prop := T.length = n ∧ ∀ x ∈ T, x < 3
theorem memN_code {n : Nat} {T : List Nat} (hT : Of n T) : ∀ A : List (List Nat), (∀ U ∈ A, Of n U) → memN (codeN T) (A.map codeN) = memL T A
  | [], _ => rfl
  | U :: A, h => by
    have hU := h U List.mem_cons_self
    rw [List.map_cons, memN, memL, memN_code hT A (fun V hV => h V (List.mem_cons_of_mem _ hV))]
    congr 1
    rw [Bool.eq_iff_iff, eqL_iff, Nat.beq_eq]
    exact ⟨fun e => codeN_inj (hT.1.trans hU.1.symm) hT.2 hU.2 e, fun e => by rw [e]⟩
theorem byt_rot (T : List Nat) (t : Nat) : B.turn (B.str (byt T)) t = B.str (byt (rotN T t)) := B.ext (by
  rw [B.turn_data, B.str_data, B.str_data]
  simp [rotN, byt, List.map_drop, List.map_take])
theorem leN_iff : ∀ (s t : List Nat), (∀ x ∈ s, x < 100) → (∀ x ∈ t, x < 100) → (leN s t = true ↔ (byt s < byt t ∨ byt s = byt t))
  | [], [], _, _ => ⟨fun _ => Or.inr rfl, fun _ => rfl⟩
  | [], b :: t, _, _ => ⟨fun _ => Or.inl (List.nil_lt_cons _ _), fun _ => rfl⟩
  | a :: s, [], _, _ => ⟨fun h => (by cases h), fun h => (by
      rcases h with h | h
      · exact absurd h (List.not_lt_nil _)
      · cases h)⟩
  | a :: s, b :: t, hs, ht => by
    have ih := leN_iff s t (fun x hx => hs x (List.mem_cons_of_mem _ hx)) (fun x hx => ht x (List.mem_cons_of_mem _ hx))
    have ha := hs a List.mem_cons_self
    have hb := ht b List.mem_cons_self
    have hlt : UInt8.ofNat (97 + a) < UInt8.ofNat (97 + b) ↔ a < b := by
      rw [UInt8.lt_iff_toNat_lt, UInt8.toNat_ofNat', UInt8.toNat_ofNat']; omega
    have heq := byt_inj ha hb
    show leN (a :: s) (b :: t) = true ↔ (UInt8.ofNat (97 + a) :: byt s < UInt8.ofNat (97 + b) :: byt t ∨ UInt8.ofNat (97 + a) :: byt s = UInt8.ofNat (97 + b) :: byt t)
    rw [List.cons_lt_cons_iff, List.cons.injEq, hlt, heq, leN]
    by_cases e : a = b
    · rw [show Nat.beq a b = true from by simpa using e, cond_true, ih]
      constructor
      · rintro (h | h)
        · exact Or.inl (Or.inr ⟨e, h⟩)
        · exact Or.inr ⟨e, h⟩
      · rintro ((h | h) | h)
        · omega
        · exact Or.inl h.2
        · exact Or.inr h.2
    · rw [show Nat.beq a b = false from by rw [← Bool.not_eq_true]; simpa using e, cond_false, Nat.ble_eq]
      constructor
      · intro h; exact Or.inl (Or.inl (by omega))
      · rintro ((h | h) | h)
        · omega
        · exact absurd h.1 e
        · exact absurd h.1 e
theorem min_byt {a b : List Nat} (ha : ∀ x ∈ a, x < 100) (hb : ∀ x ∈ b, x < 100) : Lib.minS (B.str (byt a)) (B.str (byt b)) = B.str (byt (minN a b)) := by
  have h := leN_iff a b ha hb
  unfold Lib.minS minN
  rw [B.str_data, B.str_data]
  cases hl : leN a b with
  | true => rw [if_pos (h.1 hl), cond_true]
  | false => rw [if_neg (fun k => by rw [h.2 k] at hl; cases hl), cond_false]
theorem firN_of {n : Nat} {T : List Nat} (hT : Of n T) : ∀ k, k ≤ n → Of n (firN T k) ∧ B.firstTo (B.str (byt T)) k = B.str (byt (firN T k))
  | 0, _ => ⟨hT, rfl⟩
  | k + 1, h => by
    obtain ⟨h1, h2⟩ := firN_of hT k (by omega)
    have hr : Of n (rotN T k) := ⟨by simp [rotN, hT.1]; omega, fun x hx => by
      rcases List.mem_append.1 hx with h | h
      · exact hT.2 x (List.mem_of_mem_drop h)
      · exact hT.2 x (List.mem_of_mem_take h)⟩
    refine ⟨?_, ?_⟩
    · rw [firN, minN]; cases leN (firN T k) (rotN T k) <;> assumption
    · rw [B.firstTo_succ, h2, byt_rot T k, min_byt (fun x hx => by have := h1.2 x hx; omega) (fun x hx => by have := hr.2 x hx; omega)]
      rfl
theorem rtN_eq {T : List Nat} (hT : ∀ x ∈ T, x < 100) : B.rt2 (byt T) = rtN T := by
  unfold B.rt2 rtN
  rw [byt_len]
  congr 3
  funext k
  unfold B.isRt
  rw [← perN_eq T _ hT, byt_len]
  congr 1
  rw [Bool.eq_iff_iff, beq_iff_eq, Nat.beq_eq]
theorem digk_of {K : Nat} (hK : 1 ≤ K ∧ K ≤ 3) : ∀ (n x : Nat), Of n (digk K n x)
  | 0, _ => ⟨rfl, fun x h => by cases h⟩
  | n + 1, x => by
    have ih := digk_of hK n (x / K)
    refine ⟨by rw [digk, List.length_cons, ih.1], fun y hy => ?_⟩
    rw [digk] at hy
    rcases List.mem_cons.1 hy with rfl | h
    · have := Nat.mod_lt x (show 0 < K by omega); omega
    · exact ih.2 y h
end B
end Go.Proofs.Ytiodcgdjphmffaa
