/- A renamed table: it is a table, and has as many spots; states and codes go with the names. No program is named here. -/
import Derived.Test.YtlpdlnefgjmgmaaTwins
import Derived.Test.YtlpdlnefgjmgmaaEdit
import Derived.Test.YtlpdlnefgjmgmaaGrid
namespace Go.Proofs.Ytlpdlnefgjmgmaa
open Go.RowKit

def P.sum (n : Nat) (f : Nat → Nat) : Nat := ((List.range n).map f).sum

theorem P.sum_succ (n : Nat) (f : Nat → Nat) : P.sum (n + 1) f = P.sum n f + f n := by
  unfold P.sum
  rw [List.range_succ, List.map_append, List.sum_append]
  simp

theorem P.sum_congr {n : Nat} {f g : Nat → Nat} (h : ∀ i, i < n → f i = g i) : P.sum n f = P.sum n g := by
  induction n with
  | zero => rfl
  | succ n ih => rw [P.sum_succ, P.sum_succ, ih (fun i hi => h i (by omega)), h n (by omega)]

theorem P.sum_zero {n : Nat} {f : Nat → Nat} (h : ∀ i, i < n → f i = 0) : P.sum n f = 0 := by
  induction n with
  | zero => rfl
  | succ n ih => rw [P.sum_succ, ih (fun i hi => h i (by omega)), h n (by omega)]

theorem P.sum_add (n : Nat) (f g : Nat → Nat) : P.sum n (fun i => f i + g i) = P.sum n f + P.sum n g := by
  induction n with
  | zero => rfl
  | succ n ih => rw [P.sum_succ, P.sum_succ, P.sum_succ, ih]; omega

theorem P.sum_swap (n m : Nat) (f : Nat → Nat → Nat) : P.sum n (fun i => P.sum m (fun j => f i j)) = P.sum m (fun j => P.sum n (fun i => f i j)) := by
  induction n with
  | zero => exact (P.sum_zero fun _ _ => rfl).symm
  | succ n ih =>
    rw [P.sum_succ, ih, ← P.sum_add]
    exact P.sum_congr fun j _ => (P.sum_succ n _).symm

theorem P.sum_single {n : Nat} {f : Nat → Nat} {i : Nat} (hi : i < n) (h : ∀ j, j < n → j ≠ i → f j = 0) : P.sum n f = f i := by
  induction n with
  | zero => omega
  | succ n ih =>
    rw [P.sum_succ]
    by_cases e : i = n
    · subst e
      rw [P.sum_zero fun j hj => h j (by omega) (by omega), Nat.zero_add]
    · rw [ih (by omega) (fun j hj => h j (by omega)), h n (by omega) (by omega), Nat.add_zero]

/-- p goes through the numbers below n, each once. -/
structure Bij (n : Nat) (p : Nat → Nat) : Prop where
  lt : ∀ i, i < n → p i < n
  inj : ∀ i j, i < n → j < n → p i = p j → i = j

theorem P.sum_perm {n : Nat} {p : Nat → Nat} (h : Bij n p) (f : Nat → Nat) : P.sum n (fun i => f (p i)) = P.sum n f := by
  have h1 : P.sum n (fun i => f (p i)) = P.sum n (fun i => P.sum n (fun y => if p i = y then f y else 0)) :=
    P.sum_congr fun i hi => by
      rw [P.sum_single (h.lt i hi) (fun j _ hj => by rw [if_neg (fun e => hj e.symm)]), if_pos rfl]
  rw [h1, P.sum_swap]
  refine P.sum_congr fun y hy => ?_
  obtain ⟨i, hi, e⟩ := pigeon n p h.lt h.inj y hy
  rw [P.sum_single hi (fun j hj hne => by rw [if_neg]; intro e2; exact hne (h.inj j i hj hi (by rw [e2, e]))), if_pos e]

section
variable (pr : Nat → Nat → Nat → Bool)

theorem P.spK_sum (s a n : Nat) : (P.spK pr s a n).length = P.sum n (fun b => if a < b ∧ pr s a b = true then 1 else 0) := by
  induction n with
  | zero => rfl
  | succ n ih =>
    rw [P.sum_succ, ← ih]
    unfold P.spK
    rw [List.range_succ, List.filter_append, List.map_append, List.length_append]
    by_cases h : a < n ∧ pr s a n = true
    · rw [if_pos h]; simp [h.1, h.2]
    · rw [if_neg h]
      by_cases h1 : a < n
      · have h2 : pr s a n = false := by
          cases hp : pr s a n
          · rfl
          · exact absurd ⟨h1, hp⟩ h
        simp [h1, h2]
      · simp [h1]

theorem P.spA_sum (n s j : Nat) : (P.spA pr n s j).length = P.sum j (fun a => (P.spK pr s a n).length) := by
  induction j with
  | zero => rfl
  | succ j ih => rw [P.sum_succ, ← ih, P.spA_succ, List.length_append]

theorem P.spS_sum (n i : Nat) : (P.spS pr n i).length = P.sum i (fun s => (P.spA pr n s n).length) := by
  induction i with
  | zero => rfl
  | succ i ih => rw [P.sum_succ, ← ih, P.spS_succ, List.length_append]

/-- All pairs in both orders. -/
def P.both (n : Nat) : Nat := P.sum n fun s => P.sum n fun a => P.sum n fun b => if a ≠ b ∧ pr s a b = true then 1 else 0

theorem P.both_two (n : Nat) (hs : ∀ s a b, pr s a b = pr s b a) : P.both pr n = 2 * (P.spS pr n n).length := by
  have h : ∀ s, P.sum n (fun a => P.sum n fun b => if a ≠ b ∧ pr s a b = true then 1 else 0) = 2 * (P.spA pr n s n).length := fun s => by
    have h1 : ∀ a b, (if a ≠ b ∧ pr s a b = true then 1 else 0) = (if a < b ∧ pr s a b = true then 1 else 0) + (if b < a ∧ pr s b a = true then 1 else 0) := fun a b => by
      rw [hs s b a]
      by_cases hp : pr s a b = true
      · rcases Nat.lt_trichotomy a b with h | h | h
        · rw [if_pos ⟨by omega, hp⟩, if_pos ⟨h, hp⟩, if_neg (fun k => by omega)]
        · rw [if_neg (fun k => k.1 h), if_neg (fun k => by omega), if_neg (fun k => by omega)]
        · rw [if_pos ⟨by omega, hp⟩, if_neg (fun k => by omega), if_pos ⟨h, hp⟩]
      · rw [if_neg (fun k => hp k.2), if_neg (fun k => hp k.2), if_neg (fun k => hp k.2)]
    have h2 : P.sum n (fun a => P.sum n fun b => if a ≠ b ∧ pr s a b = true then 1 else 0) =
        P.sum n (fun a => P.sum n fun b => if a < b ∧ pr s a b = true then 1 else 0) + P.sum n (fun a => P.sum n fun b => if b < a ∧ pr s b a = true then 1 else 0) := by
      rw [← P.sum_add]
      refine P.sum_congr fun a _ => ?_
      rw [← P.sum_add]
      exact P.sum_congr fun b _ => h1 a b
    rw [h2, P.sum_swap n n (fun a b => if b < a ∧ pr s b a = true then 1 else 0), P.spA_sum]
    have h3 : P.sum n (fun a => (P.spK pr s a n).length) = P.sum n (fun a => P.sum n fun b => if a < b ∧ pr s a b = true then 1 else 0) := P.sum_congr fun a _ => P.spK_sum pr s a n
    rw [h3]
    omega
  unfold P.both
  rw [P.spS_sum]
  have e : ∀ m, P.sum m (fun s => P.sum n fun a => P.sum n fun b => if a ≠ b ∧ pr s a b = true then 1 else 0) = 2 * P.sum m (fun s => (P.spA pr n s n).length) := fun m => by
    induction m with
    | zero => rfl
    | succ m ih => rw [P.sum_succ, P.sum_succ, ih, h m]; omega
  exact e n
end

theorem P.ren_len {n : Nat} {p : Nat → Nat} (h : Bij n p) {pr qr : Nat → Nat → Nat → Bool} (hp : ∀ s a b, pr s a b = pr s b a) (hq : ∀ s a b, qr s a b = qr s b a)
    (he : ∀ s a b, s < n → a < n → b < n → qr (p s) (p a) (p b) = pr s a b) : (P.spS pr n n).length = (P.spS qr n n).length := by
  have h1 := P.both_two pr n hp
  have h2 := P.both_two qr n hq
  have h3 : P.both pr n = P.both qr n := by
    unfold P.both
    rw [← P.sum_perm h (fun s => P.sum n fun a => P.sum n fun b => if a ≠ b ∧ qr s a b = true then 1 else 0)]
    refine P.sum_congr fun s hs => ?_
    show _ = P.sum n fun a => P.sum n fun b => if a ≠ b ∧ qr (p s) a b = true then 1 else 0
    rw [← P.sum_perm h (fun a => P.sum n fun b => if a ≠ b ∧ qr (p s) a b = true then 1 else 0)]
    refine P.sum_congr fun a ha => ?_
    show _ = P.sum n fun b => if p a ≠ b ∧ qr (p s) (p a) b = true then 1 else 0
    rw [← P.sum_perm h (fun b => if p a ≠ b ∧ qr (p s) (p a) b = true then 1 else 0)]
    refine P.sum_congr fun b hb => ?_
    show _ = if p a ≠ p b ∧ qr (p s) (p a) (p b) = true then 1 else 0
    rw [he s a b hs ha hb]
    have : a ≠ b ↔ p a ≠ p b := ⟨fun k e => k (h.inj a b ha hb e), fun k e => k (by rw [e])⟩
    simp only [this]
  omega

/-- O is T under other names; 0 remains 0. -/
structure Ren (T O : List (List Int)) (p : Nat → Nat) : Prop where
  len : O.length = T.length
  bij : Bij T.length p
  zero : p 0 = 0
  tab : Tab O
  at' : ∀ s d, s < T.length → d < T.length → P.at O (p s) (p d) = p (P.at T s d)

theorem Bij.inv {n : Nat} {p : Nat → Nat} (h : Bij n p) : ∃ q : Nat → Nat, ∀ y, y < n → q y < n ∧ p (q y) = y := by
  have : ∀ y, ∃ i, y < n → i < n ∧ p i = y := fun y => by
    by_cases hy : y < n
    · obtain ⟨i, hi, e⟩ := pigeon n p h.lt h.inj y hy
      exact ⟨i, fun _ => ⟨hi, e⟩⟩
    · exact ⟨0, fun k => absurd k hy⟩
  obtain ⟨q, hq⟩ := Classical.axiomOfChoice this
  exact ⟨q, hq⟩

/-- The renamed table. -/
theorem ren_made {T : List (List Int)} (h : Tab T) {p : Nat → Nat} (hb : Bij T.length p) (h0 : p 0 = 0) :
    ∃ E : Nat → Nat → Nat, Ren T (P.tab T.length E) p ∧ ∀ s d, s < T.length → d < T.length → E (p s) (p d) = p (P.at T s d) := by
  obtain ⟨q, hq⟩ := hb.inv
  have hE : ∀ s d, s < T.length → d < T.length → p (P.at T (q (p s)) (q (p d))) = p (P.at T s d) := fun s d hs hd => by
    rw [hb.inj (q (p s)) s (hq _ (hb.lt s hs)).1 hs (hq _ (hb.lt s hs)).2, hb.inj (q (p d)) d (hq _ (hb.lt d hd)).1 hd (hq _ (hb.lt d hd)).2]
  refine ⟨fun r x => p (P.at T (q r) (q x)), ⟨P.tab_length _ _, hb, h0, ?_, ?_⟩, hE⟩
  · refine tab_made h.lo h.hi (fun s d hs hd => hb.lt _ (h.sq.at_lt (hq s hs).1 (hq d hd).1)) (fun s i j hs hi hj e => ?_) (fun d i j hd hi hj e => ?_)
    · have e2 := hb.inj _ _ (h.sq.at_lt (hq s hs).1 (hq i hi).1) (h.sq.at_lt (hq s hs).1 (hq j hj).1) e
      have e3 := h.row_inj (hq s hs).1 _ _ (hq i hi).1 (hq j hj).1 e2
      rw [← (hq i hi).2, ← (hq j hj).2, e3]
    · have e2 := hb.inj _ _ (h.sq.at_lt (hq i hi).1 (hq d hd).1) (h.sq.at_lt (hq j hj).1 (hq d hd).1) e
      have e3 := h.col_inj (hq d hd).1 _ _ (hq i hi).1 (hq j hj).1 e2
      rw [← (hq i hi).2, ← (hq j hj).2, e3]
  · intro s d hs hd
    rw [P.tab_at (hb.lt s hs) (hb.lt d hd), hE s d hs hd]

theorem Ren.spots {T O : List (List Int)} {p : Nat → Nat} (h : Ren T O p) (ht : Tab T) : (P.blind T).length = (P.blind O).length ∧ (P.twins T).length = (P.twins O).length := by
  have hc1 := check_of_tab ht
  have hc2 := check_of_tab h.tab
  have hlt : ∀ s d, s < T.length → d < T.length → P.at T s d < T.length := fun s d hs hd => ht.sq.at_lt hs hd
  unfold P.blind P.twins
  rw [if_neg (by simp [hc1]), if_neg (by simp [hc2]), if_neg (by simp [hc1]), if_neg (by simp [hc2]), h.len]
  constructor
  · refine P.ren_len h.bij (fun s a b => ?_) (fun s a b => ?_) (fun s a b hs ha hb => ?_)
    · unfold P.blindAt; rw [Bool.eq_iff_iff, beq_iff_eq, beq_iff_eq]; exact eq_comm
    · unfold P.blindAt; rw [Bool.eq_iff_iff, beq_iff_eq, beq_iff_eq]; exact eq_comm
    · unfold P.blindAt
      rw [h.at' s a hs ha, h.at' s b hs hb, h.at' _ b (hlt s a hs ha) hb, h.at' _ a (hlt s b hs hb) ha, Bool.eq_iff_iff, beq_iff_eq, beq_iff_eq]
      exact ⟨fun e => h.bij.inj _ _ (hlt _ _ (hlt s a hs ha) hb) (hlt _ _ (hlt s b hs hb) ha) e, fun e => by rw [e]⟩
  · refine P.ren_len h.bij (fun s a b => ?_) (fun s a b => ?_) (fun s a b hs ha hb => ?_)
    · unfold P.twinAt; rw [Bool.eq_iff_iff, beq_iff_eq, beq_iff_eq]; exact eq_comm
    · unfold P.twinAt; rw [Bool.eq_iff_iff, beq_iff_eq, beq_iff_eq]; exact eq_comm
    · unfold P.twinAt
      rw [h.at' s a hs ha, h.at' s b hs hb, h.at' _ a (hlt s a hs ha) ha, h.at' _ b (hlt s b hs hb) hb, Bool.eq_iff_iff, beq_iff_eq, beq_iff_eq]
      exact ⟨fun e => h.bij.inj _ _ (hlt _ _ (hlt s a hs ha) ha) (hlt _ _ (hlt s b hs hb) hb) e, fun e => by rw [e]⟩

/-- A list under other names. -/
def P.ren (p : Nat → Nat) (l : List Int) : List Int := l.map fun d => (p d.toNat : Int)

theorem Ren.dg {T O : List (List Int)} {p : Nat → Nat} (h : Ren T O p) {l : List Int} (hd : Dg T.length l) : Dg O.length (P.ren p l) := Dg.of_mem fun x hx => by
  unfold P.ren at hx
  obtain ⟨y, hy, rfl⟩ := List.mem_map.1 hx
  have h1 := hd.mem hy
  have := h.bij.lt y.toNat (by omega)
  rw [h.len]
  omega

theorem Ren.from {T O : List (List Int)} {p : Nat → Nat} (h : Ren T O p) (ht : Tab T) : ∀ (l : List Int) (s : Nat), s < T.length → Dg T.length l → P.from O (p s) (P.ren p l) = p (P.from T s l) := by
  intro l
  induction l with
  | nil => intro s _ _; rfl
  | cons x l ih =>
    intro s hs hd
    obtain ⟨h1, h2⟩ := hd.cons
    have hx : x.toNat < T.length := by omega
    show P.from O (P.at O (p s) ((p x.toNat : Int)).toNat) (P.ren p l) = p (P.from T (P.at T s x.toNat) l)
    rw [Int.toNat_natCast, h.at' s _ hs hx, ih _ (ht.sq.at_lt hs hx) h2]

theorem Ren.after {T O : List (List Int)} {p : Nat → Nat} (h : Ren T O p) (ht : Tab T) {l : List Int} (hd : Dg T.length l) : P.after O (P.ren p l) = p (P.after T l) := by
  have := h.from ht l 0 (by have := ht.lo; omega) hd
  rw [h.zero] at this
  exact this

theorem Ren.right {T O : List (List Int)} {p : Nat → Nat} (h : Ren T O p) (ht : Tab T) {l : List Int} (hd : Dg T.length l) (hl : l.length ≤ 12) : P.right T l = P.right O (P.ren p l) := by
  have h0 : 0 < T.length := by have := ht.lo; omega
  have hll : (P.ren p l).length = l.length := by simp [P.ren]
  have hs := ht.sq.after_lt h0 l hd
  unfold P.right
  by_cases h2 : (l.length : Int) < 2
  · have e1 : P.checkDigits T l 2 = 1 := by unfold P.checkDigits; rw [if_neg (by simp [check_of_tab ht]), if_pos h2]
    have e2 : P.checkDigits O (P.ren p l) 2 = 1 := by unfold P.checkDigits; rw [if_neg (by simp [check_of_tab h.tab]), if_pos (by rw [hll]; exact h2)]
    rw [e1, e2, if_pos (by decide), if_pos (by decide)]
  · rw [P.checks_ok ht hl (by omega) hd, P.checks_ok h.tab (by rw [hll]; exact hl) (by rw [hll]; omega) (h.dg hd), if_neg (show ¬ (0 : Int) ≠ 0 by decide), if_neg (show ¬ (0 : Int) ≠ 0 by decide), h.after ht hd]
    by_cases hz : P.after T l = 0
    · rw [if_neg (fun k => k hz), if_neg (fun k => k (by rw [hz, h.zero]))]
    · rw [if_pos hz, if_pos (fun e => hz (h.bij.inj _ 0 hs h0 (by rw [e, h.zero])))]

theorem Tab.state_ok {T : List (List Int)} (h : Tab T) {l : List Int} (hl : l.length ≤ 12) (hd : Dg T.length l) : P.state T l = (((P.after T l : Nat) : Int), 0) := by
  unfold P.state
  rw [if_neg (by rw [P.checks_ok h hl (by omega) hd]; simp)]

end Go.Proofs.Ytlpdlnefgjmgmaa
