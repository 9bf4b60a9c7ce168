/- Package tuscheref09: the walks of before and in; plain: the members of a set that is a number, and a list that is put into a sorted one. -/
import Derived.Test.YthnklabdjaiplaaDoorMNum
import Derived.Test.YthnklabdjaiplaaDoorMLeF
namespace Go.Proofs.YthnklabdjaiplaaDoor
open Go.RowKit

/-- Is a list smaller than another one? -/
def M.bef : List Int → List Int → Bool
  | [], [] => false
  | [], _ :: _ => true
  | _ :: _, [] => false
  | x :: l, y :: r => if x = y then M.bef l r else decide (x < y)
theorem M.bef_drop {a b : List Int} {k : Nat} (h1 : k < a.length) (h2 : k < b.length) : M.bef (a.drop k) (b.drop k) = if a.getD k 0 = b.getD k 0 then M.bef (a.drop (k + 1)) (b.drop (k + 1)) else decide (a.getD k 0 < b.getD k 0) := by
  rw [List.drop_eq_getElem_cons h1, List.drop_eq_getElem_cons h2]
  simp [M.bef, List.getD, h1, h2]
theorem M.bef_end {a b : List Int} (h : a = [] ∨ b = []) : M.bef a b = decide (a.length < b.length) := by
  rcases h with rfl | rfl
  · cases b <;> simp [M.bef]
  · cases a <;> simp [M.bef]
theorem M.bef_lex : ∀ x y : List Nat, M.bef (M.toI x) (M.toI y) = true ↔ M.lex x y
  | [], [] => by simp [M.toI, M.bef, M.lex]
  | [], _ :: _ => by simp [M.toI, M.bef, M.lex]
  | _ :: _, [] => by simp [M.toI, M.bef, M.lex]
  | x :: l, y :: r => by
    have ih := M.bef_lex l r
    unfold M.toI at ih ⊢
    simp only [List.map_cons, M.bef, M.lex]
    by_cases e : x = y
    · subst e
      rw [if_pos rfl, ih]
      simp
    · have e' : ¬ (x : Int) = (y : Int) := by omega
      rw [if_neg e', decide_eq_true_iff]
      constructor
      · intro h; exact .inl (by omega)
      · rintro (h | ⟨h, _⟩)
        · omega
        · exact absurd h e

set_option maxHeartbeats 1000000 in
theorem before_any (a b : Option Addr) (ca cb : Nat) (x y : List Int) (w : World) (hx9 : x.length ≤ maxLen) (_ : y.length ≤ maxLen) (hx : RdI w a x) (hy : RdI w b y) :
    Calls Tryd.prog 59 #[.slice a x.length ca, .slice b y.length cb] w fun e w' => e = .returned (.bool (M.bef x y)) ∧ ∃ n, w' = w.drewN n := by
  unfold maxLen at hx9
  have HX := hid hx
  have HY := hid hy
  clear hx hy
  obtain ⟨r, hr⟩ : ∃ r, M.bef x y = r := ⟨_, rfl⟩
  rw [hr]
  have HR := hid hr
  clear hr
  go_enter Tryd.func59, Tryd.ntmps59
  go_wp2
  go_loopw [5] (fun i wr => ∃ k : Nat, k ≤ x.length ∧ k ≤ y.length ∧ i = .int .i64 k ∧ M.bef (x.drop k) (y.drop k) = r ∧ ∃ q, wr = w.drewN q) (fun i _ => x.length - (intOf i).toNat)
  case atStart => exact ⟨0, Nat.zero_le _, Nat.zero_le _, rfl, HR.out, 0, rfl⟩
  case round =>
    obtain ⟨k, hk, hk2, rfl, hb, q, rfl⟩ := hrel
    have HB := hid hb
    clear hb
    by_cases h1 : k < x.length
    · have h1' : decide ((k : Int) < (x.length : Int)) = true := decide_eq_true (by omega)
      by_cases h2 : k < y.length
      · have h2' : decide ((k : Int) < (y.length : Int)) = true := decide_eq_true (by omega)
        obtain ⟨b1, o1, rfl, c1⟩ := M.num HX.out h1
        obtain ⟨b2, o2, rfl, c2⟩ := M.num HY.out h2
        have hx1 : (0 : Int) ≤ (k : Int) ∧ (k : Int) < (x.length : Int) := by omega
        have hx2 : (0 : Int) ≤ (k : Int) ∧ (k : Int) < (y.length : Int) := by omega
        have HD := hid (M.bef_drop h1 h2)
        generalize x.getD k 0 = u at *
        generalize y.getD k 0 = v at *
        by_cases e : u = v
        · have HN : Hid (M.bef (x.drop (k + 1)) (y.drop (k + 1)) = r) := hid (by
            have h := HD.out; rw [if_pos e, HB.out] at h; exact h.symm)
          subst e
          have hne : (u != u) = false := by simp
          go_wp2
          go_quiet (fail)
          go_wp2
          go_roundw
          case rel => exact ⟨k + 1, by omega, by omega, by go_num, HN.out, _, rfl⟩
          case measure => simp [intOf]; omega
        · have HN : Hid (decide (u < v) = r) := hid (by
            have h := HD.out; rw [if_neg e, HB.out] at h; exact h.symm)
          have hne : (u != v) = true := by simpa using e
          go_wp2
          go_quiet (fail)
          go_wp2
          go_quiet (fail)
          go_wp2
          go_ret
          exact ⟨ret_bool HN.out, _, by simp only [World.drewN_drewN]; rfl⟩
      · have h2' : decide ((k : Int) < (y.length : Int)) = false := decide_eq_false (by omega)
        have HN : Hid (decide (x.length < y.length) = r) := hid (by
          have h := HB.out
          rw [M.bef_end (.inr (List.drop_eq_nil_of_le (by omega)))] at h
          rw [← h]
          simp only [List.length_drop]
          rw [Bool.eq_iff_iff, decide_eq_true_iff, decide_eq_true_iff]
          omega)
        go_wp2
        go_ret
        exact ⟨ret_bool HN.out, _, rfl⟩
    · have h1' : decide ((k : Int) < (x.length : Int)) = false := decide_eq_false (by omega)
      have HN : Hid (decide (x.length < y.length) = r) := hid (by
        have h := HB.out
        rw [M.bef_end (.inl (List.drop_eq_nil_of_le (by omega)))] at h
        rw [← h]
        simp only [List.length_drop]
        rw [Bool.eq_iff_iff, decide_eq_true_iff, decide_eq_true_iff]
        omega)
      go_wp2
      go_ret
      exact ⟨ret_bool HN.out, _, rfl⟩

set_option maxHeartbeats 1000000 in
theorem in_any (a : Option Addr) (ca : Nat) (x : List Int) (v : Int) (w : World) (hx9 : x.length ≤ maxLen) (hx : RdI w a x) :
    Calls Tryd.prog 58 #[.slice a x.length ca, .int .i64 v] w fun e w' => e = .returned (.bool (decide (v ∈ x))) ∧ w' = w := by
  unfold maxLen at hx9
  have HX := hid hx
  clear hx
  obtain ⟨r, hr⟩ : ∃ r, decide (v ∈ x) = r := ⟨_, rfl⟩
  rw [hr]
  have HR := hid hr
  clear hr
  go_enter Tryd.func58, Tryd.ntmps58
  go_wp2
  go_loop [5] (fun i => ∃ k : Nat, k ≤ x.length ∧ i = .int .i64 k ∧ ∀ j, j < k → x.getD j 0 ≠ v) (fun i => x.length - (intOf i).toNat)
  case atStart => exact ⟨0, Nat.zero_le _, rfl, fun j h => absurd h (Nat.not_lt_zero _)⟩
  case round =>
    obtain ⟨k, hk, rfl, ho⟩ := hrel
    have HO := hid ho
    clear ho
    by_cases h1 : k < x.length
    · obtain ⟨b1, o1, rfl, c1⟩ := M.num HX.out h1
      have hx1 : (0 : Int) ≤ (k : Int) ∧ (k : Int) < (x.length : Int) := by omega
      have HU : Hid (∃ u, x.getD k 0 = u) := hid ⟨_, rfl⟩
      obtain ⟨u, hu⟩ := HU.out
      have HUE := hid hu
      rw [hu] at c1
      clear hu HU
      by_cases e : u = v
      · have HN : Hid (r = true) := hid (by
          rw [← HR.out, decide_eq_true_iff, ← e, ← HUE.out, List.getD_eq_getElem?_getD, List.getElem?_eq_getElem h1]
          exact List.getElem_mem _)
        have hne : (u == v) = true := by simpa using e
        go_wp2
        go_ret
        exact ⟨ret_bool HN.out.symm, rfl⟩
      · have hne : (u == v) = false := by simpa using e
        go_wp2
        go_round
        case rel => exact ⟨k + 1, by omega, by go_num, fun j hj => by
          by_cases ej : j = k
          · subst ej; rw [HUE.out]; exact e
          · exact HO.out j (by omega)⟩
        case measure => simp [intOf]; omega
    · have hke : k = x.length := by omega
      subst hke
      have HN : Hid (r = false) := hid (by
        rw [← HR.out, decide_eq_false_iff_not]
        intro hm
        obtain ⟨j, hj, he⟩ := List.getElem_of_mem hm
        refine HO.out j hj ?_
        rw [List.getD_eq_getElem?_getD, List.getElem?_eq_getElem hj]
        exact he)
      go_wp2
      go_ret
      exact ⟨ret_bool HN.out.symm, rfl⟩

/-- The members of a set below n. -/
def M.bits (s : Nat) : Nat → List Nat
  | 0 => []
  | n + 1 => if s.testBit n then M.bits s n ++ [n] else M.bits s n
theorem M.mem_bits {s n i : Nat} : i ∈ M.bits s n ↔ i < n ∧ s.testBit i = true := by
  induction n with
  | zero => simp [M.bits]
  | succ n ih =>
    unfold M.bits
    by_cases h : s.testBit n = true
    · rw [if_pos h, List.mem_append, ih, List.mem_singleton]
      constructor
      · rintro (⟨h1, h2⟩ | rfl)
        · exact ⟨by omega, h2⟩
        · exact ⟨by omega, h⟩
      · rintro ⟨h1, h2⟩
        by_cases e : i = n
        · exact .inr e
        · exact .inl ⟨by omega, h2⟩
    · rw [if_neg h, ih]
      constructor
      · rintro ⟨h1, h2⟩; exact ⟨by omega, h2⟩
      · rintro ⟨h1, h2⟩
        refine ⟨?_, h2⟩
        by_cases e : i = n
        · subst e; exact absurd h2 h
        · omega
theorem M.bits_len (s n : Nat) : (M.bits s n).length ≤ n := by
  induction n with
  | zero => simp [M.bits]
  | succ n ih =>
    unfold M.bits
    split
    · simp; omega
    · omega
theorem M.asc_snoc {a b : Nat} : ∀ {l : List Nat}, M.asc a b l → ∀ n, (∀ i ∈ l, i < n) → a ≤ n → n < b → M.asc a b (l ++ [n])
  | [], _, n, _, h1, h2 => ⟨h1, h2, trivial⟩
  | x :: l, h, n, hl, _, h2 => ⟨h.1, h.2.1, M.asc_snoc h.2.2 n (fun i hi => hl i (by simp [hi])) (by have := hl x (by simp); omega) h2⟩
theorem M.asc_up {a b b' : Nat} : ∀ {l : List Nat}, M.asc a b l → b ≤ b' → M.asc a b' l
  | [], _, _ => trivial
  | _ :: _, h, hb => ⟨h.1, by have := h.2.1; omega, M.asc_up h.2.2 hb⟩
theorem M.bits_asc (s n : Nat) : M.asc 0 n (M.bits s n) := by
  induction n with
  | zero => exact trivial
  | succ n ih =>
    unfold M.bits
    split
    · exact M.asc_snoc (M.asc_up ih (by omega)) n (fun i hi => (M.mem_bits.1 hi).1) (Nat.zero_le _) (by omega)
    · exact M.asc_up ih (by omega)
theorem M.asc_ext {a b : Nat} : ∀ {x y : List Nat}, M.asc a b x → M.asc a b y → (∀ i, i ∈ x ↔ i ∈ y) → x = y := by
  intro x
  induction x generalizing a with
  | nil =>
    intro y _ _ h
    cases y with
    | nil => rfl
    | cons z y => have := (h z).2 (by simp); simp at this
  | cons u x ih =>
    intro y hx hy h
    cases y with
    | nil => have := (h u).1 (by simp); simp at this
    | cons z y =>
      have low : ∀ {c d : Nat} {l : List Nat}, M.asc c d l → ∀ i ∈ l, c ≤ i := by
        intro c d l
        induction l generalizing c with
        | nil => intro _ i hi; cases hi
        | cons q l ihl =>
          intro hq i hi
          rcases List.mem_cons.1 hi with rfl | hi
          · exact hq.1
          · have e0 := hq.1; have := ihl hq.2.2 i hi; omega
      have h1 : u = z := by
        rcases List.mem_cons.1 ((h u).1 (by simp)) with e | e
        · exact e
        · rcases List.mem_cons.1 ((h z).2 (by simp)) with e2 | e2
          · exact e2.symm
          · have q1 := low hy.2.2 u e
            have q2 := low hx.2.2 z e2
            omega
      subst h1
      rw [ih hx.2.2 hy.2.2 fun i => ?_]
      have := h i
      simp only [List.mem_cons] at this
      constructor
      · intro hi
        rcases this.1 (.inr hi) with e | e
        · subst e; have := low hx.2.2 i hi; omega
        · exact e
      · intro hi
        rcases this.2 (.inr hi) with e | e
        · subst e; have := low hy.2.2 i hi; omega
        · exact e
theorem M.bits_inj {s t n : Nat} (hs : s < 2 ^ n) (ht : t < 2 ^ n) (h : M.bits s n = M.bits t n) : s = t := by
  apply Nat.eq_of_testBit_eq
  intro i
  by_cases hi : i < n
  · have h1 := M.mem_bits (s := s) (n := n) (i := i)
    have h2 := M.mem_bits (s := t) (n := n) (i := i)
    rw [h] at h1
    rw [Bool.eq_iff_iff]
    constructor
    · intro e; exact (h2.1 (h1.2 ⟨hi, e⟩)).2
    · intro e; exact (h1.1 (h2.2 ⟨hi, e⟩)).2
  · rw [Nat.testBit_lt_two_pow (Nat.lt_of_lt_of_le hs (Nat.pow_le_pow_right (by omega) (by omega))), Nat.testBit_lt_two_pow (Nat.lt_of_lt_of_le ht (Nat.pow_le_pow_right (by omega) (by omega)))]
theorem M.bits_zero (n : Nat) : M.bits 0 n = [] := by
  induction n with
  | zero => rfl
  | succ n ih => unfold M.bits; rw [if_neg (by simp), ih]
theorem M.bits_pos {s n : Nat} (h0 : 1 ≤ s) (hs : s < 2 ^ n) : 1 ≤ (M.bits s n).length := by
  cases h : M.bits s n with
  | nil =>
    have := M.bits_inj hs (Nat.two_pow_pos n) (by rw [h, M.bits_zero])
    omega
  | cons x l => simp
/-- Each ascending list is a set. -/
theorem M.bits_of {n : Nat} : ∀ {l : List Nat}, M.asc 0 n l → ∃ s, s < 2 ^ n ∧ M.bits s n = l := by
  induction n with
  | zero =>
    intro l h
    cases l with
    | nil => exact ⟨0, by simp, rfl⟩
    | cons x l => have := h.2.1; omega
  | succ n ih =>
    intro l h
    have key : ∀ (a : Nat) (l : List Nat), M.asc a (n + 1) l → M.asc a n l ∨ ∃ r, l = r ++ [n] ∧ M.asc a n r := by
      intro a l
      induction l generalizing a with
      | nil => intro _; exact .inl trivial
      | cons x l ihl =>
        intro h
        rcases ihl _ h.2.2 with h1 | ⟨r, rfl, h1⟩
        · by_cases e : x = n
          · subst e
            cases l with
            | nil => exact .inr ⟨[], rfl, trivial⟩
            | cons y l => have e1 := h1.1; have e2 := h1.2.1; omega
          · exact .inl ⟨h.1, by have := h.2.1; omega, h1⟩
        · refine .inr ⟨x :: r, rfl, h.1, ?_, h1⟩
          cases r with
          | nil => have := h.2.2.1; omega
          | cons y r => have e1 := h1.1; have e2 := h1.2.1; omega
    have hp : 2 ^ (n + 1) = 2 * 2 ^ n := by rw [Nat.pow_succ]; omega
    rcases key 0 l h with h1 | ⟨r, rfl, h1⟩
    · obtain ⟨s, hs, he⟩ := ih h1
      refine ⟨s, by omega, ?_⟩
      unfold M.bits
      rw [if_neg (by rw [Nat.testBit_lt_two_pow hs]; simp), he]
    · obtain ⟨s, hs, he⟩ := ih h1
      refine ⟨2 ^ n + s, by omega, ?_⟩
      have hb : ∀ i, i < n → (2 ^ n + s).testBit i = s.testBit i := fun i hi => Nat.testBit_two_pow_add_gt hi s
      have he2 : ∀ k, k ≤ n → M.bits (2 ^ n + s) k = M.bits s k := by
        intro k
        induction k with
        | zero => intro _; rfl
        | succ k ihk => intro hk; unfold M.bits; rw [hb k (by omega), ihk (by omega)]
      unfold M.bits
      rw [if_pos (by rw [Nat.testBit_two_pow_add_eq]; rw [Nat.testBit_lt_two_pow hs]; rfl), he2 n (Nat.le_refl _), he]

/-- A list is put into a sorted one. -/
theorem M.put_sorted {ys : List (List Nat)} {x : List Nat} {k : Nat} (h : ys.Pairwise M.lex) (h1 : ∀ y ∈ ys.drop k, M.lex x y) (h2 : ∀ y ∈ ys.take k, M.lex y x) : (ys.take k ++ x :: ys.drop k).Pairwise M.lex := by
  have h0 := h
  rw [← List.take_append_drop k ys, List.pairwise_append] at h
  rw [List.pairwise_append]
  refine ⟨h.1, List.pairwise_cons.2 ⟨h1, h.2.1⟩, fun a ha b hb => ?_⟩
  rcases List.mem_cons.1 hb with rfl | hb
  · exact h2 a ha
  · exact h.2.2 a ha b hb
theorem M.take_less {ys : List (List Nat)} {x : List Nat} {k : Nat} (h : ys.Pairwise M.lex) (hk : k ≤ ys.length) (hp : 0 < k → M.lex (ys.getD (k - 1) []) x) : ∀ y ∈ ys.take k, M.lex y x := by
  intro y hy
  obtain ⟨i, hi, rfl⟩ := List.getElem_of_mem hy
  rw [List.length_take] at hi
  have hik : i < k ∧ i < ys.length := by omega
  rw [List.getElem_take]
  have h3 := hp (by omega)
  have hkl : k - 1 < ys.length := by omega
  rw [List.getD_eq_getElem?_getD, List.getElem?_eq_getElem hkl] at h3
  simp only [Option.getD_some] at h3
  by_cases e : i = k - 1
  · subst e; exact h3
  · exact M.lex_trans (List.pairwise_iff_getElem.1 h i (k - 1) hik.2 hkl (by omega)) h3

/-- All coalitions of the sets below s, in ascending order. -/
structure M.Cs (N : Nat) (sz : Int) (s : Nat) (ys : List (List Nat)) : Prop where
  srt : ys.Pairwise M.lex
  mem : ∀ l, l ∈ ys ↔ ∃ t, 1 ≤ t ∧ t < s ∧ l = M.bits t N ∧ (l.length : Int) ≤ sz
theorem M.Cs.skip {N s : Nat} {sz : Int} {ys : List (List Nat)} (h : M.Cs N sz s ys) (hl : ¬ ((M.bits s N).length : Int) ≤ sz) : M.Cs N sz (s + 1) ys := by
  refine ⟨h.srt, fun l => ?_⟩
  rw [h.mem]
  constructor
  · rintro ⟨t, h1, h2, h3, h4⟩; exact ⟨t, h1, by omega, h3, h4⟩
  · rintro ⟨t, h1, h2, h3, h4⟩
    by_cases e : t = s
    · subst e; subst h3; exact absurd h4 hl
    · exact ⟨t, h1, by omega, h3, h4⟩
theorem M.Cs.put {N s k : Nat} {sz : Int} {ys : List (List Nat)} (h : M.Cs N sz s ys) (h0 : 1 ≤ s) (hl : ((M.bits s N).length : Int) ≤ sz) (h1 : ∀ y ∈ ys.drop k, M.lex (M.bits s N) y) (h2 : ∀ y ∈ ys.take k, M.lex y (M.bits s N)) : M.Cs N sz (s + 1) (ys.take k ++ M.bits s N :: ys.drop k) := by
  refine ⟨M.put_sorted h.srt h1 h2, fun l => ?_⟩
  have e : l ∈ ys.take k ++ M.bits s N :: ys.drop k ↔ l = M.bits s N ∨ l ∈ ys := by
    rw [List.mem_append, List.mem_cons]
    conv => rhs; rw [← List.take_append_drop k ys, List.mem_append]
    constructor
    · rintro (a | a | a)
      · exact .inr (.inl a)
      · exact .inl a
      · exact .inr (.inr a)
    · rintro (a | a | a)
      · exact .inr (.inl a)
      · exact .inl a
      · exact .inr (.inr a)
  rw [e, h.mem]
  constructor
  · rintro (rfl | ⟨t, h1, h2, h3, h4⟩)
    · exact ⟨s, h0, by omega, rfl, hl⟩
    · exact ⟨t, h1, by omega, h3, h4⟩
  · rintro ⟨t, h1, h2, h3, h4⟩
    by_cases e : t = s
    · subst e; exact .inl h3
    · exact .inr ⟨t, h1, by omega, h3, h4⟩
theorem M.Cs.not {N s : Nat} {sz : Int} {ys : List (List Nat)} (h : M.Cs N sz s ys) (hs : s < 2 ^ N) : M.bits s N ∉ ys := by
  rw [h.mem]
  rintro ⟨t, h1, h2, h3, _⟩
  have := M.bits_inj hs (by omega) h3
  omega
theorem M.Cs.all {N : Nat} {sz : Int} {ys : List (List Nat)} (h : M.Cs N sz (2 ^ N) ys) : ys = M.lxs N sz.toNat := by
  refine M.sorted_ext h.srt (M.lxs_sorted N sz.toNat) fun l => ?_
  rw [h.mem, M.mem_lxs, M.mem_all]
  constructor
  · rintro ⟨t, h1, h2, rfl, h4⟩
    have h5 := M.bits_pos h1 h2
    exact ⟨by omega, by omega, M.bits_asc t N⟩
  · rintro ⟨h1, h2, h3⟩
    obtain ⟨t, ht, rfl⟩ := M.bits_of h3
    refine ⟨t, ?_, ht, rfl, by omega⟩
    by_cases e : t = 0
    · subst e; rw [M.bits_zero] at h1; simp at h1
    · omega
end Go.Proofs.YthnklabdjaiplaaDoor
