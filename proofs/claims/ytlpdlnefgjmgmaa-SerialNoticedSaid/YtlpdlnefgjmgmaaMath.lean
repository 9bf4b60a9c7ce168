/- What rows and columns without a number twice give: each row and each column is an arrangement of 0 to n - 1; so each wrong code has one fix for each index. Plain mathematics. -/
import Derived.Test.YtlpdlnefgjmgmaaChk
namespace Go.Proofs.Ytlpdlnefgjmgmaa

theorem pigeon : ∀ (n : Nat) (f : Nat → Nat), (∀ i, i < n → f i < n) → (∀ i j, i < n → j < n → f i = f j → i = j) → ∀ y, y < n → ∃ i, i < n ∧ f i = y := by
  intro n
  induction n with
  | zero => intro f _ _ y hy; omega
  | succ n ih =>
    intro f hf hi y hy
    have hs := ih (fun i => if f i = n then f n else f i)
      (fun i h => by
        have h1 := hf i (by omega)
        have h2 := hf n (by omega)
        show (if f i = n then f n else f i) < n
        split
        · rename_i e
          have : f n ≠ n := fun e2 => by have := hi i n (by omega) (by omega) (by omega); omega
          omega
        · omega)
      (fun i j hi' hj' h => by
        have h : (if f i = n then f n else f i) = (if f j = n then f n else f j) := h
        split at h
        · rename_i e
          split at h
          · rename_i e2
            exact hi i j (by omega) (by omega) (by omega)
          · have := hi n j (by omega) (by omega) h
            omega
        · split at h
          · have := hi i n (by omega) (by omega) h
            omega
          · exact hi i j (by omega) (by omega) h)
    by_cases hm : y = f n
    · exact ⟨n, by omega, hm.symm⟩
    · by_cases hn : y = n
      · have hmn : f n < n := by have := hf n (by omega); omega
        obtain ⟨i, h1, h2⟩ := hs (f n) hmn
        have h2 : (if f i = n then f n else f i) = f n := h2
        split at h2
        · rename_i e; exact ⟨i, by omega, by omega⟩
        · have := hi i n (by omega) (by omega) h2
          omega
      · obtain ⟨i, h1, h2⟩ := hs y (by omega)
        have h2 : (if f i = n then f n else f i) = y := h2
        split at h2
        · omega
        · exact ⟨i, by omega, h2⟩

theorem Tab.good {T : List (List Int)} (h : Tab T) {i : Nat} (hi : i < T.length) {k : Nat} (hk : k < T.length) : P.bad T i k = false := by
  have := h.no
  unfold P.repeats at this
  rw [List.any_eq_false] at this
  have := this i (List.mem_range.2 hi)
  rw [Bool.not_eq_true, List.any_eq_false] at this
  have := this k (List.mem_range.2 hk)
  simpa using this

theorem Tab.ne {T : List (List Int)} (h : Tab T) {i k j : Nat} (hi : i < T.length) (hk : k < T.length) (hj : j < k) : P.at T i j ≠ P.at T i k ∧ P.at T j i ≠ P.at T k i := by
  have := h.good hi hk
  unfold P.bad at this
  rw [List.any_eq_false] at this
  have := this j (List.mem_range.2 hj)
  simpa [not_or] using this

theorem Tab.row_inj {T : List (List Int)} (h : Tab T) {s : Nat} (hs : s < T.length) (i j : Nat) (hi : i < T.length) (hj : j < T.length) (e : P.at T s i = P.at T s j) : i = j := by
  rcases Nat.lt_trichotomy i j with h1 | h1 | h1
  · exact absurd e (h.ne hs hj h1).1
  · exact h1
  · exact absurd e.symm (h.ne hs hi h1).1

theorem Tab.col_inj {T : List (List Int)} (h : Tab T) {d : Nat} (hd : d < T.length) (i j : Nat) (hi : i < T.length) (hj : j < T.length) (e : P.at T i d = P.at T j d) : i = j := by
  rcases Nat.lt_trichotomy i j with h1 | h1 | h1
  · exact absurd e (h.ne hd hj h1).2
  · exact h1
  · exact absurd e.symm (h.ne hd hi h1).2

/-- From a state, digits lead to a state. -/
def P.from (T : List (List Int)) (s : Nat) (l : List Int) : Nat := l.foldl (fun s d => P.at T s d.toNat) s

theorem P.after_append (T : List (List Int)) (l m : List Int) : P.after T (l ++ m) = P.from T (P.after T l) m := by
  unfold P.after P.from; rw [List.foldl_append]

theorem Dg.cons {n : Nat} {x : Int} {l : List Int} (h : Dg n (x :: l)) : (0 ≤ x ∧ x < n) ∧ Dg n l :=
  ⟨h 0 (by simp), fun k hk => h (k + 1) (by simp; omega)⟩

theorem Dg.mem {n : Nat} {l : List Int} (h : Dg n l) {x : Int} (hx : x ∈ l) : 0 ≤ x ∧ x < n := by
  obtain ⟨k, hk, rfl⟩ := List.getElem_of_mem hx
  exact h k hk

theorem Dg.of_mem {n : Nat} {l : List Int} (h : ∀ x ∈ l, 0 ≤ x ∧ x < n) : Dg n l := fun _ hk => h _ (List.getElem_mem hk)

theorem Tab.from_lt {T : List (List Int)} (h : Tab T) : ∀ (l : List Int) (s : Nat), s < T.length → Dg T.length l → P.from T s l < T.length := by
  intro l
  induction l with
  | nil => intro s hs _; exact hs
  | cons x l ih =>
    intro s hs hd
    have := hd.cons
    exact ih _ (h.sq.at_lt hs (by omega)) this.2

theorem Tab.from_inj {T : List (List Int)} (h : Tab T) : ∀ (l : List Int) (s t : Nat), s < T.length → t < T.length → Dg T.length l → P.from T s l = P.from T t l → s = t := by
  intro l
  induction l with
  | nil => intro s t _ _ _ e; exact e
  | cons x l ih =>
    intro s t hs ht hd e
    have := hd.cons
    have e2 := ih _ _ (h.sq.at_lt hs (by omega)) (h.sq.at_lt ht (by omega)) this.2 e
    exact h.col_inj (by omega) s t hs ht e2

theorem Dg.set {n : Nat} {l : List Int} (h : Dg n l) (i : Nat) {d : Nat} (hd : d < n) : Dg n (l.set i (d : Int)) := fun k hk => by
  rw [List.getElem_set]
  split
  · omega
  · exact h k (by simpa using hk)

theorem Dg.drop {n : Nat} {l : List Int} (h : Dg n l) (k : Nat) : Dg n (l.drop k) := Dg.of_mem fun _ hx => h.mem (List.mem_of_mem_drop hx)

theorem after_set (T : List (List Int)) (l : List Int) (i : Nat) (hi : i < l.length) (d : Nat) :
    P.after T (l.set i (d : Int)) = P.from T (P.at T (P.after T (l.take i)) d) (l.drop (i + 1)) := by
  rw [List.set_eq_take_append_cons_drop, if_pos hi, P.after_append]
  rfl

/-- Each index has a digit with which the code is right. -/
theorem Tab.fix {T : List (List Int)} (h : Tab T) (l : List Int) (hd : Dg T.length l) (i : Nat) (hi : i < l.length) : ∃ d, d < T.length ∧ P.after T (l.set i (d : Int)) = 0 := by
  have h0 : 0 < T.length := by have := h.lo; omega
  have hs := h.sq.after_lt h0 _ (hd.take i)
  refine pigeon T.length (fun d => P.after T (l.set i (d : Int))) (fun d hdn => h.sq.after_lt h0 _ (hd.set i hdn)) (fun d e hdn hen he => ?_) 0 h0
  have he : P.after T (l.set i (d : Int)) = P.after T (l.set i (e : Int)) := he
  rw [after_set T l i hi, after_set T l i hi] at he
  have := h.from_inj _ _ _ (h.sq.at_lt hs hdn) (h.sq.at_lt hs hen) (hd.drop _) he
  exact h.row_inj hs d e hdn hen this

/-- .. and only one. -/
theorem Tab.fix_one {T : List (List Int)} (h : Tab T) (l : List Int) (hd : Dg T.length l) (i : Nat) (hi : i < l.length) {d e : Nat} (hdn : d < T.length) (hen : e < T.length)
    (he : P.after T (l.set i (d : Int)) = P.after T (l.set i (e : Int))) : d = e := by
  have h0 : 0 < T.length := by have := h.lo; omega
  have hs := h.sq.after_lt h0 _ (hd.take i)
  rw [after_set T l i hi, after_set T l i hi] at he
  exact h.row_inj hs d e hdn hen (h.from_inj _ _ _ (h.sq.at_lt hs hdn) (h.sq.at_lt hs hen) (hd.drop _) he)

/-- The digit with which the code is right. -/
def P.fixAt (T : List (List Int)) (l : List Int) (i : Nat) : Nat := ((List.range T.length).find? fun d : Nat => P.after T (l.set i (d : Int)) == 0).getD 0

theorem Tab.fixAt {T : List (List Int)} (h : Tab T) (l : List Int) (hd : Dg T.length l) (i : Nat) (hi : i < l.length) :
    P.fixAt T l i < T.length ∧ P.after T (l.set i (P.fixAt T l i : Int)) = 0 ∧ ∀ d, d < P.fixAt T l i → P.after T (l.set i (d : Int)) ≠ 0 := by
  obtain ⟨d0, h1, h2⟩ := h.fix l hd i hi
  unfold P.fixAt
  cases hf : (List.range T.length).find? fun d : Nat => P.after T (l.set i (d : Int)) == 0 with
  | none =>
    have := List.find?_eq_none.1 hf d0 (List.mem_range.2 h1)
    simp [h2] at this
  | some d =>
    have hd1 := List.mem_range.1 (List.mem_of_find?_eq_some hf)
    have hd2 := List.find?_some hf
    simp only [beq_iff_eq] at hd2
    refine ⟨hd1, hd2, fun e he hz => ?_⟩
    have := h.fix_one l hd i hi hd1 (show e < T.length by simp at he; omega) (by rw [hd2, hz])
    simp at he; omega

/-- The check digit is where 0 is in the row. -/
theorem Tab.zero {T : List (List Int)} (h : Tab T) {s : Nat} (hs : s < T.length) : ∃ d, d < T.length ∧ P.at T s d = 0 :=
  pigeon T.length (fun d => P.at T s d) (fun _ hd => h.sq.at_lt hs hd) (fun i j hi hj e => h.row_inj hs i j hi hj e) 0 (by have := h.lo; omega)

end Go.Proofs.Ytlpdlnefgjmgmaa
