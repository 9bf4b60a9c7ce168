/- A table that is made empty, and filled number by number: what holds at the heads of the loops. -/
import Derived.Test.YtlpdlnefgjmgmaaRen
import Derived.Test.YtlpdlnefgjmgmaaLine
namespace Go.Proofs.Ytlpdlnefgjmgmaa
open Go.RowKit

structure RT (w wr : World) (B N n s : Nat) : Prop where
  below : Below B w wr
  size : wr.heap.size = N + 1 + s
  top : wr.rowIs N 35 n (fun j => if j < s then .slice (some ⟨N + 1 + j, 0, none⟩) n n else .slice none 0 0)
  done : ∀ j, j < s → wr.rowIs (N + 1 + j) 3 n (fun _ => .int .i64 0)

theorem rt_start {w w1 : World} {B n : Nat} (hb : Below B w w1) (hB : B ≤ w1.heap.size) : RT w (w1.alloc (.cells (madeCells #[.slice none 0 0] n) 35)) B w1.heap.size n 0 :=
  ⟨hb.alloc hB _, by simp, (World.rowIs_made w1 _ n 35).congr (fun j _ => by simp), fun j hj => absurd hj (Nat.not_lt_zero _)⟩

theorem rt_step {w wr : World} {B N n s : Nat} (h : RT w wr B N n s) (hB : B ≤ N) :
    RT w ((wr.alloc (.cells (madeCells #[.int .i64 0] n) 3)).setCell ⟨N, s, none⟩ (.slice (some ⟨wr.heap.size, 0, none⟩) n n)) B N n (s + 1) := by
  have hnew := World.rowIs_made wr (.int .i64 0) n 3
  rw [h.size] at hnew ⊢
  refine ⟨(h.below.alloc (by rw [h.size]; omega) _).setCell hB _, by simp [h.size]; omega, ((h.top.alloc _).set s _).congr (fun j _ => ?_), fun j hj => ?_⟩
  · by_cases e : j = s
    · subst e; simp
    · rw [if_neg e]
      by_cases hlt : j < s
      · rw [if_pos hlt, if_pos (by omega)]
      · rw [if_neg hlt, if_neg (by omega)]
  · by_cases e : j = s
    · subst e
      exact hnew.setOther (by show N + 1 + j ≠ N; omega) _
    · exact ((h.done j (by omega)).alloc _).setOther (by show N + 1 + j ≠ N; omega) _

/-- The table's numbers. -/
structure FV (w wr : World) (B N n : Nat) (V : Nat → Nat → Nat) : Prop where
  below : Below B w wr
  top : wr.rowIs N 35 n (fun j => .slice (some ⟨N + 1 + j, 0, none⟩) n n)
  row : ∀ j, j < n → wr.rowIs (N + 1 + j) 3 n (fun d => .int .i64 (V j d : Nat))

theorem fv_start {w wr : World} {B N n : Nat} (h : RT w wr B N n n) : FV w wr B N n (fun _ _ => 0) :=
  ⟨h.below, h.top.congr (fun j hj => by rw [if_pos hj]), fun j hj => (h.done j hj).congr (fun _ _ => rfl)⟩

theorem fv_step {w wr wj : World} {B N n r q v : Nat} {V : Nat → Nat → Nat} (h : FV w wr B N n V) (hB : B ≤ N) (hs : Same wj (wr.setCell ⟨N + 1 + r, q, none⟩ (.int .i64 (v : Nat)))) :
    FV w wj B N n (fun a b => if a = r ∧ b = q then v else V a b) := by
  refine ⟨below_same (h.below.setCell (by show B ≤ N + 1 + r; omega) _) hs, (h.top.setOther (a := ⟨N + 1 + r, q, none⟩) (by show N ≠ N + 1 + r; omega) (.int .i64 (v : Nat))).of_block (by rw [hs.1]), fun a ha => ?_⟩
  by_cases e : a = r
  · subst e
    refine (((h.row a ha).set q (.int .i64 (v : Nat))).congr (fun i _ => ?_)).of_block (by rw [hs.1])
    by_cases e2 : i = q
    · subst e2; simp
    · rw [if_neg e2, if_neg (fun k => e2 k.2)]
  · refine (((h.row a ha).setOther (a := ⟨N + 1 + r, q, none⟩) (by show N + 1 + a ≠ N + 1 + r; omega) (.int .i64 (v : Nat))).congr (fun i _ => ?_)).of_block (by rw [hs.1])
    rw [if_neg (fun k => e k.1)]

theorem fv_rd {w wr : World} {B N n : Nat} {V E : Nat → Nat → Nat} (h : FV w wr B N n V) (he : ∀ r q, r < n → q < n → V r q = E r q) : RdM wr (some ⟨N, 0, none⟩) (P.tab n E) := fun s hs => by
  have hs' : s < n := by simpa [P.tab] using hs
  have e : (P.tab n E)[s] = P.tabRow n E s := P.tab_row hs
  have el : (P.tabRow n E s).length = n := P.tabRow_length _ _ _
  refine ⟨N, 0, some ⟨N + 1 + s, 0, none⟩, n, rfl, ?_, ?_⟩
  · rw [Nat.zero_add, h.top.cell hs', e, el]
  · rw [e]
    intro d hd
    have hd' : d < n := by omega
    refine ⟨N + 1 + s, 0, rfl, ?_⟩
    rw [Nat.zero_add, (h.row s hs').cell hd', he s d hs' hd']
    simp [P.tabRow]

/-- How far the table is filled. -/
def Filled (n : Nat) (p : Nat → Nat) (M V : Nat → Nat → Nat) (s d : Nat) : Prop := ∀ a b, a < n → b < n → (a < s ∨ a = s ∧ b < d) → V (p a) (p b) = p (M a b)

theorem filled_step {n : Nat} {p : Nat → Nat} {M V : Nat → Nat → Nat} {s d : Nat} (hp : Bij n p) (hs : s < n) (hd : d < n) (h : Filled n p M V s d) :
    Filled n p M (fun a b => if a = p s ∧ b = p d then p (M s d) else V a b) s (d + 1) := fun a b ha hb hc => by
  by_cases e : a = s ∧ b = d
  · obtain ⟨rfl, rfl⟩ := e
    simp
  · have hne : ¬ (p a = p s ∧ p b = p d) := fun k => e ⟨hp.inj _ _ ha hs k.1, hp.inj _ _ hb hd k.2⟩
    simp only [if_neg hne]
    exact h a b ha hb (by omega)

theorem filled_row {n : Nat} {p : Nat → Nat} {M V : Nat → Nat → Nat} {s : Nat} (h : Filled n p M V s n) : Filled n p M V (s + 1) 0 := fun a b ha hb hc => h a b ha hb (by omega)

theorem filled_all {n : Nat} {p : Nat → Nat} {M V E : Nat → Nat → Nat} (hp : Bij n p) (h : Filled n p M V n 0) (hE : ∀ s d, s < n → d < n → E (p s) (p d) = p (M s d)) : ∀ r q, r < n → q < n → V r q = E r q := fun r q hr hq => by
  obtain ⟨i, hi, rfl⟩ := pigeon n p hp.lt hp.inj r hr
  obtain ⟨j, hj, rfl⟩ := pigeon n p hp.lt hp.inj q hq
  rw [hE i j hi hj]
  exact h i j hi hj (Or.inl hi)

/-- The new names: 0 remains 0. -/
def P.to (xs : List Int) (k : Nat) : Nat := if k = 0 then 0 else P.nat xs (k - 1) + 1

theorem to_bij {xs : List Int} {m : Nat} (h : xs.Perm (P.upto m)) : Bij (m + 1) (P.to xs) := by
  obtain ⟨_, h2, _, h4⟩ := perm_facts h
  refine ⟨fun i hi => ?_, fun i j hi hj e => ?_⟩
  · unfold P.to
    split
    · omega
    · have := h2 (i - 1) (by omega); omega
  · unfold P.to at e
    split at e <;> split at e
    · omega
    · omega
    · omega
    · have := h4 (i - 1) (j - 1) (by omega) (by omega) (by omega)
      omega

/-- The names when j of them are counted up. -/
def P.toList (xs : List Int) (n j : Nat) : List Int := (List.range n).map fun k : Nat => if k = 0 then (0 : Int) else if k < j then (P.nat xs (k - 1) : Int) + 1 else (P.nat xs (k - 1) : Int)

theorem P.toList_length (xs : List Int) (n j : Nat) : (P.toList xs n j).length = n := by simp [P.toList]

theorem toList_start {xs : List Int} {m : Nat} (h : xs.Perm (P.upto m)) : P.toList xs (m + 1) 1 = 0 :: xs := by
  obtain ⟨h1, _, h3, _⟩ := perm_facts h
  refine List.ext_getElem (by simp [P.toList_length, h1]) fun k hk hk2 => ?_
  have e : (P.toList xs (m + 1) 1)[k] = if k = 0 then (0 : Int) else if k < 1 then (P.nat xs (k - 1) : Int) + 1 else (P.nat xs (k - 1) : Int) := by simp [P.toList]
  rw [e]
  cases k with
  | zero => simp
  | succ k =>
    rw [if_neg (by omega), if_neg (by omega), List.getElem_cons_succ, h3 k (by simp at hk2; omega)]
    simp

theorem toList_at (xs : List Int) {n j k : Nat} (hk : k < n) : (P.toList xs n j)[k]? = some (if k = 0 then (0 : Int) else if k < j then (P.nat xs (k - 1) : Int) + 1 else (P.nat xs (k - 1) : Int)) := by
  simp [P.toList, hk]

theorem toList_step (xs : List Int) {n j : Nat} (hj : j < n) (h1 : 1 ≤ j) : (P.toList xs n j).set j ((P.nat xs (j - 1) : Int) + 1) = P.toList xs n (j + 1) := by
  refine List.ext_getElem? fun k => ?_
  rw [List.getElem?_set]
  by_cases hk : k < n
  · rw [toList_at xs hk, toList_at xs hk, P.toList_length]
    by_cases e : j = k
    · subst e
      rw [if_pos rfl, if_pos hj, if_neg (by omega), if_pos (by omega)]
    · rw [if_neg e]
      by_cases h0 : k = 0
      · rw [if_pos h0, if_pos h0]
      · rw [if_neg h0, if_neg h0]
        by_cases hlt : k < j
        · rw [if_pos hlt, if_pos (by omega)]
        · rw [if_neg hlt, if_neg (by omega)]
  · have e1 : (P.toList xs n j)[k]? = none := List.getElem?_eq_none (by rw [P.toList_length]; omega)
    have e2 : (P.toList xs n (j + 1))[k]? = none := List.getElem?_eq_none (by rw [P.toList_length]; omega)
    rw [e1, e2]
    by_cases e : j = k
    · omega
    · rw [if_neg e]

theorem toList_done (xs : List Int) {n k : Nat} (hk : k < n) : (P.toList xs n n)[k]? = some (P.to xs k : Int) := by
  rw [toList_at xs hk]
  unfold P.to
  by_cases h0 : k = 0
  · rw [if_pos h0, if_pos h0]; rfl
  · rw [if_neg h0, if_neg h0, if_pos hk]; simp

end Go.Proofs.Ytlpdlnefgjmgmaa
