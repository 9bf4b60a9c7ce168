/- What a slice of numbers and a slice of slices read as in a world, and how this stays while the call makes memory of its own. No program is named here. -/
import Derived.WalkKit
import Derived.Deep.OwnRows
import Derived.Deep.LoopGhost
import Derived.WalkSpells
import Derived.WalkLawsBesides
namespace Go.Proofs.Ythaoacnaeafbeaa
open Go.RowKit

theorem hid {p : Prop} (h : p) : Hid p := h

theorem ret_bool {a b : Bool} (h : a = b) : Ending.returned (.bool a) = .returned (.bool b) := by rw [h]
theorem ret_int {a b : Int} (h : a = b) : Ending.returned (.int .i64 a) = .returned (.int .i64 b) := by rw [h]
theorem ret_int2 {a b : Int} {c d : Int} (h : a = b) (k : c = d) : Ending.returned (.tuple #[.int .i64 a, .int .i64 c]) = .returned (.tuple #[.int .i64 b, .int .i64 d]) := by rw [h, k]

/-- The slice with this address reads as these numbers. -/
def RdI (w : World) (a : Option Addr) (xs : List Int) : Prop :=
  ∀ k (h : k < xs.length), ∃ b off, a = some ⟨b, off, none⟩ ∧ w.cell? ⟨b, off + k, none⟩ = some (.int .i64 xs[k])

/-- The slice with this address reads as these rows of numbers. -/
def RdM (w : World) (a : Option Addr) (T : List (List Int)) : Prop :=
  ∀ k (h : k < T.length), ∃ b off r c, a = some ⟨b, off, none⟩ ∧ w.cell? ⟨b, off + k, none⟩ = some (.slice r T[k].length c) ∧ RdI w r T[k]

theorem RdI.nil (w : World) (a : Option Addr) : RdI w a [] := fun _ h => absurd h (Nat.not_lt_zero _)

theorem cell_stays {B : Nat} {w w' : World} (hb : Below B w w') (hB : w.heap.size ≤ B) {a : Addr} {v : Value} (h : w.cell? a = some v) : w'.cell? a = some v :=
  (hb.cell (p := a) (Nat.lt_of_lt_of_le (World.block_lt_of_cell? _ _ h) hB)).trans h

theorem RdI.stays {w w' : World} {a : Option Addr} {xs : List Int} (h : RdI w a xs) (hb : Below w.heap.size w w') : RdI w' a xs := fun k hk => by
  obtain ⟨b, off, ha, hc⟩ := h k hk
  exact ⟨b, off, ha, cell_stays hb (Nat.le_refl _) hc⟩

theorem RdM.stays {w w' : World} {a : Option Addr} {T : List (List Int)} (h : RdM w a T) (hb : Below w.heap.size w w') : RdM w' a T := fun k hk => by
  obtain ⟨b, off, r, c, ha, hc, hr⟩ := h k hk
  exact ⟨b, off, r, c, ha, cell_stays hb (Nat.le_refl _) hc, hr.stays hb⟩

/-- The number in a row and a column, as a natural number. -/
def P.at (T : List (List Int)) (i k : Nat) : Nat := ((T.getD i []).getD k 0).toNat

/-- A square of numbers from 0 to its size - 1. -/
structure Sq (T : List (List Int)) : Prop where
  len : ∀ i (h : i < T.length), T[i].length = T.length
  dig : ∀ i (h : i < T.length), ∀ k (h' : k < T[i].length), 0 ≤ T[i][k] ∧ T[i][k] < T.length

theorem Sq.at_lt {T : List (List Int)} (h : Sq T) {i k : Nat} (hi : i < T.length) (hk : k < T.length) : P.at T i k < T.length := by
  have hk' : k < T[i].length := by rw [h.len i hi]; exact hk
  have := h.dig i hi k hk'
  simp only [P.at, List.getD, List.getElem?_eq_getElem hi, Option.getD_some, List.getElem?_eq_getElem hk']
  omega

theorem Sq.at_eq {T : List (List Int)} (h : Sq T) {i k : Nat} (hi : i < T.length) (hk : k < T[i].length) : T[i][k] = (P.at T i k : Int) := by
  have := h.dig i hi k hk
  simp only [P.at, List.getD, List.getElem?_eq_getElem hi, Option.getD_some, List.getElem?_eq_getElem hk]
  omega

/-- The cells of row i. -/
theorem RdM.row {w : World} {a : Option Addr} {T : List (List Int)} (h : RdM w a T) (hs : Sq T) {i : Nat} (hi : i < T.length) :
    ∃ b off b' off' c, a = some ⟨b, off, none⟩ ∧ w.cell? ⟨b, off + i, none⟩ = some (.slice (some ⟨b', off', none⟩) T.length c) ∧
      ∀ k, k < T.length → w.cell? ⟨b', off' + k, none⟩ = some (.int .i64 (P.at T i k)) := by
  obtain ⟨b, off, r, c, ha, hc, hr⟩ := h i hi
  have hl := hs.len i hi
  obtain ⟨b', off', rfl, _⟩ := hr 0 (by omega)
  refine ⟨b, off, b', off', c, ha, by rw [hc, hl], fun k hk => ?_⟩
  obtain ⟨b2, off2, h2, hc2⟩ := hr k (by omega)
  simp only [Option.some.injEq, Addr.mk.injEq, and_true] at h2
  obtain ⟨rfl, rfl⟩ := h2
  rw [hc2, hs.at_eq hi (by omega)]

/-- The address of all rows is one. -/
theorem RdM.base {w : World} {a : Option Addr} {T : List (List Int)} (h : RdM w a T) (h0 : 0 < T.length) : ∃ b off, a = some ⟨b, off, none⟩ := by
  obtain ⟨b, off, _, _, ha, _⟩ := h 0 h0
  exact ⟨b, off, ha⟩

/-- The state after digits. -/
def P.after (T : List (List Int)) (l : List Int) : Nat := l.foldl (fun s d => P.at T s d.toNat) 0

/-- Digits of a table with n rows. -/
def Dg (n : Nat) (l : List Int) : Prop := ∀ k (h : k < l.length), 0 ≤ l[k] ∧ l[k] < n

theorem P.after_nil (T : List (List Int)) : P.after T [] = 0 := rfl

theorem P.after_take (T : List (List Int)) (l : List Int) (k : Nat) (h : k < l.length) : P.after T (l.take (k + 1)) = P.at T (P.after T (l.take k)) l[k].toNat := by
  unfold P.after
  rw [List.take_succ_eq_append_getElem h, List.foldl_append]
  rfl

theorem Dg.take {n : Nat} {l : List Int} (h : Dg n l) (k : Nat) : Dg n (l.take k) := fun j hj => by
  have hj' : j < k ∧ j < l.length := by simpa [List.length_take, Nat.lt_min] using hj
  rw [List.getElem_take]
  exact h j hj'.2

theorem Sq.after_lt {T : List (List Int)} (h : Sq T) (h0 : 0 < T.length) (l : List Int) (hd : Dg T.length l) : P.after T l < T.length := by
  have : ∀ k, k ≤ l.length → P.after T (l.take k) < T.length := by
    intro k
    induction k with
    | zero => intro _; simpa [P.after] using h0
    | succ k ih =>
      intro hk
      rw [P.after_take T l k (by omega)]
      have := hd k (by omega)
      exact h.at_lt (ih (by omega)) (by omega)
  simpa using this l.length (Nat.le_refl _)

end Go.Proofs.Ythaoacnaeafbeaa
