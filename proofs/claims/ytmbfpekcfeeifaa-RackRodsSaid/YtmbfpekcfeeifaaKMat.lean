/- A table of bools in memory, row by row. -/
import Derived.Test.YtmbfpekcfeeifaaKBrs
namespace Go.Proofs.Ytmbfpekcfeeifaa
open Go.RowKit

/-- A table of N by N bools: the rows' slices in block bo, row i in block ib i. -/
structure MatAt (w : World) (lo bo N : Nat) (ib : Nat → Nat) (F : Nat → Nat → Bool) : Prop where
  outer : w.rowIs bo 84 N (fun i => .slice (some ⟨ib i, 0, none⟩) N N)
  inner : ∀ i, i < N → w.rowIs (ib i) 4 N (fun j => .bool (F i j))
  inj : ∀ i j, i < N → j < N → ib i = ib j → i = j
  lo1 : lo ≤ bo
  lo2 : ∀ i, i < N → bo < ib i
variable {w : World} {lo bo N : Nat} {ib : Nat → Nat} {F : Nat → Nat → Bool}
theorem MatAt.row (h : MatAt w lo bo N ib F) {i : Nat} (hi : i < N) : w.cell? ⟨bo, i, none⟩ = some (.slice (some ⟨ib i, 0, none⟩) N N) := h.outer.cell hi
theorem MatAt.at (h : MatAt w lo bo N ib F) {i j : Nat} (hi : i < N) (hj : j < N) : w.cell? ⟨ib i, j, none⟩ = some (.bool (F i j)) := (h.inner i hi).cell hj
theorem MatAt.grown {w' : World} (h : MatAt w lo bo N ib F) (hb : Below w.heap.size w w') : MatAt w' lo bo N ib F :=
  ⟨row_grown h.outer (grown_below hb) (fun e => by cases e), fun i hi => row_grown (h.inner i hi) (grown_below hb) (fun e => by cases e), h.inj, h.lo1, h.lo2⟩
theorem MatAt.put (h : MatAt w lo bo N ib F) {i j : Nat} (hi : i < N) (v : Bool) {G : Nat → Nat → Bool} (hG : ∀ x y, x < N → y < N → G x y = if x = i ∧ y = j then v else F x y) : MatAt (w.setCell ⟨ib i, j, none⟩ (.bool v)) lo bo N ib G := by
  have hs := grown_set (w := w) (ib i) j (.bool v)
  refine ⟨row_grown h.outer hs (fun e => by cases e; have := h.lo2 i hi; omega), fun x hx => ?_, h.inj, h.lo1, h.lo2⟩
  by_cases e : x = i
  · subst e
    refine ((h.inner x hx).set j (.bool v)).congr fun y hy => ?_
    rw [hG x y hx hy]
    by_cases ey : y = j
    · rw [if_pos ey, if_pos ⟨rfl, ey⟩]
    · rw [if_neg ey, if_neg (fun h => ey h.2)]
  · refine (row_grown (h.inner x hx) hs (fun e2 => e (h.inj x i hx hi (Option.some.inj e2).symm))).congr fun y hy => ?_
    rw [hG x y hx hy, if_neg (fun h => e h.1)]
theorem MatAt.below {w0 : World} (h : MatAt w w0.heap.size bo N ib F) (hb : Below w0.heap.size w0 w) {i : Nat} (hi : i < N) (j : Nat) (v : Value) : Below w0.heap.size w0 (w.setCell ⟨ib i, j, none⟩ v) :=
  hb.setCell (by have := h.lo1; have := h.lo2 i hi; show w0.heap.size ≤ ib i; omega) _
theorem MatAt.with (h : MatAt w lo bo N ib F) {i j : Nat} (hi : i < N) : MatAt (w.setCell ⟨ib i, j, none⟩ (.bool true)) lo bo N ib (K.with F i j) := h.put hi true (fun _ _ _ _ => rfl)
end Go.Proofs.Ytmbfpekcfeeifaa
