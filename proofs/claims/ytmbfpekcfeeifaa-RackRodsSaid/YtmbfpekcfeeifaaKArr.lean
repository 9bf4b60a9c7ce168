/- Package rack: a rack with its arrows in memory; the walks of ends, draw, places. -/
import Derived.Test.YtmbfpekcfeeifaaKRead
import Derived.BigQuiet
import Derived.Test.YtmbfpekcfeeifaaRows
import Derived.Deep.OwnRows
import Derived.Deep.MidRow
namespace Go.Proofs.Ytmbfpekcfeeifaa
open Go.RowKit

/-- All that was there reads as before, but for one block. -/
structure But (g : Nat) (w w' : World) : Prop where
  os : w'.os = w.os
  tape : w'.tape = w.tape
  output : w'.output = w.output
  size : w.heap.size ≤ w'.heap.size
  block : ∀ k, k < w.heap.size → k ≠ g → w'.heap[k]? = w.heap[k]?
theorem But.refl (g : Nat) (w : World) : But g w w := ⟨rfl, rfl, rfl, Nat.le_refl _, fun _ _ _ => rfl⟩
theorem But.trans {g : Nat} {a b c : World} (h : But g a b) (k : But g b c) : But g a c :=
  ⟨k.os.trans h.os, k.tape.trans h.tape, k.output.trans h.output, Nat.le_trans h.size k.size, fun i hi hg => (k.block i (Nat.lt_of_lt_of_le hi h.size) hg).trans (h.block i hi hg)⟩
theorem But.of {g : Nat} {w w' : World} (h : Below w.heap.size w w') : But g w w' := ⟨h.os, h.tape, h.output, h.size, fun k hk _ => h.block k hk⟩
theorem But.below {g B : Nat} {w w' : World} (h : But g w w') (hg : B ≤ g) (hB : B ≤ w.heap.size) : Below B w w' :=
  ⟨h.os, h.tape, h.output, h.size, fun k hk => h.block k (Nat.lt_of_lt_of_le hk hB) (by omega)⟩
theorem But.set {g : Nat} {a w : World} (h : But g a w) (o : Nat) (u : Value) : But g a (w.setCell ⟨g, o, none⟩ u) :=
  h.trans ⟨rfl, rfl, rfl, by simp [World.setCell], fun k _ hk => Below.heap_setCell _ _ _ _ hk⟩
theorem But.drewN {g : Nat} {a w : World} (h : But g a w) (n : Nat) : But g a (w.drewN n) := h.trans ⟨rfl, rfl, rfl, Nat.le_refl _, fun _ _ _ => rfl⟩
theorem But.alloc {g : Nat} {a w : World} (h : But g a w) (o : Obj) : But g a (w.alloc o) := h.trans (But.of ((Below.refl _ _).alloc (Nat.le_refl _) _))
theorem But.row {g : Nat} {w w' : World} (h : But g w w') {b : Nat} {t : TypeId} {n : Nat} {f : Nat → Value} (hr : w.rowIs b t n f) (hb : b ≠ g) : w'.rowIs b t n f := hr.of_block (h.block b hr.lt hb)
theorem But.cell {g : Nat} {w w' : World} (h : But g w w') {p : Addr} {v : Value} (hc : w.cell? p = some v) (hb : p.block ≠ g) : w'.cell? p = some v :=
  (World.cell?_of_block (w := w) (h.block p.block (World.block_lt_of_cell? _ _ hc) hb)).trans hc

/-- The cells of a rack with its arrows. -/
def K.arrF (m n : Nat) (sl : Value) (M : Nat → Nat → Bool) (j : Nat) : Value :=
  if j = 0 then .int .i64 m else if j = 1 then .int .i64 n else if j = 2 then sl else .bool (M ((j - 3) / 12) ((j - 3) % 12))
/-- A rack with its arrows lies in this block. -/
def ArrAt (w : World) (g : Nat) (m n : Nat) (sl : Value) (M : Nat → Nat → Bool) : Prop := w.rowIs g 119 147 (K.arrF m n sl M)
theorem K.arrF_at {m n : Nat} {sl : Value} {M : Nat → Nat → Bool} {i j : Nat} (hj : j < 12) : K.arrF m n sl M (3 + i * 12 + j) = .bool (M i j) := by
  unfold K.arrF
  rw [if_neg (by omega), if_neg (by omega), if_neg (by omega), show (3 + i * 12 + j - 3) / 12 = i by omega, show (3 + i * 12 + j - 3) % 12 = j by omega]
theorem ArrAt.rows {w : World} {g m n : Nat} {sl : Value} {M : Nat → Nat → Bool} (h : ArrAt w g m n sl M) : w.cell? ⟨g, 0, none⟩ = some (.int .i64 m) := h.cell (i := 0) (by omega)
theorem ArrAt.cols {w : World} {g m n : Nat} {sl : Value} {M : Nat → Nat → Bool} (h : ArrAt w g m n sl M) : w.cell? ⟨g, 1, none⟩ = some (.int .i64 n) := h.cell (i := 1) (by omega)
theorem ArrAt.brs {w : World} {g m n : Nat} {sl : Value} {M : Nat → Nat → Bool} (h : ArrAt w g m n sl M) : w.cell? ⟨g, 2, none⟩ = some sl := h.cell (i := 2) (by omega)
theorem ArrAt.at {w : World} {g m n : Nat} {sl : Value} {M : Nat → Nat → Bool} (h : ArrAt w g m n sl M) {i j : Nat} (hi : i < 12) (hj : j < 12) : w.cell? ⟨g, 3 + i * 12 + j, none⟩ = some (.bool (M i j)) := by
  rw [← K.arrF_at (m := m) (n := n) (sl := sl) hj]
  exact h.cell (i := 3 + i * 12 + j) (by omega)
/-- One more arrow. -/
def K.with (M : Nat → Nat → Bool) (i j : Nat) : Nat → Nat → Bool := fun x y => if x = i ∧ y = j then true else M x y
theorem ArrAt.set {w : World} {g m n : Nat} {sl : Value} {M : Nat → Nat → Bool} (h : ArrAt w g m n sl M) {i j : Nat} (hj : j < 12) : ArrAt (w.setCell ⟨g, 3 + i * 12 + j, none⟩ (.bool true)) g m n sl (K.with M i j) := by
  unfold ArrAt at h ⊢
  refine (h.set (3 + i * 12 + j) (.bool true)).congr fun k hk => ?_
  by_cases e : k = 3 + i * 12 + j
  · subst e
    rw [if_pos rfl, K.arrF_at hj]
    simp [K.with]
  · rw [if_neg e]
    unfold K.arrF K.with
    by_cases h0 : k = 0
    · rw [if_pos h0, if_pos h0]
    rw [if_neg h0, if_neg h0]
    by_cases h1 : k = 1
    · rw [if_pos h1, if_pos h1]
    rw [if_neg h1, if_neg h1]
    by_cases h2 : k = 2
    · rw [if_pos h2, if_pos h2]
    rw [if_neg h2, if_neg h2]
    rw [if_neg (show ¬ ((k - 3) / 12 = i ∧ (k - 3) % 12 = j) by omega)]

set_option maxHeartbeats 1000000 in
set_option maxRecDepth 100000 in
theorem ends_any (g m n : Nat) (sl : Value) (M : Nat → Nat → Bool) (x y z : Int) (w : World) (hA : ArrAt w g m n sl M) (hm : m ≤ 6) (hy : 0 ≤ y ∧ y ≤ 6) :
    Calls Try.prog 83 #[.pointer (some ⟨g, 0, none⟩), .agg #[.int .i64 x, .int .i64 y, .int .i64 z]] w fun e w' => e = .returned (.tuple #[.int .i64 x, .int .i64 (m + y)]) ∧ Below w.heap.size w w' := by
  have k0 := hA.rows
  have hg : g < w.heap.size := hA.lt
  have HB0 := hid ((Below.refl w.heap.size w).alloc (Nat.le_refl _) (.cells #[.int .i64 x, .int .i64 y, .int .i64 z] 63))
  have hw1 : IntKind.i64.wrap ((m : Int) + y) = (m : Int) + y := IntWalk.i64_in _ (by omega)
  clear hA
  go_enter Try.func83, Try.ntmps83
  go_wp2
  go_quiet (fail)
  go_wp2
  go_ret2
  exact ⟨rfl, below_drewN HB0.out _⟩

set_option maxHeartbeats 1000000 in
set_option maxRecDepth 100000 in
theorem places_any (g m n : Nat) (sl : Value) (M : Nat → Nat → Bool) (w : World) (hA : ArrAt w g m n sl M) (hm : m ≤ 6) (hn : n ≤ 6) :
    Calls Try.prog 77 #[.pointer (some ⟨g, 0, none⟩)] w fun e w' => e = .returned (.int .i64 ((m + n : Nat) : Int)) ∧ ∃ q, w' = w.drewN q := by
  have k0 := hA.rows
  have k1 := hA.cols
  have hw1 : IntKind.i64.wrap ((m : Int) + n) = (m : Int) + n := IntWalk.i64_in _ (by omega)
  clear hA
  go_enter Try.func77, Try.ntmps77
  go_wp2
  go_quiet (fail)
  go_wp2
  go_ret
  exact ⟨ret_int (by simp), _, rfl⟩
end Go.Proofs.Ytmbfpekcfeeifaa
