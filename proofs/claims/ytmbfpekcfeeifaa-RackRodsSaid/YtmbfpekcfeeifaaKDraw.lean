/- Package rack: the walk of draw. -/
import Derived.Test.YtmbfpekcfeeifaaKArr
namespace Go.Proofs.Ytmbfpekcfeeifaa
open Go.RowKit

/-- The arrows of a brace in row i and column j. -/
def K.drawn (M : Nat → Nat → Bool) (i j : Nat) (z : Int) : Nat → Nat → Bool :=
  if z = 2 then K.with M j i else if z = 1 then K.with M i j else K.with (K.with M i j) j i

set_option maxHeartbeats 2000000 in
set_option maxRecDepth 100000 in
theorem draw_any (g m n : Nat) (sl : Value) (M : Nat → Nat → Bool) (x y : Nat) (z : Int) (w : World) (hA : ArrAt w g m n sl M) (hm : m ≤ 6) (hx : x < 6) (hy : y < 6) :
    Calls Try.prog 84 #[.pointer (some ⟨g, 0, none⟩), .agg #[.int .i64 x, .int .i64 y, .int .i64 z]] w fun e w' => e = .returned (.tuple #[]) ∧ ArrAt w' g m n sl (K.drawn M x (m + y) z) ∧ But g w w' := by
  have hg : g < w.heap.size := hA.lt
  have hb0 : Below w.heap.size w (w.alloc (.cells #[.int .i64 x, .int .i64 y, .int .i64 z] 63)) := (Below.refl w.heap.size w).alloc (Nat.le_refl _) _
  have hA1 : ArrAt (w.alloc (.cells #[.int .i64 x, .int .i64 y, .int .i64 z] 63)) g m n sl M := hA.alloc _
  have c0 : (w.alloc (.cells #[.int .i64 x, .int .i64 y, .int .i64 z] 63)).cell? ⟨w.heap.size, 2, none⟩ = some (.int .i64 z) := by rw [World.cell?_alloc_at _ _ _ _ rfl]; rfl
  have hsz : w.heap.size < (w.alloc (.cells #[.int .i64 x, .int .i64 y, .int .i64 z] 63)).heap.size := World.block_lt_of_cell? _ _ c0
  have HB0 := hid (But.of (g := g) hb0)
  have HE := hid (ends_any g m n sl M x y z _ hA1 hm ⟨by omega, by omega⟩)
  have HA1 := hid hA1
  have HC0 := hid c0
  have HSZ := hid hsz
  clear hA hb0 hA1 c0 hsz
  go_enter Try.func84, Try.ntmps84
  go_wp2_with fail
  generalize hw1 : w.alloc (.cells #[.int .i64 x, .int .i64 y, .int .i64 z] 63) = w1 at *
  clear hw1
  refine HE.out.mono ?_
  rintro e w' ⟨rfl, hb⟩
  have HA2 : Hid (ArrAt w' g m n sl M) := hid (HA1.out.of_block (hb.block _ HA1.out.lt))
  have HB2 : Hid (But g w w') := hid (HB0.out.trans (But.of hb))
  have c2 := cell_stays hb (Nat.le_refl _) HC0.out
  have hg2 : g < w'.heap.size := HA2.out.lt
  have hne : w.heap.size ≠ g := by omega
  have hne2 : g ≠ w.heap.size := by omega
  have f1 : ∀ k, w'.frozen? ⟨g, k, none⟩ = false := fun k => HA2.out.frozen k
  have y1 : w'.cell? ⟨g, 3 + x * 12 + (m + y), none⟩ = some (.bool (M x (m + y))) := HA2.out.at (by omega) (by omega)
  have y2 : w'.cell? ⟨g, 3 + (m + y) * 12 + x, none⟩ = some (.bool (M (m + y) x)) := HA2.out.at (by omega) (by omega)
  have i1 : (0 : Int) ≤ (x : Int) ∧ (x : Int) < 12 := by omega
  have i2 : (0 : Int) ≤ (m : Int) + (y : Int) ∧ (m : Int) + (y : Int) < 12 := by omega
  have t1 : ((m : Int) + (y : Int)).toNat = m + y := by omega
  have HX : Hid (x < 12) := hid (by omega)
  have HY : Hid (m + y < 12) := hid (by omega)
  clear hb
  have HD2 : Hid (K.drawn M x (m + y) 2 = K.with M (m + y) x) := hid rfl
  have HD1 : Hid (K.drawn M x (m + y) 1 = K.with M x (m + y)) := hid rfl
  by_cases h2 : z = 2
  · subst h2
    go_wp2
    go_end0
    exact ⟨rfl, by rw [HD2.out]; exact HA2.out.set HX.out, HB2.out.set _ _⟩
  · by_cases h1 : z = 1
    · subst h1
      go_wp2
      go_end0
      exact ⟨rfl, by rw [HD1.out]; exact HA2.out.set HY.out, HB2.out.set _ _⟩
    · have HD0 : Hid (K.drawn M x (m + y) z = K.with (K.with M x (m + y)) (m + y) x) := hid (by unfold K.drawn; rw [if_neg h2, if_neg h1])
      have d1 : (z != 2) = true := by simpa using h2
      have d2 : (z != 1) = true := by simpa using h1
      have y3 : (w'.setCell ⟨g, 3 + x * 12 + (m + y), none⟩ (.bool true)).cell? ⟨g, 3 + (m + y) * 12 + x, none⟩ = some (.bool (K.with M x (m + y) (m + y) x)) := (HA2.out.set HY.out).at HY.out HX.out
      have f3 : ∀ k, (w'.setCell ⟨g, 3 + x * 12 + (m + y), none⟩ (.bool true)).frozen? ⟨g, k, none⟩ = false := fun k => World.rowIs.frozen (HA2.out.set (i := x) HY.out) k
      go_wp2
      go_end0
      exact ⟨rfl, by rw [HD0.out]; exact (HA2.out.set HY.out).set HX.out, (HB2.out.set _ _).set _ _⟩
end Go.Proofs.Ytmbfpekcfeeifaa
