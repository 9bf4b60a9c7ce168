/- Package rack: the walks of reaches and together. -/
import Derived.Test.YtmbfpekcfeeifaaKWalk
import Derived.Laws.EntriesVeiled
namespace Go.Proofs.Ytmbfpekcfeeifaa
open Go.RowKit

/-- All arrows lead to places. -/
def K.Bnd (M : Nat → Nat → Bool) : Prop := ∀ i j, M i j = true → i < 12 ∧ j < 12
/-- What a search returns, and that it changes nothing. -/
def K.Reached (M : Nat → Nat → Bool) (x y : Nat) (w : World) (e : Ending) (w' : World) : Prop := ∃ r, e = .returned (.bool r) ∧ (r = true ↔ K.Reach M x y) ∧ Below w.heap.size w w'

theorem pass_new (w : World) : PassAt (w.alloc (.cells #[.bool false, .bool false, .bool false, .bool false, .bool false, .bool false, .bool false, .bool false, .bool false, .bool false, .bool false, .bool false] 115)) w.heap.size (fun _ => false) := by
  have := World.rowIs_alloc w #[.bool false, .bool false, .bool false, .bool false, .bool false, .bool false, .bool false, .bool false, .bool false, .bool false, .bool false, .bool false] 115 (fun _ => .bool false) (fun i hi => by
    have h : i < 12 := hi
    have h4 : i = 0 ∨ i = 1 ∨ i = 2 ∨ i = 3 ∨ i = 4 ∨ i = 5 ∨ i = 6 ∨ i = 7 ∨ i = 8 ∨ i = 9 ∨ i = 10 ∨ i = 11 := by omega
    rcases h4 with rfl | rfl | rfl | rfl | rfl | rfl | rfl | rfl | rfl | rfl | rfl | rfl <;> rfl)
  exact this

/-- What reaches lays out. -/
def K.laid (w : World) (g y : Nat) : World :=
  (((w.alloc (.cells #[.pointer (some ⟨g, 0, none⟩)] 111)).alloc (.cells #[.int .i64 y] 3)).alloc (.cells #[.bool false, .bool false, .bool false, .bool false, .bool false, .bool false, .bool false, .bool false, .bool false, .bool false, .bool false, .bool false] 115)).alloc (.cells #[K.walkF (w.heap.size + 1) (w.heap.size + 1 + 1) w.heap.size (w.heap.size + 1 + 1 + 1)] 100)
theorem laid_pass (w : World) (g y : Nat) : PassAt (K.laid w g y) (w.heap.size + 1 + 1) (fun _ => false) := by
  have := pass_new ((w.alloc (.cells #[.pointer (some ⟨g, 0, none⟩)] 111)).alloc (.cells #[.int .i64 y] 3))
  rw [show ((w.alloc (.cells #[.pointer (some ⟨g, 0, none⟩)] 111)).alloc (.cells #[.int .i64 y] 3)).heap.size = w.heap.size + 1 + 1 by simp] at this
  exact World.rowIs.alloc this _
theorem laid_below (w : World) (g y : Nat) : Below w.heap.size w (K.laid w g y) := ((((Below.refl _ w).alloc (Nat.le_refl _) _).alloc (by simp) _).alloc (by simp; omega) _).alloc (by simp; omega) _
theorem laid_env (w : World) (g y m n : Nat) (sl : Value) (M : Nat → Nat → Bool) (hA : ArrAt w g m n sl M) : K.Env (K.laid w g y) (w.heap.size + 1) (w.heap.size + 1 + 1) w.heap.size (w.heap.size + 1 + 1 + 1) g m n sl M y := by
  have hg : g < w.heap.size := hA.lt
  refine ⟨?_, ?_, ?_, ?_, by omega, by omega, by omega, by omega⟩
  · unfold K.laid
    rw [World.cell?_of_block (Below.heap_alloc _ _ _ (by simp)), World.cell?_of_block (Below.heap_alloc _ _ _ (by simp)), World.cell?_alloc_at _ _ _ _ (by simp)]
    rfl
  · unfold K.laid
    rw [World.cell?_of_block (Below.heap_alloc _ _ _ (by simp; omega)), World.cell?_of_block (Below.heap_alloc _ _ _ (by simp; omega)), World.cell?_of_block (Below.heap_alloc _ _ _ (by simp)), World.cell?_alloc_at _ _ _ _ rfl]
    rfl
  · unfold K.laid
    rw [World.cell?_alloc_at _ _ _ _ (by simp)]
    rfl
  · exact hA.of_block ((laid_below w g y).block g hg)
set_option maxHeartbeats 4000000 in
set_option maxRecDepth 100000 in
theorem reaches_any (g m n : Nat) (sl : Value) (M : Nat → Nat → Bool) (x y : Nat) (w : World) (hx : x < 12) (hM : K.Bnd M) (hA : ArrAt w g m n sl M) :
    Calls Try.prog 80 #[.pointer (some ⟨g, 0, none⟩), .int .i64 x, .int .i64 y] w (K.Reached M x y w) := by
  have hg : g < w.heap.size := hA.lt
  have HW := hid (walk_any (w.heap.size + 1) (w.heap.size + 1 + 1) w.heap.size (w.heap.size + 1 + 1 + 1) g m n sl M y 13 (fun _ => false) x (K.laid w g y) (by unfold K.cnt; exact Nat.lt_of_le_of_lt List.countP_le_length (by simp)) hx rfl (laid_pass w g y) (laid_env w g y m n sl M hA))
  have HM := hid hM
  have HB := hid (laid_below w g y)
  clear hA hM
  unfold K.laid K.walkF at HW
  go_enter Try.func80, Try.ntmps80
  go_wp2_with fail
  refine HW.out.mono ?_
  rintro e w' ⟨r, P', rfl, hs, hp, hb⟩
  have HS := hid (hs.reach (fun i j h => (HM.out i j h).2))
  have HB2 := hid (HB.out.trans (hb.below (Nat.le_trans (Nat.le_succ _) (Nat.le_succ _)) HB.out.size))
  clear hs hp hb
  go_wp2
  go_ret
  exact ⟨r, rfl, HS.out, HB2.out⟩

/-- Two places that reach each other. -/
def K.Tog (M : Nat → Nat → Bool) (x y : Nat) : Prop := K.Reach M x y ∧ K.Reach M y x
/-- What together returns. -/
def K.Togd (M : Nat → Nat → Bool) (x y : Nat) (w : World) (e : Ending) (w' : World) : Prop := ∃ r, e = .returned (.bool r) ∧ (r = true ↔ K.Tog M x y) ∧ Below w.heap.size w w'
set_option maxHeartbeats 4000000 in
set_option maxRecDepth 100000 in
theorem together_any (g m n : Nat) (sl : Value) (M : Nat → Nat → Bool) (x y : Nat) (w : World) (hx : x < 12) (hy : y < 12) (hM : K.Bnd M) (hA : ArrAt w g m n sl M) :
    Calls Try.prog 76 #[.pointer (some ⟨g, 0, none⟩), .int .i64 x, .int .i64 y] w (K.Togd M x y w) := by
  have HW := hid (reaches_any g m n sl M x y w hx hM hA)
  have HA := hid hA
  have HM := hid hM
  clear hA hM
  go_enter Try.func76, Try.ntmps76
  go_wp2_with fail
  refine HW.out.mono ?_
  rintro e w' ⟨r, rfl, hr, hb⟩
  have HR := hid hr
  have HB := hid hb
  have HW2 := hid (reaches_any g m n sl M y x w' hy HM.out (HA.out.of_block (hb.block g HA.out.lt)))
  clear hr hb
  cases r with
  | false =>
    have HF : Hid (¬ K.Tog M x y) := hid (fun h => by have := HR.out.2 h.1; cases this)
    go_wp2_with fail
    go_ret
    exact ⟨false, rfl, ⟨fun h => (by cases h), fun h => absurd h HF.out⟩, HB.out⟩
  | true =>
    have HT := hid (HR.out.1 rfl)
    go_wp2_with fail
    refine HW2.out.mono ?_
    rintro e w2 ⟨r2, rfl, hr2, hb2⟩
    have HR2 := hid hr2
    have HB2 := hid (HB.out.trans (hb2.mono HB.out.size))
    clear hr2 hb2
    go_wp2_with fail
    go_ret
    exact ⟨r2, rfl, ⟨fun h => ⟨HT.out, HR2.out.1 h⟩, fun h => HR2.out.2 h.2⟩, HB2.out⟩
end Go.Proofs.Ytmbfpekcfeeifaa
