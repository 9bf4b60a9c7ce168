/- Package cross: the walks of isClear, isClearAround and their closures. -/
import Derived.Test.YthaoacnaeafbeaaXArr
namespace Go.Proofs.Ythaoacnaeafbeaa
open Go.RowKit

/-- Clear: no pair is passed on. -/
def X.clr (l : List Int) : Bool := (X.tw (X.dis l) (X.prs l)).isNone
def X.clA (l : List Int) (sz : Int) : Bool := (X.tw (X.wy l sz) (X.arr l)).isNone

set_option maxHeartbeats 1000000 in
theorem clr1_any (g : Nat) (p q : Nat × Nat) (v : Bool) (w : World) (h : w.rowIs g 4 1 (fun _ => .bool v)) :
    Calls Try.prog 76 (#[X.pv p, X.pv q] ++ #[.pointer (some ⟨g, 0, none⟩)]) w fun e w' => e = .returned (.tuple #[]) ∧ w'.rowIs g 4 1 (fun _ => .bool false) ∧ X.Exc (· = g) w w' := by
  obtain ⟨p1, p2⟩ := p
  obtain ⟨q1, q2⟩ := q
  show Calls Try.prog 76 #[.agg #[.int .i64 (p1 : Nat), .int .i64 (p2 : Nat)], .agg #[.int .i64 (q1 : Nat), .int .i64 (q2 : Nat)], .pointer (some ⟨g, 0, none⟩)] w _
  have HR := hid ((h.alloc (.cells #[.int .i64 (p1 : Nat), .int .i64 (p2 : Nat)] 24)).alloc (.cells #[.int .i64 (q1 : Nat), .int .i64 (q2 : Nat)] 24))
  have HE := hid (((X.Exc.refl (· = g) w).alloc (.cells #[.int .i64 (p1 : Nat), .int .i64 (p2 : Nat)] 24)).alloc (.cells #[.int .i64 (q1 : Nat), .int .i64 (q2 : Nat)] 24))
  have y0 := HR.out.cell (i := 0) (by omega)
  have f0 := World.rowIs.frozen HR.out 0
  clear h
  go_enter Try.func76, Try.ntmps76
  go_wp2
  go_end0
  exact ⟨rfl, (HR.out.set 0 (.bool false)).congr (fun i hi => by rw [if_pos (by omega)]), HE.out.set (fun _ => rfl) _ _⟩

set_option maxHeartbeats 1000000 in
theorem clrA1_any (g : Nat) (p q : Nat × Nat) (v : Bool) (w : World) (h : w.rowIs g 4 1 (fun _ => .bool v)) :
    Calls Try.prog 78 (#[X.pv p, X.pv q] ++ #[.pointer (some ⟨g, 0, none⟩)]) w fun e w' => e = .returned (.tuple #[]) ∧ w'.rowIs g 4 1 (fun _ => .bool false) ∧ X.Exc (· = g) w w' := by
  obtain ⟨p1, p2⟩ := p
  obtain ⟨q1, q2⟩ := q
  show Calls Try.prog 78 #[.agg #[.int .i64 (p1 : Nat), .int .i64 (p2 : Nat)], .agg #[.int .i64 (q1 : Nat), .int .i64 (q2 : Nat)], .pointer (some ⟨g, 0, none⟩)] w _
  have HR := hid ((h.alloc (.cells #[.int .i64 (p1 : Nat), .int .i64 (p2 : Nat)] 24)).alloc (.cells #[.int .i64 (q1 : Nat), .int .i64 (q2 : Nat)] 24))
  have HE := hid (((X.Exc.refl (· = g) w).alloc (.cells #[.int .i64 (p1 : Nat), .int .i64 (p2 : Nat)] 24)).alloc (.cells #[.int .i64 (q1 : Nat), .int .i64 (q2 : Nat)] 24))
  have y0 := HR.out.cell (i := 0) (by omega)
  have f0 := World.rowIs.frozen HR.out 0
  clear h
  go_enter Try.func78, Try.ntmps78
  go_wp2
  go_end0
  exact ⟨rfl, (HR.out.set 0 (.bool false)).congr (fun i hi => by rw [if_pos (by omega)]), HE.out.set (fun _ => rfl) _ _⟩

/-- The variable that the closure sets. -/
def X.Isv (g : Nat) (r : Option ((Nat × Nat) × (Nat × Nat))) (w : World) : Prop := w.rowIs g 4 1 (fun _ => .bool r.isNone)
theorem X.newIs (w : World) : ∃ W, (w.alloc (.cells #[.bool false] 4)).setCell ⟨w.heap.size, 0, none⟩ (.bool true) = W ∧ X.Isv w.heap.size none W ∧ Below w.heap.size w W ∧ W.heap.size = w.heap.size + 1 := by
  refine ⟨_, rfl, ?_, ((Below.refl _ _).alloc (Nat.le_refl _) _).setCell (Nat.le_refl _) _, by simp [World.setCell]⟩
  have := World.rowIs_alloc w #[.bool false] 4 (fun _ => .bool false) (fun i hi => by
    have : i = 0 := by simpa using hi
    subst this; rfl)
  exact (this.set 0 (.bool true)).congr (fun i hi => by
    have : i = 0 := by simpa using hi
    subst this; rfl)

set_option maxHeartbeats 1000000 in
theorem isClear_any (a : Option Addr) (c : Nat) (l : List Int) (w : World) (hl : RdI w a l) (hok : X.Ok l) :
    Calls Try.prog 57 #[.slice a l.length c] w fun e w' => e = .returned (.bool (X.clr l)) ∧ Below w.heap.size w w' := by
  have h2 := hok.two
  obtain ⟨b, o, rfl, hc0⟩ := X.num hl (show 0 < l.length by omega)
  have hblt : b < w.heap.size := World.block_lt_of_cell? _ _ hc0
  obtain ⟨W, hW, hI, hB, hsz⟩ := X.newIs w
  have HMP := hid (meetPairs_any b o c l 76 #[.pointer (some ⟨w.heap.size, 0, none⟩)] (· = w.heap.size) (X.Isv w.heap.size) W (hl.stays hB) hok (fun k hk => by omega) (by omega) (fun _ _ => rfl)
    (fun r w1 w2 h hs hb => World.rowIs.of_block h (hb.block _ (by omega))) hI
    (fun r p q W' h _ => by
      refine (clr1_any w.heap.size p q r.isNone W' h).mono ?_
      rintro e w' ⟨rfl, h1, h2⟩
      exact ⟨rfl, h1, h2⟩))
  have HB := hid hB
  clear hl hok hI hB hc0
  unfold X.clr
  generalize X.tw (X.dis l) (X.prs l) = t at *
  go_enter Try.func57, Try.ntmps57
  go_wp2_with fail
  rw [hW] at *
  refine HMP.out.mono ?_
  rintro e w2 ⟨m, rfl, -, -, hi2, he2⟩
  have HBE : Hid (Below w.heap.size w w2) := hid (HB.out.trans (he2.below HB.out.size (fun k hk h => by omega)))
  have y0 := World.rowIs.cell hi2 (i := 0) (by omega)
  clear hi2 he2
  go_wp2
  go_ret
  exact ⟨rfl, HBE.out⟩

set_option maxHeartbeats 1000000 in
theorem isClearAround_any (a : Option Addr) (c : Nat) (l : List Int) (sz : Int) (w : World) (hl : RdI w a l) (hok : X.Ok l) (hs2 : 2 ≤ sz) (hs40 : sz ≤ 40) (hsl : ∀ i, i < l.length → l.getD i 0 < sz) :
    Calls Try.prog 64 #[.slice a l.length c, .int .i64 sz] w fun e w' => e = .returned (.bool (X.clA l sz)) ∧ Below w.heap.size w w' := by
  have h2 := hok.two
  obtain ⟨b, o, rfl, hc0⟩ := X.num hl (show 0 < l.length by omega)
  have hblt : b < w.heap.size := World.block_lt_of_cell? _ _ hc0
  obtain ⟨W, hW, hI, hB, hsz⟩ := X.newIs w
  have HMP := hid (meetArrows_any b o c l sz 78 #[.pointer (some ⟨w.heap.size, 0, none⟩)] (· = w.heap.size) (X.Isv w.heap.size) W (hl.stays hB) hok hs2 hs40 hsl (fun k hk => by omega) (by omega) (fun _ _ => rfl)
    (fun r w1 w2 h hs hb => World.rowIs.of_block h (hb.block _ (by omega))) hI
    (fun r p q W' h _ => by
      refine (clrA1_any w.heap.size p q r.isNone W' h).mono ?_
      rintro e w' ⟨rfl, h1, h2⟩
      exact ⟨rfl, h1, h2⟩))
  have HB := hid hB
  clear hl hok hI hB hc0 hsl
  unfold X.clA
  generalize X.tw (X.wy l sz) (X.arr l) = t at *
  go_enter Try.func64, Try.ntmps64
  go_wp2_with fail
  rw [hW] at *
  refine HMP.out.mono ?_
  rintro e w2 ⟨rfl, hi2, he2⟩
  have HBE : Hid (Below w.heap.size w w2) := hid (HB.out.trans (he2.below HB.out.size (fun k hk h => by omega)))
  have y0 := World.rowIs.cell hi2 (i := 0) (by omega)
  clear hi2 he2
  go_wp2
  go_ret
  exact ⟨rfl, HBE.out⟩
end Go.Proofs.Ythaoacnaeafbeaa
