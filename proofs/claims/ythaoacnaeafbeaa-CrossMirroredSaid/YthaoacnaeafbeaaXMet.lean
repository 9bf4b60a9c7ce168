/- Package cross: the array of pairs that were met, in memory; the walk of has. -/
import Derived.Test.YthaoacnaeafbeaaXChk
import Derived.Test.YthaoacnaeafbeaaRows
import Derived.Deep.OwnRows
import Derived.Deep.MidRow
namespace Go.Proofs.Ythaoacnaeafbeaa
open Go.RowKit

/-- All that was there reads as before, but for some blocks. -/
structure X.Exc (G : Nat → Prop) (w w' : World) : Prop where
  os : w'.os = w.os
  tape : w'.tape = w.tape
  output : w'.output = w.output
  size : w.heap.size ≤ w'.heap.size
  block : ∀ k, k < w.heap.size → ¬ G k → w'.heap[k]? = w.heap[k]?
theorem X.Exc.refl (G : Nat → Prop) (w : World) : X.Exc G w w := ⟨rfl, rfl, rfl, Nat.le_refl _, fun _ _ _ => rfl⟩
theorem X.Exc.trans {G : Nat → Prop} {a b c : World} (h : X.Exc G a b) (k : X.Exc G b c) : X.Exc G a c :=
  ⟨k.os.trans h.os, k.tape.trans h.tape, k.output.trans h.output, Nat.le_trans h.size k.size, fun i hi hg => (k.block i (Nat.lt_of_lt_of_le hi h.size) hg).trans (h.block i hi hg)⟩
theorem X.Exc.mono {G G' : Nat → Prop} {w w' : World} (h : X.Exc G w w') (hG : ∀ k, k < w.heap.size → G k → G' k) : X.Exc G' w w' :=
  ⟨h.os, h.tape, h.output, h.size, fun k hk hg => h.block k hk (fun x => hg (hG k hk x))⟩
theorem X.Exc.of {G : Nat → Prop} {w w' : World} (h : Below w.heap.size w w') : X.Exc G w w' := ⟨h.os, h.tape, h.output, h.size, fun k hk _ => h.block k hk⟩
theorem X.Exc.then {G : Nat → Prop} {a w w' : World} (h : X.Exc G a w) (k : Below a.heap.size w w') : X.Exc G a w' :=
  ⟨k.os.trans h.os, k.tape.trans h.tape, k.output.trans h.output, Nat.le_trans h.size k.size, fun i hi hg => (k.block i hi).trans (h.block i hi hg)⟩
theorem X.Exc.below {G : Nat → Prop} {B : Nat} {w w' : World} (h : X.Exc G w w') (hB : B ≤ w.heap.size) (hG : ∀ k, k < B → ¬ G k) : Below B w w' :=
  ⟨h.os, h.tape, h.output, h.size, fun k hk => h.block k (Nat.lt_of_lt_of_le hk hB) (hG k hk)⟩
theorem X.Exc.set {G : Nat → Prop} {a w : World} (h : X.Exc G a w) {g : Nat} (hg : g < a.heap.size → G g) (o : Nat) (u : Value) : X.Exc G a (w.setCell ⟨g, o, none⟩ u) :=
  ⟨h.os, h.tape, h.output, by simpa [World.setCell] using h.size, fun k hk hn => (Below.heap_setCell _ _ _ _ (fun e => hn (by rw [e] at hk ⊢; exact hg hk))).trans (h.block k hk hn)⟩
theorem X.Exc.alloc {G : Nat → Prop} {a w : World} (h : X.Exc G a w) (o : Obj) : X.Exc G a (w.alloc o) := h.trans (X.Exc.of ((Below.refl _ _).alloc (Nat.le_refl _) _))
theorem X.Exc.drewN {G : Nat → Prop} {a w : World} (h : X.Exc G a w) (n : Nat) : X.Exc G a (w.drewN n) := h.trans ⟨rfl, rfl, rfl, Nat.le_refl _, fun _ _ _ => rfl⟩
theorem X.Exc.drew {G : Nat → Prop} {a w : World} (h : X.Exc G a w) : X.Exc G a w.drew := h.trans ⟨rfl, rfl, rfl, Nat.le_refl _, fun _ _ _ => rfl⟩
theorem X.Exc.row {G : Nat → Prop} {w w' : World} (h : X.Exc G w w') {b : Nat} {t : TypeId} {n : Nat} {f : Nat → Value} (hr : w.rowIs b t n f) (hb : ¬ G b) : w'.rowIs b t n f := hr.of_block (h.block b hr.lt hb)
theorem X.Exc.cell {G : Nat → Prop} {w w' : World} (h : X.Exc G w w') {p : Addr} {v : Value} (hc : w.cell? p = some v) (hb : ¬ G p.block) : w'.cell? p = some v :=
  (World.cell?_of_block (w := w) (h.block p.block (World.block_lt_of_cell? _ _ hc) hb)).trans hc

/-- The cells of the array of pairs. -/
def X.cel (D : Nat × Nat → Nat) (S : List (Nat × Nat)) (j : Nat) : Value := .int .i64 (if j % 2 = 0 then (X.met D S (j / 2)).1 else (X.met D S (j / 2)).2 : Nat)
def X.MetAt (w : World) (g : Nat) (D : Nat × Nat → Nat) (S : List (Nat × Nat)) : Prop := w.rowIs g 61 122 (X.cel D S)
theorem X.MetAt.c0 {w : World} {g : Nat} {D : Nat × Nat → Nat} {S : List (Nat × Nat)} (h : X.MetAt w g D S) {d : Nat} (hd : d ≤ 60) : w.cell? ⟨g, d * 2, none⟩ = some (.int .i64 ((X.met D S d).1 : Nat)) := by
  have := World.rowIs.cell h (i := d * 2) (by omega)
  unfold X.cel at this
  rw [if_pos (by omega), show d * 2 / 2 = d by omega] at this
  exact this
theorem X.MetAt.c1 {w : World} {g : Nat} {D : Nat × Nat → Nat} {S : List (Nat × Nat)} (h : X.MetAt w g D S) {d : Nat} (hd : d ≤ 60) : w.cell? ⟨g, d * 2 + 1, none⟩ = some (.int .i64 ((X.met D S d).2 : Nat)) := by
  have := World.rowIs.cell h (i := d * 2 + 1) (by omega)
  unfold X.cel at this
  rw [if_neg (by omega), show (d * 2 + 1) / 2 = d by omega] at this
  exact this
theorem X.MetAt.put {w : World} {g : Nat} {D : Nat × Nat → Nat} {S : List (Nat × Nat)} (h : X.MetAt w g D S) (p : Nat × Nat) {d : Nat} (hd : D p = d) :
    X.MetAt ((w.setCell ⟨g, d * 2, none⟩ (.int .i64 (p.1 : Nat))).setCell ⟨g, d * 2 + 1, none⟩ (.int .i64 (p.2 : Nat))) g D (p :: S) := by
  unfold X.MetAt at h ⊢
  refine ((h.set (d * 2) (.int .i64 (p.1 : Nat))).set (d * 2 + 1) (.int .i64 (p.2 : Nat))).congr fun k hk => ?_
  unfold X.cel
  rw [X.met_cons, hd]
  by_cases e1 : k = d * 2 + 1
  · rw [if_pos e1, if_neg (by omega), if_pos (by omega)]
  · rw [if_neg e1]
    by_cases e0 : k = d * 2
    · rw [if_pos e0, if_pos (by omega), if_pos (by omega)]
    · rw [if_neg e0, if_neg (show ¬ k / 2 = d by omega)]

/-- A pair as a value. -/
def X.pv (p : Nat × Nat) : Value := .agg #[.int .i64 (p.1 : Nat), .int .i64 (p.2 : Nat)]
theorem X.eqIn (a b c d : Int) (w : World) : (Op.equalIn 10000 24 (.agg #[.int .i64 a, .int .i64 b]) (.agg #[.int .i64 c, .int .i64 d])).run Try.prog w = .ok ((a == c) && (b == d)) w := by
  have ui : Try.prog.underlying 3 = some (.int .i64) := Try.underlying3
  have ua : Try.prog.underlying 24 = some (.array 2 3) := Try.underlying24
  have hs : ∀ w, (sizeOf 3).run Try.prog w = .ok 1 w := fun w => by kernel_rfl
  have hp0 : ∀ (x y : Int) w, (part 3 #[.int .i64 x, .int .i64 y] 0).run Try.prog w = .ok (.int .i64 x) w := fun x y w => by kernel_rfl
  have hp1 : ∀ (x y : Int) w, (part 3 #[.int .i64 x, .int .i64 y] 1).run Try.prog w = .ok (.int .i64 y) w := fun x y w => by kernel_rfl
  have he : ∀ (a b : Int) w, (Op.equalIn 9999 3 (.int .i64 a) (.int .i64 b)).run Try.prog w = .ok (a == b) w := fun a b w => run_equalIn_int w 9998 _ .i64 .i64 _ _ ui
  rw [show (10000 : Nat) = 9999 + 1 from rfl, Op.equalIn]
  simp only [Sem.run_bind, run_underlying ua, Result.andThen_ok, hs]
  rw [Std.Legacy.Range.forIn_eq_forIn_range']
  simp only [Std.Legacy.Range.size, Nat.sub_zero, Nat.reduceAdd, Nat.reduceSub, Nat.div_one, List.range', List.forIn_cons, List.forIn_nil, Nat.mul_one, Sem.run_bind, hp0, Result.andThen_ok, he]
  cases (a == c)
  · simp only [Bool.not_false, if_true, Sem.run_pure, Result.andThen_ok, Bool.false_and]
  simp only [Bool.not_true, Bool.false_eq_true, if_false, Sem.run_pure, Sem.run_bind, Result.andThen_ok, Bool.true_and, hp1, he]
  cases (b == d)
  · simp only [Bool.not_false, if_true, Sem.run_pure, Result.andThen_ok]
  simp only [Bool.not_true, Bool.false_eq_true, if_false, Sem.run_pure, Result.andThen_ok]
theorem X.eqGuard (op : BinOp) (W : World) (xo yo : Operand) (a b : Array Value) : (eqGuard op 24 xo yo (.agg a) (.agg b)).run Try.prog W = .ok () W := by
  have h : Try.prog.eqGuardType Try.prog.depth 24 = false := by kernel_rfl
  simp [Go.eqGuard, go_sem, h]

set_option maxHeartbeats 1000000 in
set_option maxRecDepth 100000 in
theorem has_any (g : Nat) (D : Nat × Nat → Nat) (S : List (Nat × Nat)) (d : Nat) (w : World) (hM : X.MetAt w g D S) (hd : d ≤ 60) (h0 : ∀ p ∈ S, p.1 ≠ p.2) :
    Calls Try.prog 72 #[.pointer (some ⟨g, 0, none⟩), .int .i64 d] w fun e w' => e = .returned (.bool (X.has D S d)) ∧ w' = w := by
  have q0 := hM.c0 hd
  have q1 := hM.c1 hd
  have HX := hid (X.has_met (D := D) (d := d) h0)
  generalize X.has D S d = r at *
  generalize X.met D S d = m at *
  obtain ⟨x, y⟩ := m
  clear hM h0
  dsimp only at *
  have hdd : (0 : Int) ≤ (d : Int) ∧ (d : Int) < 61 := by omega
  by_cases hxy : x = 0 ∧ y = 0
  · obtain ⟨rfl, rfl⟩ := hxy
    have HR : Hid (r = false) := hid (by
      rcases HX.out with ⟨_, _, h⟩ | ⟨h, _, _⟩
      · exact absurd rfl h
      · exact h)
    have hq := X.eqIn 0 0 0 0 w
    simp only [BEq.rfl, Bool.and_true] at hq
    clear HX
    go_enter Try.func72, Try.ntmps72
    go_wp2
    go_ret
    exact ⟨by rw [HR.out]; rfl, rfl⟩
  · have HR : Hid (r = true) := hid (by
      rcases HX.out with ⟨h, _, _⟩ | ⟨_, _, h⟩
      · exact h
      · exact absurd (Prod.mk.inj h) hxy)
    have hq := X.eqIn (x : Nat) (y : Nat) 0 0 w
    rw [show (((x : Nat) : Int) == 0 && ((y : Nat) : Int) == 0) = false by
      rw [Bool.eq_false_iff]
      intro h
      simp only [Bool.and_eq_true, beq_iff_eq] at h
      exact hxy (by omega)] at hq
    clear HX
    go_enter Try.func72, Try.ntmps72
    go_wp2
    go_ret
    exact ⟨by rw [HR.out]; rfl, rfl⟩
end Go.Proofs.Ythaoacnaeafbeaa
