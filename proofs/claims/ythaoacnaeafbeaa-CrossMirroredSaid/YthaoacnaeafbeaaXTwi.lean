/- Package cross: the walks of passed, Twice, Around and their closures. -/
import Derived.Test.YthaoacnaeafbeaaXClr
namespace Go.Proofs.Ythaoacnaeafbeaa
open Go.RowKit

/-- A pair in a variable of the call's own. -/
def X.Bx (w : World) (b : Nat) (p : Nat × Nat) : Prop := w.heap[b]? = some (.cells #[.int .i64 (p.1 : Nat), .int .i64 (p.2 : Nat)] 24 (0, 0))
theorem X.Bx.lt {w : World} {b : Nat} {p : Nat × Nat} (h : X.Bx w b p) : b < w.heap.size := (Array.getElem?_eq_some_iff.1 h).1
theorem X.Bx.cell0 {w : World} {b : Nat} {p : Nat × Nat} (h : X.Bx w b p) : w.cell? ⟨b, 0, none⟩ = some (.int .i64 (p.1 : Nat)) := by
  unfold X.Bx at h
  unfold World.cell?
  simp [h]
theorem X.Bx.cell1 {w : World} {b : Nat} {p : Nat × Nat} (h : X.Bx w b p) : w.cell? ⟨b, 1, none⟩ = some (.int .i64 (p.2 : Nat)) := by
  unfold X.Bx at h
  unfold World.cell?
  simp [h]
theorem X.Bx.fz {w : World} {b : Nat} {p : Nat × Nat} (h : X.Bx w b p) (o : Nat) : w.frozen? ⟨b, o, none⟩ = false := by
  unfold X.Bx at h
  unfold World.frozen?
  simp [h]
theorem X.Bx.of_block {w w' : World} {b : Nat} {p : Nat × Nat} (h : X.Bx w b p) (e : w'.heap[b]? = w.heap[b]?) : X.Bx w' b p := e.trans h
theorem X.Bx.set {w : World} {b : Nat} {p : Nat × Nat} (h : X.Bx w b p) (q : Nat × Nat) : X.Bx ((w.setCell ⟨b, 0, none⟩ (.int .i64 (q.1 : Nat))).setCell ⟨b, 1, none⟩ (.int .i64 (q.2 : Nat))) b q := by
  unfold X.Bx at *
  have hlt := (Array.getElem?_eq_some_iff.1 h).1
  have he := (Array.getElem?_eq_some_iff.1 h).2
  unfold World.setCell
  simp [hlt, he, Array.getElem_modify]
theorem X.Bx.new (w : World) (x y : Nat) : X.Bx (w.alloc (.cells #[.int .i64 (x : Nat), .int .i64 (y : Nat)] 24)) w.heap.size (x, y) := heap_alloc_new w _
theorem X.Bx.off {w : World} {b : Nat} {p : Nat × Nat} (h : X.Bx w b p) {g o : Nat} {u : Value} (hg : b ≠ g) : X.Bx (w.setCell ⟨g, o, none⟩ u) b p := h.of_block (Below.heap_setCell _ _ _ _ hg)
theorem X.Bx.alloc {w : World} {b : Nat} {p : Nat × Nat} (h : X.Bx w b p) (o : Obj) : X.Bx (w.alloc o) b p := h.of_block (((Below.refl _ _).alloc (Nat.le_refl _) _).block _ h.lt)

theorem X.res3 {fn : Func} {p q r : Tmp} (h : fn.results = #[.cell p 24, .cell q 24, .tmp r]) (tmps : Array Value) (w : World) (x y : Nat) (s t : Nat × Nat) (v : Value)
    (hp : tmps.getD p undef = .pointer (some ⟨x, 0, none⟩)) (hq : tmps.getD q undef = .pointer (some ⟨y, 0, none⟩)) (hr : tmps.getD r undef = v) (h1 : X.Bx w x s) (h2 : X.Bx w y t) :
    (results fn tmps).run Try.prog w = .ok (.tuple #[X.pv s, X.pv t, v]) w := by
  have hp' : tmps[p]?.getD undef = .pointer (some ⟨x, 0, none⟩) := by simpa using hp
  have hq' : tmps[q]?.getD undef = .pointer (some ⟨y, 0, none⟩) := by simpa using hq
  have hr' : tmps[r]?.getD undef = v := by simpa using hr
  have e1 := run_loadVar_row (P := Try.prog) w x 24 24 #[.int .i64 (s.1 : Nat), .int .i64 (s.2 : Nat)] (0, 0) _ h1 Try.underlying24 rfl (by kernel_rfl)
  have e2 := run_loadVar_row (P := Try.prog) w y 24 24 #[.int .i64 (t.1 : Nat), .int .i64 (t.2 : Nat)] (0, 0) _ h2 Try.underlying24 rfl (by kernel_rfl)
  unfold X.pv
  simp [results, h, hp', hq', hr', asAddr, e1, e2]

/-- The two pairs that are returned, and the error. -/
def X.o1 (r : Option ((Nat × Nat) × (Nat × Nat))) : Nat × Nat := match r with | some x => x.1 | none => (0, 0)
def X.o2 (r : Option ((Nat × Nat) × (Nat × Nat))) : Nat × Nat := match r with | some x => x.2 | none => (0, 0)
def X.pas (p q : Nat × Nat) : Int := if p = q then 5 else 0

set_option maxHeartbeats 1000000 in
theorem passed_any (p q : Nat × Nat) (w : World) :
    Calls Try.prog 46 #[X.pv p, X.pv q] w fun e w' => e = .returned (.int .i64 (X.pas p q)) ∧ Below w.heap.size w w' := by
  obtain ⟨p1, p2⟩ := p
  obtain ⟨q1, q2⟩ := q
  unfold X.pv
  have HB := hid (((Below.refl _ w).alloc (Nat.le_refl _) (.cells #[.int .i64 (p1 : Nat), .int .i64 (p2 : Nat)] 24)).alloc (by simp) (.cells #[.int .i64 (q1 : Nat), .int .i64 (q2 : Nat)] 24))
  have B1 := (X.Bx.new w p1 p2).alloc (.cells #[.int .i64 (q1 : Nat), .int .i64 (q2 : Nat)] 24)
  have B2 := X.Bx.new (w.alloc (.cells #[.int .i64 (p1 : Nat), .int .i64 (p2 : Nat)] 24)) q1 q2
  rw [show (w.alloc (.cells #[.int .i64 (p1 : Nat), .int .i64 (p2 : Nat)] 24)).heap.size = w.heap.size + 1 by simp] at B2
  have y0 := B1.cell0
  have y1 := B1.cell1
  have y2 := B2.cell0
  have y3 := B2.cell1
  clear B1 B2
  have hq := fun W => X.eqIn (p1 : Nat) (p2 : Nat) (q1 : Nat) (q2 : Nat) W
  by_cases he : p1 = q1 ∧ p2 = q2
  · obtain ⟨rfl, rfl⟩ := he
    have HR : Hid (X.pas (p1, p2) (p1, p2) = 5) := hid (by unfold X.pas; rw [if_pos rfl])
    simp only [BEq.rfl, Bool.and_true] at hq
    go_enter Try.func46, Try.ntmps46
    go_wp2
    go_ret
    exact ⟨ret_int HR.out.symm, HB.out⟩
  · have HR : Hid (X.pas (p1, p2) (q1, q2) = 0) := hid (by unfold X.pas; rw [if_neg (fun h => he (Prod.mk.inj h))])
    simp only [show ((p1 : Int) == (q1 : Int) && (p2 : Int) == (q2 : Int)) = false by
      rw [Bool.eq_false_iff]
      intro h
      simp only [Bool.and_eq_true, beq_iff_eq] at h
      exact he ⟨by omega, by omega⟩] at hq
    go_enter Try.func46, Try.ntmps46
    go_wp2
    go_ret
    exact ⟨ret_int HR.out.symm, HB.out⟩

/-- Two pairs lie in two blocks. -/
abbrev X.K4 (b c : Nat) (p q : Nat × Nat) (W : World) : Prop :=
  W.cell? ⟨b, 0, none⟩ = some (.int .i64 (p.1 : Nat)) ∧ W.cell? ⟨b, 1, none⟩ = some (.int .i64 (p.2 : Nat)) ∧ W.cell? ⟨c, 0, none⟩ = some (.int .i64 (q.1 : Nat)) ∧ W.cell? ⟨c, 1, none⟩ = some (.int .i64 (q.2 : Nat))
theorem X.K4.off {b c : Nat} {p q : Nat × Nat} {W : World} (h : X.K4 b c p q W) {g : Nat} (h1 : g ≠ b) (h2 : g ≠ c) (u v : Value) : X.K4 b c p q ((W.setCell ⟨g, 0, none⟩ u).setCell ⟨g, 1, none⟩ v) := by
  have e : ∀ (a : Addr), a.block = b ∨ a.block = c → ((W.setCell ⟨g, 0, none⟩ u).setCell ⟨g, 1, none⟩ v).cell? a = W.cell? a := fun a ha => by
    rw [World.cell?_setCell_far _ _ _ _ (by rcases ha with e | e <;> rw [e] <;> assumption), World.cell?_setCell_far _ _ _ _ (by rcases ha with e | e <;> rw [e] <;> assumption)]
  exact ⟨(e _ (.inl rfl)).trans h.1, (e _ (.inl rfl)).trans h.2.1, (e _ (.inr rfl)).trans h.2.2.1, (e _ (.inr rfl)).trans h.2.2.2⟩
theorem X.K4.drew {b c : Nat} {p q : Nat × Nat} {W : World} (h : X.K4 b c p q W) : X.K4 b c p q W.drew := h

set_option maxHeartbeats 4000000 in
theorem twice1_any (g k : Nat) (p q s t : Nat × Nat) (w : World) (h1 : X.Bx w g s) (h2 : X.Bx w k t) (hgk : g ≠ k) :
    Calls Try.prog 45 (#[X.pv p, X.pv q] ++ #[.pointer (some ⟨g, 0, none⟩), .pointer (some ⟨k, 0, none⟩)]) w fun e w' => e = .returned (.tuple #[]) ∧ X.Bx w' g p ∧ X.Bx w' k q ∧ X.Exc (fun i => i = g ∨ i = k) w w' := by
  obtain ⟨p1, p2⟩ := p
  obtain ⟨q1, q2⟩ := q
  show Calls Try.prog 45 #[.agg #[.int .i64 (p1 : Nat), .int .i64 (p2 : Nat)], .agg #[.int .i64 (q1 : Nat), .int .i64 (q2 : Nat)], .pointer (some ⟨g, 0, none⟩), .pointer (some ⟨k, 0, none⟩)] w _
  have hg := h1.lt
  have hk := h2.lt
  have HE := hid (((X.Exc.refl (fun i => i = g ∨ i = k) w).alloc (.cells #[.int .i64 (p1 : Nat), .int .i64 (p2 : Nat)] 24)).alloc (.cells #[.int .i64 (q1 : Nat), .int .i64 (q2 : Nat)] 24))
  have HS := hid ((h1.alloc (.cells #[.int .i64 (p1 : Nat), .int .i64 (p2 : Nat)] 24)).alloc (.cells #[.int .i64 (q1 : Nat), .int .i64 (q2 : Nat)] 24))
  have HT := hid ((h2.alloc (.cells #[.int .i64 (p1 : Nat), .int .i64 (p2 : Nat)] 24)).alloc (.cells #[.int .i64 (q1 : Nat), .int .i64 (q2 : Nat)] 24))
  have B1 := (X.Bx.new w p1 p2).alloc (.cells #[.int .i64 (q1 : Nat), .int .i64 (q2 : Nat)] 24)
  have B2 := X.Bx.new (w.alloc (.cells #[.int .i64 (p1 : Nat), .int .i64 (p2 : Nat)] 24)) q1 q2
  rw [show (w.alloc (.cells #[.int .i64 (p1 : Nat), .int .i64 (p2 : Nat)] 24)).heap.size = w.heap.size + 1 by simp] at B2
  obtain ⟨W, hW⟩ : ∃ W, (w.alloc (.cells #[.int .i64 (p1 : Nat), .int .i64 (p2 : Nat)] 24)).alloc (.cells #[.int .i64 (q1 : Nat), .int .i64 (q2 : Nat)] 24) = W := ⟨_, rfl⟩
  rw [hW] at HS HT HE B1 B2
  have y0 := B1.cell0
  have y1 := B1.cell1
  have y2 := B2.cell0
  have y3 := B2.cell1
  have f0 := HS.out.fz
  have f1 := HT.out.fz
  have z0 := HS.out.cell0
  have z1 := HS.out.cell1
  have z2 := HT.out.cell0
  have z3 := HT.out.cell1
  clear h1 h2 B1 B2
  have n1 : ¬ g = k := hgk
  have n2 : ¬ k = g := fun h => hgk h.symm
  go_enter Try.func45, Try.ntmps45
  go_wp2_with fail
  try rw [hW]
  clear hW
  have HK0 : Hid (X.K4 w.heap.size (w.heap.size + 1) (p1, p2) (q1, q2) W) := hid ⟨y0, y1, y2, y3⟩
  have n3' : g ≠ w.heap.size := by omega
  have n4' : k ≠ w.heap.size := by omega
  have n5' : g ≠ w.heap.size + 1 := by omega
  have n6' : k ≠ w.heap.size + 1 := by omega
  go_region_held3 (fun W => W.cell? ⟨w.heap.size, 0, none⟩ = some (.int .i64 (p1 : Nat)) ∧ W.cell? ⟨w.heap.size, 1, none⟩ = some (.int .i64 (p2 : Nat)) ∧ W.cell? ⟨w.heap.size + 1, 0, none⟩ = some (.int .i64 (q1 : Nat)) ∧ W.cell? ⟨w.heap.size + 1, 1, none⟩ = some (.int .i64 (q2 : Nat))) (first | with_reducible exact HK0.out.drew | with_reducible exact (HK0.out.off (g := g) n3' n5' _ _).drew | with_reducible exact (HK0.out.off (g := k) n4' n6' _ _).drew | with_reducible exact ((HK0.out.off (g := g) n3' n5' _ _).off (g := k) n4' n6' _ _).drew | with_reducible exact ((HK0.out.off (g := k) n4' n6' _ _).off (g := g) n3' n5' _ _).drew) (fail)
  all_goals (
    go_wp2
    go_end0
    first
    | exact ⟨rfl, (HS.out.set (p1, p2)).off n1 |>.off n1, ((HT.out.off n2).off n2).set (q1, q2), ((((HE.out.set (fun _ => .inl rfl) _ _).set (fun _ => .inl rfl) _ _).set (fun _ => .inr rfl) _ _).set (fun _ => .inr rfl) _ _).drew⟩
    | exact ⟨rfl, ((HS.out.off n1).off n1).set (p1, p2), (HT.out.set (q1, q2)).off n2 |>.off n2, ((((HE.out.set (fun _ => .inr rfl) _ _).set (fun _ => .inr rfl) _ _).set (fun _ => .inl rfl) _ _).set (fun _ => .inl rfl) _ _).drew⟩)
set_option maxHeartbeats 4000000 in
theorem around1_any (g k : Nat) (p q s t : Nat × Nat) (w : World) (h1 : X.Bx w g s) (h2 : X.Bx w k t) (hgk : g ≠ k) :
    Calls Try.prog 68 (#[X.pv p, X.pv q] ++ #[.pointer (some ⟨g, 0, none⟩), .pointer (some ⟨k, 0, none⟩)]) w fun e w' => e = .returned (.tuple #[]) ∧ X.Bx w' g p ∧ X.Bx w' k q ∧ X.Exc (fun i => i = g ∨ i = k) w w' := by
  obtain ⟨p1, p2⟩ := p
  obtain ⟨q1, q2⟩ := q
  show Calls Try.prog 68 #[.agg #[.int .i64 (p1 : Nat), .int .i64 (p2 : Nat)], .agg #[.int .i64 (q1 : Nat), .int .i64 (q2 : Nat)], .pointer (some ⟨g, 0, none⟩), .pointer (some ⟨k, 0, none⟩)] w _
  have hg := h1.lt
  have hk := h2.lt
  have HE := hid (((X.Exc.refl (fun i => i = g ∨ i = k) w).alloc (.cells #[.int .i64 (p1 : Nat), .int .i64 (p2 : Nat)] 24)).alloc (.cells #[.int .i64 (q1 : Nat), .int .i64 (q2 : Nat)] 24))
  have HS := hid ((h1.alloc (.cells #[.int .i64 (p1 : Nat), .int .i64 (p2 : Nat)] 24)).alloc (.cells #[.int .i64 (q1 : Nat), .int .i64 (q2 : Nat)] 24))
  have HT := hid ((h2.alloc (.cells #[.int .i64 (p1 : Nat), .int .i64 (p2 : Nat)] 24)).alloc (.cells #[.int .i64 (q1 : Nat), .int .i64 (q2 : Nat)] 24))
  have B1 := (X.Bx.new w p1 p2).alloc (.cells #[.int .i64 (q1 : Nat), .int .i64 (q2 : Nat)] 24)
  have B2 := X.Bx.new (w.alloc (.cells #[.int .i64 (p1 : Nat), .int .i64 (p2 : Nat)] 24)) q1 q2
  rw [show (w.alloc (.cells #[.int .i64 (p1 : Nat), .int .i64 (p2 : Nat)] 24)).heap.size = w.heap.size + 1 by simp] at B2
  obtain ⟨W, hW⟩ : ∃ W, (w.alloc (.cells #[.int .i64 (p1 : Nat), .int .i64 (p2 : Nat)] 24)).alloc (.cells #[.int .i64 (q1 : Nat), .int .i64 (q2 : Nat)] 24) = W := ⟨_, rfl⟩
  rw [hW] at HS HT HE B1 B2
  have y0 := B1.cell0
  have y1 := B1.cell1
  have y2 := B2.cell0
  have y3 := B2.cell1
  have f0 := HS.out.fz
  have f1 := HT.out.fz
  have z0 := HS.out.cell0
  have z1 := HS.out.cell1
  have z2 := HT.out.cell0
  have z3 := HT.out.cell1
  clear h1 h2 B1 B2
  have n1 : ¬ g = k := hgk
  have n2 : ¬ k = g := fun h => hgk h.symm
  go_enter Try.func68, Try.ntmps68
  go_wp2_with fail
  try rw [hW]
  clear hW
  have HK0 : Hid (X.K4 w.heap.size (w.heap.size + 1) (p1, p2) (q1, q2) W) := hid ⟨y0, y1, y2, y3⟩
  have n3' : g ≠ w.heap.size := by omega
  have n4' : k ≠ w.heap.size := by omega
  have n5' : g ≠ w.heap.size + 1 := by omega
  have n6' : k ≠ w.heap.size + 1 := by omega
  go_region_held3 (fun W => W.cell? ⟨w.heap.size, 0, none⟩ = some (.int .i64 (p1 : Nat)) ∧ W.cell? ⟨w.heap.size, 1, none⟩ = some (.int .i64 (p2 : Nat)) ∧ W.cell? ⟨w.heap.size + 1, 0, none⟩ = some (.int .i64 (q1 : Nat)) ∧ W.cell? ⟨w.heap.size + 1, 1, none⟩ = some (.int .i64 (q2 : Nat))) (first | with_reducible exact HK0.out.drew | with_reducible exact (HK0.out.off (g := g) n3' n5' _ _).drew | with_reducible exact (HK0.out.off (g := k) n4' n6' _ _).drew | with_reducible exact ((HK0.out.off (g := g) n3' n5' _ _).off (g := k) n4' n6' _ _).drew | with_reducible exact ((HK0.out.off (g := k) n4' n6' _ _).off (g := g) n3' n5' _ _).drew) (fail)
  all_goals (
    go_wp2
    go_end0
    first
    | exact ⟨rfl, (HS.out.set (p1, p2)).off n1 |>.off n1, ((HT.out.off n2).off n2).set (q1, q2), ((((HE.out.set (fun _ => .inl rfl) _ _).set (fun _ => .inl rfl) _ _).set (fun _ => .inr rfl) _ _).set (fun _ => .inr rfl) _ _).drew⟩
    | exact ⟨rfl, ((HS.out.off n1).off n1).set (p1, p2), (HT.out.set (q1, q2)).off n2 |>.off n2, ((((HE.out.set (fun _ => .inr rfl) _ _).set (fun _ => .inr rfl) _ _).set (fun _ => .inl rfl) _ _).set (fun _ => .inl rfl) _ _).drew⟩)
end Go.Proofs.Ythaoacnaeafbeaa
