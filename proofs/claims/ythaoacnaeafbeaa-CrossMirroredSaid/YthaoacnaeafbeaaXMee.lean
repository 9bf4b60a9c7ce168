/- Package cross: the walk of meet. -/
import Derived.Test.YthaoacnaeafbeaaXMet
import Derived.BigRegion
import Derived.RegionTactic
import Derived.Deep.RegionHeld3
namespace Go.Proofs.Ythaoacnaeafbeaa
open Go.RowKit

theorem X.newPair (w : World) (a b : Int) : ∃ W, w.alloc (.cells #[.int .i64 a, .int .i64 b] 24) = W ∧ W.cell? ⟨w.heap.size, 0, none⟩ = some (.int .i64 a) ∧ W.cell? ⟨w.heap.size, 1, none⟩ = some (.int .i64 b) ∧ Below w.heap.size w W ∧ w.heap.size < W.heap.size :=
  ⟨_, rfl, by rw [World.cell?_alloc_at _ _ _ _ rfl]; rfl, by rw [World.cell?_alloc_at _ _ _ _ rfl]; rfl, (Below.refl _ _).alloc (Nat.le_refl _) _, by simp⟩

set_option maxHeartbeats 4000000 in
set_option maxRecDepth 100000 in
theorem meet_new (g : Nat) (D : Nat × Nat → Nat) (S : List (Nat × Nat)) (p : Nat × Nat) (d : Nat) (fv : Value) (w : World) (hM : X.MetAt w g D S) (hd : d ≤ 60) (hD : D p = d) (h0 : ∀ p ∈ S, p.1 ≠ p.2) (hn : X.has D S d = false) :
    Calls Try.prog 70 #[.pointer (some ⟨g, 0, none⟩), X.pv p, .int .i64 d, fv] w fun e w' => e = .returned (.tuple #[]) ∧ X.MetAt w' g D (p :: S) ∧ X.Exc (· = g) w w' := by
  obtain ⟨p1, p2⟩ := p
  unfold X.pv
  dsimp only at *
  have hglt : g < w.heap.size := World.rowIs.lt hM
  obtain ⟨W, hW, k0, k1, hB, hlt⟩ := X.newPair w p1 p2
  have HM : Hid (X.MetAt W g D S) := hid (World.rowIs.of_block hM (hB.block _ hglt))
  have HH := hid (has_any g D S d W HM.out hd h0)
  rw [hn] at HH
  have q0 := HM.out.c0 hd
  have q1 := HM.out.c1 hd
  have f0 : ∀ k, W.frozen? ⟨g, k, none⟩ = false := fun k => World.rowIs.frozen HM.out k
  have hne : ¬ w.heap.size = g := by omega
  have hne2 : ¬ g = w.heap.size := by omega
  have HE := hid (X.Exc.of (G := (· = g)) hB)
  have HP := hid (HM.out.put (p1, p2) hD)
  have hdd : (0 : Int) ≤ (d : Int) ∧ (d : Int) < 61 := by omega
  generalize X.met D S d = m at *
  clear hM h0 hB hn
  go_enter Try.func70, Try.ntmps70
  go_wp2_with fail
  rw [hW] at *
  refine HH.out.mono ?_
  rintro e w2 ⟨rfl, rfl⟩
  go_wp2
  go_region
  all_goals (
    go_wp2
    go_end0
    exact ⟨rfl, HP.out, ((HE.out.set (fun _ => rfl) _ _).set (fun _ => rfl) _ _).drew⟩)

set_option maxHeartbeats 4000000 in
set_option maxRecDepth 100000 in
theorem meet_again (g : Nat) (D : Nat × Nat → Nat) (S : List (Nat × Nat)) (p : Nat × Nat) (d : Nat) (fn : FuncId) (cs : Array Value) (G : Nat → Prop) (Q : World → Prop) (w : World) (hM : X.MetAt w g D S) (hd : d ≤ 60) (hD : D p = d) (h0 : ∀ p ∈ S, p.1 ≠ p.2) (hn : X.has D S d = true) (hg : ¬ G g) (hgb : ∀ k, G k → k < w.heap.size)
    (hcf : ∀ args w, (callFunc fn args).run Try.prog w = .ok (.enter fn args) w)
    (hQ : ∀ w1 w2, Q w1 → X.Exc (· = g) w1 w2 → Q w2)
    (hpass : ∀ W, Below w.heap.size w W → Calls Try.prog fn (#[X.pv p, X.pv (X.met D S d)] ++ cs) W fun e w' => e = .returned (.tuple #[]) ∧ Q w' ∧ X.Exc G W w') :
    Calls Try.prog 70 #[.pointer (some ⟨g, 0, none⟩), X.pv p, .int .i64 d, .func (.func fn) #[] cs] w fun e w' => e = .returned (.tuple #[]) ∧ X.MetAt w' g D (p :: S) ∧ Q w' ∧ X.Exc (fun k => k = g ∨ G k) w w' := by
  obtain ⟨p1, p2⟩ := p
  unfold X.pv at *
  dsimp only at *
  have hglt : g < w.heap.size := World.rowIs.lt hM
  obtain ⟨W, hW, k0, k1, hB, hlt⟩ := X.newPair w p1 p2
  have HM : Hid (X.MetAt W g D S) := hid (World.rowIs.of_block hM (hB.block _ hglt))
  have HH := hid (has_any g D S d W HM.out hd h0)
  rw [hn] at HH
  have q0 := HM.out.c0 hd
  have q1 := HM.out.c1 hd
  have HGB := hid (fun h => Nat.lt_irrefl _ (hgb w.heap.size h))
  have HPA := hid hpass
  have HQ := hid hQ
  have HB := hid hB
  have HG := hid hg
  have HD := hid hD
  generalize X.met D S d = m at *
  obtain ⟨m1, m2⟩ := m
  dsimp only at *
  have hdd : (0 : Int) ≤ (d : Int) ∧ (d : Int) < 61 := by omega
  clear hM h0 hB hn hpass hQ hg hD hgb
  go_enter Try.func70, Try.ntmps70
  go_wp2_with fail
  rw [hW] at *
  refine HH.out.mono ?_
  rintro e w2 ⟨rfl, rfl⟩
  go_wp2_with fail
  go_region_held3 (fun W => W.cell? ⟨w.heap.size, 0, none⟩ = some (.int .i64 (p1 : Nat)) ∧ W.cell? ⟨w.heap.size, 1, none⟩ = some (.int .i64 (p2 : Nat)) ∧ W.cell? ⟨g, d * 2, none⟩ = some (.int .i64 (m1 : Nat)) ∧ W.cell? ⟨g, d * 2 + 1, none⟩ = some (.int .i64 (m2 : Nat))) (first | exact ⟨z0, z1, z2, z3⟩ | exact ⟨k0, k1, q0, q1⟩ | go_keep) (first | ((with_reducible refine (HPA.out _ HB.out.drew).mono ?_); rintro e w3 ⟨rfl, hq3, he3⟩; have z0 := he3.cell (p := ⟨w.heap.size, 0, none⟩) k0 HGB.out; have z1 := he3.cell (p := ⟨w.heap.size, 1, none⟩) k1 HGB.out; have z2 := he3.cell (p := ⟨g, d * 2, none⟩) q0 HG.out; have z3 := he3.cell (p := ⟨g, d * 2 + 1, none⟩) q1 HG.out))
  have HM3 := hid (he3.row HM.out HG.out)
  have HP := hid (X.MetAt.put (w := w3) HM3.out (p1, p2) HD.out)
  have f0 : ∀ k, w3.frozen? ⟨g, k, none⟩ = false := fun k => World.rowIs.frozen HM3.out k
  have HE3 := hid ((X.Exc.of (G := fun k => k = g ∨ G k) HB.out).trans (((X.Exc.refl _ _).drew.trans he3).mono (fun k _ h => .inr h)))
  have HQ3 := hid hq3
  clear hq3 he3 k0 k1 q0 q1
  go_wp2
  go_region
  all_goals (
    go_wp2
    go_end0
    exact ⟨rfl, HP.out, HQ.out _ _ HQ3.out (((X.Exc.refl (fun k => k = g) w3).set (fun _ => rfl) _ _).set (fun _ => rfl) _ _).drew, ((HE3.out.set (fun _ => .inl rfl) _ _).set (fun _ => .inl rfl) _ _).drew⟩)
end Go.Proofs.Ythaoacnaeafbeaa
