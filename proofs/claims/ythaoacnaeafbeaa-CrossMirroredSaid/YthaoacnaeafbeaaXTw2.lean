/- Package cross: the walk of Twice. -/
import Derived.Test.YthaoacnaeafbeaaXTwi
namespace Go.Proofs.Ythaoacnaeafbeaa
open Go.RowKit

/-- The two variables that the closure sets. -/
def X.Two (g k : Nat) (r : Option ((Nat × Nat) × (Nat × Nat))) (w : World) : Prop := X.Bx w g (X.o1 r) ∧ X.Bx w k (X.o2 r)
/-- What Twice and Around return. -/
def X.ret2 (r : Option ((Nat × Nat) × (Nat × Nat))) (e : Int) : Value := .tuple #[X.pv (X.o1 r), X.pv (X.o2 r), .int .i64 e]
def X.twV (l : List Int) : Value := if X.chk l = 0 then X.ret2 (X.tw (X.dis l) (X.prs l)) (X.pas (X.o1 (X.tw (X.dis l) (X.prs l))) (X.o2 (X.tw (X.dis l) (X.prs l)))) else X.ret2 none (X.chk l)
theorem X.newTwo (w : World) : ∃ W, (w.alloc (.cells #[.int .i64 0, .int .i64 0] 24)).alloc (.cells #[.int .i64 0, .int .i64 0] 24) = W ∧ X.Two w.heap.size (w.heap.size + 1) none W ∧ Below w.heap.size w W ∧ W.heap.size = w.heap.size + 2 := by
  refine ⟨_, rfl, ⟨(X.Bx.new w 0 0).alloc _, ?_⟩, ((Below.refl _ _).alloc (Nat.le_refl _) _).alloc (by simp) _, by simp⟩
  have := X.Bx.new (w.alloc (.cells #[.int .i64 0, .int .i64 0] 24)) 0 0
  rw [show (w.alloc (.cells #[.int .i64 0, .int .i64 0] 24)).heap.size = w.heap.size + 1 by simp] at this
  exact this

/-- What holds while two results are written back. -/
abbrev X.SS (w0 : World) (g k : Nat) (p q : Nat × Nat) (W : World) : Prop :=
  W.cell? ⟨g, 0, none⟩ = some (.int .i64 (p.1 : Nat)) ∧ W.cell? ⟨g, 1, none⟩ = some (.int .i64 (p.2 : Nat)) ∧ W.cell? ⟨k, 0, none⟩ = some (.int .i64 (q.1 : Nat)) ∧ W.cell? ⟨k, 1, none⟩ = some (.int .i64 (q.2 : Nat)) ∧ (∀ o, W.frozen? ⟨g, o, none⟩ = false) ∧ (∀ o, W.frozen? ⟨k, o, none⟩ = false) ∧ X.Bx W g p ∧ X.Bx W k q ∧ Below w0.heap.size w0 W
theorem X.SS.of {w0 : World} {g k : Nat} {p q : Nat × Nat} {W : World} (h1 : X.Bx W g p) (h2 : X.Bx W k q) (h3 : Below w0.heap.size w0 W) : X.SS w0 g k p q W := ⟨h1.cell0, h1.cell1, h2.cell0, h2.cell1, h1.fz, h2.fz, h1, h2, h3⟩
theorem X.SS.b1 {w0 : World} {g k : Nat} {p q : Nat × Nat} {W : World} (h : X.SS w0 g k p q W) : X.Bx W g p := h.2.2.2.2.2.2.1
theorem X.SS.b2 {w0 : World} {g k : Nat} {p q : Nat × Nat} {W : World} (h : X.SS w0 g k p q W) : X.Bx W k q := h.2.2.2.2.2.2.2.1
theorem X.SS.b3 {w0 : World} {g k : Nat} {p q : Nat × Nat} {W : World} (h : X.SS w0 g k p q W) : Below w0.heap.size w0 W := h.2.2.2.2.2.2.2.2
theorem X.SS.st1 {w0 : World} {g k : Nat} {p q : Nat × Nat} {W : World} (h : X.SS w0 g k p q W) (hg : w0.heap.size ≤ g) (hgk : k ≠ g) : X.SS w0 g k p q ((W.setCell ⟨g, 0, none⟩ (.int .i64 (p.1 : Nat))).setCell ⟨g, 1, none⟩ (.int .i64 (p.2 : Nat))) :=
  .of (h.2.2.2.2.2.2.1.set p) ((h.2.2.2.2.2.2.2.1.off hgk).off hgk) ((h.2.2.2.2.2.2.2.2.setCell hg _).setCell hg _)
theorem X.SS.st2 {w0 : World} {g k : Nat} {p q : Nat × Nat} {W : World} (h : X.SS w0 g k p q W) (hk : w0.heap.size ≤ k) (hgk : g ≠ k) : X.SS w0 g k p q ((W.setCell ⟨k, 0, none⟩ (.int .i64 (q.1 : Nat))).setCell ⟨k, 1, none⟩ (.int .i64 (q.2 : Nat))) :=
  .of ((h.2.2.2.2.2.2.1.off hgk).off hgk) (h.2.2.2.2.2.2.2.1.set q) ((h.2.2.2.2.2.2.2.2.setCell hk _).setCell hk _)
theorem X.SS.go {w0 : World} {g k : Nat} {p q : Nat × Nat} {W W' : World} (h : X.SS w0 g k p q W) (hb : Below W.heap.size W W') : X.SS w0 g k p q W' :=
  .of (h.2.2.2.2.2.2.1.of_block (hb.block _ h.2.2.2.2.2.2.1.lt)) (h.2.2.2.2.2.2.2.1.of_block (hb.block _ h.2.2.2.2.2.2.2.1.lt)) (h.2.2.2.2.2.2.2.2.trans (hb.mono h.2.2.2.2.2.2.2.2.size))
theorem X.SS.drew {w0 : World} {g k : Nat} {p q : Nat × Nat} {W : World} (h : X.SS w0 g k p q W) : X.SS w0 g k p q W.drew := h.go (Below.refl _ _).drew

set_option maxHeartbeats 4000000 in
theorem twice_any (a : Option Addr) (c : Nat) (l : List Int) (w : World) (hm : l.length ≤ maxLen) (hl : RdI w a l) :
    Calls Try.prog 16 #[.slice a l.length c] w fun e w' => e = .returned (X.twV l) ∧ Below w.heap.size w w' := by
  obtain ⟨W, hW, hT, hB, hsz⟩ := X.newTwo w
  have HC := hid (check_any a c l W hm (hl.stays hB))
  have HB := hid hB
  have HT := hid hT
  by_cases h0 : X.chk l = 0
  · have hok := X.chk_zero.1 h0
    have h2 := hok.two
    obtain ⟨b, o, rfl, hc0⟩ := X.num hl (show 0 < l.length by omega)
    have hblt : b < w.heap.size := World.block_lt_of_cell? _ _ hc0
    have HV : Hid (X.twV l = X.ret2 (X.tw (X.dis l) (X.prs l)) (X.pas (X.o1 (X.tw (X.dis l) (X.prs l))) (X.o2 (X.tw (X.dis l) (X.prs l))))) := hid (by unfold X.twV; rw [if_pos h0])
    have HMP := hid (meetPairs_any b o c l 45 #[.pointer (some ⟨w.heap.size, 0, none⟩), .pointer (some ⟨w.heap.size + 1, 0, none⟩)] (fun i => i = w.heap.size ∨ i = w.heap.size + 1) (X.Two w.heap.size (w.heap.size + 1)) W (hl.stays hB) hok (fun k hk => by omega) (by omega) (fun _ _ => rfl)
      (fun r w1 w2 h hs hb => ⟨h.1.of_block (hb.block _ (by omega)), h.2.of_block (hb.block _ (by omega))⟩) hT
      (fun r p q W' h _ => by
        refine (twice1_any w.heap.size (w.heap.size + 1) p q (X.o1 r) (X.o2 r) W' h.1 h.2 (by omega)).mono ?_
        rintro e w' ⟨rfl, h1, h2, h3⟩
        exact ⟨rfl, ⟨h1, h2⟩, h3⟩))
    generalize X.tw (X.dis l) (X.prs l) = t at *
    rw [h0] at HC
    have HP := hid (fun W' => passed_any (X.o1 t) (X.o2 t) W')
    clear hl hok hT hB hc0
    go_enter Try.func16, Try.ntmps16
    go_wp2_with fail
    try rw [hW]
    clear hW
    refine HC.out.mono ?_
    rintro e w2 ⟨rfl, rfl⟩
    go_wp2_with fail
    refine HMP.out.mono ?_
    rintro e w3 ⟨m, rfl, -, -, ⟨hi1, hi2⟩, he3⟩
    have HBE : Hid (Below w.heap.size w w3) := hid (HB.out.trans (he3.below HB.out.size (fun k hk h => by omega)))
    have HB1 := hid hi1
    have HB2 := hid hi2
    clear hi1 hi2 he3
    have HS0 := hid (X.SS.of HB1.out HB2.out HBE.out).drew
    have HRV : Hid (X.twV l = .tuple #[X.pv (X.o1 t), X.pv (X.o2 t), .int .i64 (X.pas (X.o1 t) (X.o2 t))]) := hid (by rw [HV.out]; rfl)
    clear HV
    generalize X.o1 t = p at *
    generalize X.o2 t = q at *
    have f1 := fun o => HB1.out.fz o
    have f2 := fun o => HB2.out.fz o
    obtain ⟨p1, p2⟩ := p
    obtain ⟨q1, q2⟩ := q
    have n1 : ¬ w.heap.size = w.heap.size + 1 := by omega
    have n2 : ¬ w.heap.size + 1 = w.heap.size := by omega
    clear HB1 HB2 HBE HMP HC HB HT
    unfold X.pv at HP HRV
    dsimp only at HP HRV
    go_wp2_with fail
    go_region_held3 (fun W => W.cell? ⟨w.heap.size, 0, none⟩ = some (.int .i64 (p1 : Nat)) ∧ W.cell? ⟨w.heap.size, 1, none⟩ = some (.int .i64 (p2 : Nat)) ∧ W.cell? ⟨w.heap.size + 1, 0, none⟩ = some (.int .i64 (q1 : Nat)) ∧ W.cell? ⟨w.heap.size + 1, 1, none⟩ = some (.int .i64 (q2 : Nat)) ∧ (∀ o, W.frozen? ⟨w.heap.size, o, none⟩ = false) ∧ (∀ o, W.frozen? ⟨w.heap.size + 1, o, none⟩ = false) ∧ X.Bx W w.heap.size (p1, p2) ∧ X.Bx W (w.heap.size + 1) (q1, q2) ∧ Below w.heap.size w W) (first | with_reducible exact HS0.out | with_reducible exact X.SS.st1 (p := (p1, p2)) (q := (q1, q2)) (by assumption) (Nat.le_refl _) n2 | with_reducible exact X.SS.st2 (p := (p1, p2)) (q := (q1, q2)) (by assumption) (Nat.le_succ _) n1 | with_reducible exact X.SS.go (p := (p1, p2)) (q := (q1, q2)) (by assumption) hb4) (first | (go_at_call 46; (with_reducible refine (HP.out _).mono ?_); rintro e w4 ⟨rfl, hb4⟩))
    all_goals (
      go_wp2
      try simp only [Exit.inBlock, Exit.then]
      refine bodyPost_ret (X.res3 rfl _ _ w.heap.size (w.heap.size + 1) (p1, p2) (q1, q2) _ rfl rfl rfl ?h1 ?h2) rfl ⟨?h3, ?h4⟩
      case h1 => first | exact X.SS.b1 (((HS0.out.go hb4).st1 (Nat.le_refl _) n2).st2 (Nat.le_succ _) n1) | exact X.SS.b1 (((HS0.out.st1 (Nat.le_refl _) n2).go hb4).st2 (Nat.le_succ _) n1) | exact X.SS.b1 (((HS0.out.st1 (Nat.le_refl _) n2).st2 (Nat.le_succ _) n1).go hb4)
      case h2 => first | exact X.SS.b2 (((HS0.out.go hb4).st1 (Nat.le_refl _) n2).st2 (Nat.le_succ _) n1) | exact X.SS.b2 (((HS0.out.st1 (Nat.le_refl _) n2).go hb4).st2 (Nat.le_succ _) n1) | exact X.SS.b2 (((HS0.out.st1 (Nat.le_refl _) n2).st2 (Nat.le_succ _) n1).go hb4)
      case h3 => rw [HRV.out]; rfl
      case h4 => first | exact X.SS.b3 (((HS0.out.go hb4).st1 (Nat.le_refl _) n2).st2 (Nat.le_succ _) n1) | exact X.SS.b3 (((HS0.out.st1 (Nat.le_refl _) n2).go hb4).st2 (Nat.le_succ _) n1) | exact X.SS.b3 (((HS0.out.st1 (Nat.le_refl _) n2).st2 (Nat.le_succ _) n1).go hb4))
  · have HRV : Hid (X.twV l = .tuple #[X.pv (X.o1 none), X.pv (X.o2 none), .int .i64 (X.chk l)]) := hid (by unfold X.twV; rw [if_neg h0]; rfl)
    have HSB := hid (X.SS.of HT.out.1 HT.out.2 HB.out)
    have HS0 := hid HSB.out.drew
    generalize X.o1 none = p at *
    generalize X.o2 none = q at *
    obtain ⟨p1, p2⟩ := p
    obtain ⟨q1, q2⟩ := q
    unfold X.pv at HRV
    dsimp only at HRV
    have f1 := fun o => HT.out.1.fz o
    have y0 := HT.out.1.cell0
    have y1 := HT.out.1.cell1
    have y2 := HT.out.2.cell0
    have y3 := HT.out.2.cell1
    have f2 := fun o => HT.out.2.fz o
    have hne : (X.chk l != 0) = true := by rw [bne_iff_ne]; exact h0
    have n1 : ¬ w.heap.size = w.heap.size + 1 := by omega
    have n2 : ¬ w.heap.size + 1 = w.heap.size := by omega
    clear hl hT hB HB HT h0
    generalize X.chk l = z at *
    go_enter Try.func16, Try.ntmps16
    go_wp2_with fail
    try rw [hW]
    clear hW
    refine HC.out.mono ?_
    rintro e w2 ⟨rfl, rfl⟩
    go_wp2_with fail
    go_region_held3 (fun W => W.cell? ⟨w.heap.size, 0, none⟩ = some (.int .i64 (p1 : Nat)) ∧ W.cell? ⟨w.heap.size, 1, none⟩ = some (.int .i64 (p2 : Nat)) ∧ W.cell? ⟨w.heap.size + 1, 0, none⟩ = some (.int .i64 (q1 : Nat)) ∧ W.cell? ⟨w.heap.size + 1, 1, none⟩ = some (.int .i64 (q2 : Nat)) ∧ (∀ o, W.frozen? ⟨w.heap.size, o, none⟩ = false) ∧ (∀ o, W.frozen? ⟨w.heap.size + 1, o, none⟩ = false) ∧ X.Bx W w.heap.size (p1, p2) ∧ X.Bx W (w.heap.size + 1) (q1, q2) ∧ Below w.heap.size w W) (first | with_reducible exact HS0.out | with_reducible exact (HSB.out.st1 (Nat.le_refl _) n2).drew | with_reducible exact (HSB.out.st2 (Nat.le_succ _) n1).drew | with_reducible exact ((HSB.out.st1 (Nat.le_refl _) n2).st2 (Nat.le_succ _) n1).drew | with_reducible exact ((HSB.out.st2 (Nat.le_succ _) n1).st1 (Nat.le_refl _) n2).drew) (fail)
    all_goals (
      go_wp2
      try simp only [Exit.inBlock, Exit.then]
      refine bodyPost_ret (X.res3 rfl _ _ w.heap.size (w.heap.size + 1) (p1, p2) (q1, q2) _ rfl rfl rfl ?h1 ?h2) rfl ⟨?h3, ?h4⟩
      case h1 => first | exact X.SS.b1 (((HSB.out.st1 (Nat.le_refl _) n2).st2 (Nat.le_succ _) n1).drew) | exact X.SS.b1 (((HSB.out.st2 (Nat.le_succ _) n1).st1 (Nat.le_refl _) n2).drew)
      case h2 => first | exact X.SS.b2 (((HSB.out.st1 (Nat.le_refl _) n2).st2 (Nat.le_succ _) n1).drew) | exact X.SS.b2 (((HSB.out.st2 (Nat.le_succ _) n1).st1 (Nat.le_refl _) n2).drew)
      case h3 => rw [HRV.out]; rfl
      case h4 => first | exact X.SS.b3 (((HSB.out.st1 (Nat.le_refl _) n2).st2 (Nat.le_succ _) n1).drew) | exact X.SS.b3 (((HSB.out.st2 (Nat.le_succ _) n1).st1 (Nat.le_refl _) n2).drew))
end Go.Proofs.Ythaoacnaeafbeaa
