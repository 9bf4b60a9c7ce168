/- Package tuscheref11: the walk of Around. -/
import Derived.Test.YthaoacnaeafbeaaXRTw
import Derived.Test.YthaoacnaeafbeaaXAro
import Derived.Test.YthaoacnaeafbeaaXTw3
namespace Go.Proofs.Ythaoacnaeafbeaa
open Go.RowKit

set_option maxHeartbeats 8000000 in
set_option maxRecDepth 100000 in
theorem refAround_any (a : Option Addr) (c : Nat) (l : List Int) (sz : Int) (w : World) (hm : l.length ≤ maxLen) (hl : RdI w a l) :
    Calls Try.prog 38 #[.slice a l.length c, .int .i64 sz] w fun e w' => e = .returned (X.arV l sz) ∧ Below w.heap.size w w' := by
  obtain ⟨W, hW, hT, hB, hsz⟩ := X.newTwo w
  have HC := hid (refCheck_any a c l W hm (hl.stays hB))
  have HWI := hid (fun W => is_any sz 2 40 W)
  have HB := hid hB
  have HT := hid hT
  have HL := hid (hl.stays hB)
  by_cases h0 : X.chk l = 0
  · have hok := X.chk_zero.1 h0
    have h8 := hok.eight
    have h2 := hok.two
    obtain ⟨b, o, ha, _⟩ := X.num HL.out (show 0 < l.length by omega)
    subst ha
    obtain ⟨b', o', he1, hcz⟩ := X.num HL.out (show l.length - 1 < l.length by omega)
    simp only [Option.some.injEq, Addr.mk.injEq, and_true] at he1
    obtain ⟨rfl, rfl⟩ := he1
    have hk2 : ((l.length - 1 : Nat) : Int) = (l.length : Int) - 1 := by omega
    have hk3 : (0 : Int) ≤ (l.length : Int) - 1 ∧ (l.length : Int) - 1 < (l.length : Int) := by omega
    have hk4 : ((l.length : Int) - 1).toNat = l.length - 1 := by omega
    by_cases hsA : X.fit l sz
    · have hsA' := hsA
      obtain ⟨hs1, hs2, hs3⟩ := hsA'
      have hsl := X.fit_all hok hs3
      rw [X.wi_true.2 ⟨hs1, hs2⟩] at HWI
      have hge3 : ¬ sz ≤ l.getD (l.length - 1) 0 := by omega
      have hge4 : decide (sz ≤ l.getD (l.length - 1) 0) = false := by simpa using hge3
      have HV : Hid (X.arV l sz = X.ret2 (X.tw (X.wy l sz) (X.arr l)) (if (X.tw (X.wy l sz) (X.arr l)).isSome = true then 0 else 5)) := hid (by unfold X.arV; rw [if_pos h0, if_pos hsA, X.pas_eq (D := X.wy l sz) (ok := X.ne) (n := l.length) (X.tw (X.wy l sz) (X.arr l)) rfl])
      have HPA := hid (fun W' (h : Below W.heap.size W W') => arrows_any (some ⟨b, o, none⟩) c l sz W' (HL.out.stays h) hok hs1 hs2 hsl)
      have hpl : (X.arr l).length ≤ 1000 := by
        unfold X.arr
        rw [← X.fr_from]
        have := X.fr_len X.ne l.length l.length
        have : l.length * l.length ≤ 8 * 8 := Nat.mul_le_mul h8 h8
        omega
      have HRE := hid (fun x y cx cy W' h1 h2 => repeated_any x y cx cy (X.wy l sz) (X.arr l) W' hpl h1 h2)
      rw [h0] at HC
      have HCL := hid (fun W' (h : Below W.heap.size W W') => cell_stays h (Nat.le_refl _) hcz)
      clear hl hok hT hB hpl h0 hsl hs3 hsA hcz
      generalize l.getD (l.length - 1) 0 = zz at *
      go_enter Try.func38, Try.ntmps38
      go_wp2_with fail
      try rw [hW]
      clear hW
      refine HC.out.mono ?_
      rintro e W1 ⟨rfl, hb1⟩
      have HB1 := hid hb1
      clear hb1
      have hc1 := HCL.out W1 HB1.out
      go_wp2_with fail
      refine (HWI.out _).mono ?_
      rintro e W9 ⟨rfl, rfl⟩
      go_wp2_with fail
      refine (HPA.out _ HB1.out).mono ?_
      rintro e W2 ⟨x, cx, y, cy, rfl, hx, hy, hb2⟩
      have HX := hid hx
      have HY := hid hy
      have HB2 := hid (HB1.out.trans (hb2.mono HB1.out.size))
      clear hx hy hb2 hc1
      go_wp2_with fail
      refine (HRE.out x y cx cy W2 HX.out HY.out).mono ?_
      rintro e W3 ⟨rfl, hb3⟩
      have HB3 := hid (HB2.out.trans (hb3.mono HB2.out.size))
      clear hb3
      obtain ⟨W4, hW4, hT4, hB4, hsz4⟩ := X.newTwo W3
      have HB4 := hid (HB3.out.trans (hB4.mono HB3.out.size))
      have HA1 : Hid (X.Bx W4 w.heap.size (X.o1 none)) := hid (HT.out.1.of_block (HB4.out.block _ (by omega)))
      have HA2 : Hid (X.Bx W4 (w.heap.size + 1) (X.o2 none)) := hid (HT.out.2.of_block (HB4.out.block _ (by omega)))
      have HBW4 := hid (HB.out.trans (HB4.out.mono HB.out.size))
      have HZ1 := hid hT4.1
      have HZ2 := hid hT4.2
      generalize X.o1 none = z1 at *
      generalize X.o2 none = z2 at *
      have y0 := HZ1.out.cell0
      have y1 := HZ1.out.cell1
      have y2 := HZ2.out.cell0
      have y3 := HZ2.out.cell1
      have f0 := HZ1.out.fz
      have f1 := HZ2.out.fz
      have HS3 := HB3.out.size
      have n1 : ¬ W3.heap.size = W3.heap.size + 1 := by omega
      have n2 : ¬ W3.heap.size + 1 = W3.heap.size := by omega
      have n3 : ¬ w.heap.size = w.heap.size + 1 := by omega
      have n4 : ¬ w.heap.size + 1 = w.heap.size := by omega
      have m1 : w.heap.size ≠ W3.heap.size := by omega
      have m2 : w.heap.size + 1 ≠ W3.heap.size := by omega
      have m3 : w.heap.size ≠ W3.heap.size + 1 := by omega
      have m4 : w.heap.size + 1 ≠ W3.heap.size + 1 := by omega
      clear hT4 hB4
      cases htw : (X.tw (X.wy l sz) (X.arr l)).isSome with
      | false =>
        have HRV : Hid (X.arV l sz = .tuple #[X.pv (X.o1 (X.tw (X.wy l sz) (X.arr l))), X.pv (X.o2 (X.tw (X.wy l sz) (X.arr l))), .int .i64 5]) := hid (by rw [HV.out, if_neg (by rw [htw]; simp)]; rfl)
        generalize X.o1 (X.tw (X.wy l sz) (X.arr l)) = p at *
        generalize X.o2 (X.tw (X.wy l sz) (X.arr l)) = r at *
        obtain ⟨p1, p2⟩ := p
        obtain ⟨r1, r2⟩ := r
        have HP1 := hid (((HZ1.out.set (p1, p2)).off (g := W3.heap.size + 1) (o := 0) (u := .int .i64 (r1 : Nat)) n1).off (g := W3.heap.size + 1) (o := 1) (u := .int .i64 (r2 : Nat)) n1)
        have HP2 := hid (X.Bx.set ((HZ2.out.off (g := W3.heap.size) (o := 0) (u := .int .i64 (p1 : Nat)) n2).off (g := W3.heap.size) (o := 1) (u := .int .i64 (p2 : Nat)) n2) (r1, r2))
        have HQ1 := hid ((((HA1.out.off (g := W3.heap.size) (o := 0) (u := .int .i64 (p1 : Nat)) m1).off (g := W3.heap.size) (o := 1) (u := .int .i64 (p2 : Nat)) m1).off (g := W3.heap.size + 1) (o := 0) (u := .int .i64 (r1 : Nat)) m3).off (g := W3.heap.size + 1) (o := 1) (u := .int .i64 (r2 : Nat)) m3)
        have HQ2 := hid ((((HA2.out.off (g := W3.heap.size) (o := 0) (u := .int .i64 (p1 : Nat)) m2).off (g := W3.heap.size) (o := 1) (u := .int .i64 (p2 : Nat)) m2).off (g := W3.heap.size + 1) (o := 0) (u := .int .i64 (r1 : Nat)) m4).off (g := W3.heap.size + 1) (o := 1) (u := .int .i64 (r2 : Nat)) m4)
        have HBQ := hid ((((HBW4.out.setCell (p := ⟨W3.heap.size, 0, none⟩) (by show w.heap.size ≤ W3.heap.size; omega) (.int .i64 (p1 : Nat))).setCell (p := ⟨W3.heap.size, 1, none⟩) (by show w.heap.size ≤ W3.heap.size; omega) (.int .i64 (p2 : Nat))).setCell (p := ⟨W3.heap.size + 1, 0, none⟩) (by show w.heap.size ≤ W3.heap.size + 1; omega) (.int .i64 (r1 : Nat))).setCell (p := ⟨W3.heap.size + 1, 1, none⟩) (by show w.heap.size ≤ W3.heap.size + 1; omega) (.int .i64 (r2 : Nat)))
        unfold X.pv at HRV ⊢
        dsimp only at HP1 HP2 HQ1 HQ2 HBQ HRV ⊢
        go_wp2_with fail
        try rw [hW4]
        clear hW4
        generalize (((W4.setCell ⟨W3.heap.size, 0, none⟩ (.int .i64 (p1 : Nat))).setCell ⟨W3.heap.size, 1, none⟩ (.int .i64 (p2 : Nat))).setCell ⟨W3.heap.size + 1, 0, none⟩ (.int .i64 (r1 : Nat))).setCell ⟨W3.heap.size + 1, 1, none⟩ (.int .i64 (r2 : Nat)) = W5 at *
        have HK5 : Hid (X.K4 W3.heap.size (W3.heap.size + 1) (p1, p2) (r1, r2) W5) := hid ⟨HP1.out.cell0, HP1.out.cell1, HP2.out.cell0, HP2.out.cell1⟩
        have g0 := HQ1.out.cell0
        have g1 := HQ1.out.cell1
        have g2 := HQ2.out.cell0
        have g3 := HQ2.out.cell1
        have e0 := HQ1.out.fz
        have e1 := HQ2.out.fz
        clear y0 y1 y2 y3 f0 f1
        go_region_held3 (fun W => W.cell? ⟨W3.heap.size, 0, none⟩ = some (.int .i64 (p1 : Nat)) ∧ W.cell? ⟨W3.heap.size, 1, none⟩ = some (.int .i64 (p2 : Nat)) ∧ W.cell? ⟨W3.heap.size + 1, 0, none⟩ = some (.int .i64 (r1 : Nat)) ∧ W.cell? ⟨W3.heap.size + 1, 1, none⟩ = some (.int .i64 (r2 : Nat))) (first | with_reducible exact HK5.out.drew | with_reducible exact (HK5.out.off (g := w.heap.size) m1 m3 _ _).drew | with_reducible exact (HK5.out.off (g := w.heap.size + 1) m2 m4 _ _).drew | with_reducible exact ((HK5.out.off (g := w.heap.size) m1 m3 _ _).off (g := w.heap.size + 1) m2 m4 _ _).drew | with_reducible exact ((HK5.out.off (g := w.heap.size + 1) m2 m4 _ _).off (g := w.heap.size) m1 m3 _ _).drew) (fail)
        all_goals (
          go_wp2
          try simp only [Exit.inBlock, Exit.then]
          refine bodyPost_ret (X.res3 rfl _ _ w.heap.size (w.heap.size + 1) (p1, p2) (r1, r2) _ rfl rfl rfl ?h1 ?h2) rfl ⟨?h3, ?h4⟩
          case h1 => first | exact ((HQ1.out.set (p1, p2)).off n3).off n3 | exact ((HQ1.out.off n3).off n3).set (p1, p2)
          case h2 => first | exact ((HQ2.out.off n4).off n4).set (r1, r2) | exact ((HQ2.out.set (r1, r2)).off n4).off n4
          case h3 => rw [HRV.out]; rfl
          case h4 => first | exact ((((HBQ.out.setCell (p := ⟨w.heap.size, 0, none⟩) (Nat.le_refl _) _).setCell (p := ⟨w.heap.size, 1, none⟩) (Nat.le_refl _) _).setCell (p := ⟨w.heap.size + 1, 0, none⟩) (Nat.le_succ _) _).setCell (p := ⟨w.heap.size + 1, 1, none⟩) (Nat.le_succ _) _).drew | exact ((((HBQ.out.setCell (p := ⟨w.heap.size + 1, 0, none⟩) (Nat.le_succ _) _).setCell (p := ⟨w.heap.size + 1, 1, none⟩) (Nat.le_succ _) _).setCell (p := ⟨w.heap.size, 0, none⟩) (Nat.le_refl _) _).setCell (p := ⟨w.heap.size, 1, none⟩) (Nat.le_refl _) _).drew)
      | true =>
        have HRV : Hid (X.arV l sz = .tuple #[X.pv (X.o1 (X.tw (X.wy l sz) (X.arr l))), X.pv (X.o2 (X.tw (X.wy l sz) (X.arr l))), .int .i64 0]) := hid (by rw [HV.out, if_pos htw]; rfl)
        generalize X.o1 (X.tw (X.wy l sz) (X.arr l)) = p at *
        generalize X.o2 (X.tw (X.wy l sz) (X.arr l)) = r at *
        obtain ⟨p1, p2⟩ := p
        obtain ⟨r1, r2⟩ := r
        have HP1 := hid (((HZ1.out.set (p1, p2)).off (g := W3.heap.size + 1) (o := 0) (u := .int .i64 (r1 : Nat)) n1).off (g := W3.heap.size + 1) (o := 1) (u := .int .i64 (r2 : Nat)) n1)
        have HP2 := hid (X.Bx.set ((HZ2.out.off (g := W3.heap.size) (o := 0) (u := .int .i64 (p1 : Nat)) n2).off (g := W3.heap.size) (o := 1) (u := .int .i64 (p2 : Nat)) n2) (r1, r2))
        have HQ1 := hid ((((HA1.out.off (g := W3.heap.size) (o := 0) (u := .int .i64 (p1 : Nat)) m1).off (g := W3.heap.size) (o := 1) (u := .int .i64 (p2 : Nat)) m1).off (g := W3.heap.size + 1) (o := 0) (u := .int .i64 (r1 : Nat)) m3).off (g := W3.heap.size + 1) (o := 1) (u := .int .i64 (r2 : Nat)) m3)
        have HQ2 := hid ((((HA2.out.off (g := W3.heap.size) (o := 0) (u := .int .i64 (p1 : Nat)) m2).off (g := W3.heap.size) (o := 1) (u := .int .i64 (p2 : Nat)) m2).off (g := W3.heap.size + 1) (o := 0) (u := .int .i64 (r1 : Nat)) m4).off (g := W3.heap.size + 1) (o := 1) (u := .int .i64 (r2 : Nat)) m4)
        have HBQ := hid ((((HBW4.out.setCell (p := ⟨W3.heap.size, 0, none⟩) (by show w.heap.size ≤ W3.heap.size; omega) (.int .i64 (p1 : Nat))).setCell (p := ⟨W3.heap.size, 1, none⟩) (by show w.heap.size ≤ W3.heap.size; omega) (.int .i64 (p2 : Nat))).setCell (p := ⟨W3.heap.size + 1, 0, none⟩) (by show w.heap.size ≤ W3.heap.size + 1; omega) (.int .i64 (r1 : Nat))).setCell (p := ⟨W3.heap.size + 1, 1, none⟩) (by show w.heap.size ≤ W3.heap.size + 1; omega) (.int .i64 (r2 : Nat)))
        unfold X.pv at HRV ⊢
        dsimp only at HP1 HP2 HQ1 HQ2 HBQ HRV ⊢
        go_wp2_with fail
        try rw [hW4]
        clear hW4
        generalize (((W4.setCell ⟨W3.heap.size, 0, none⟩ (.int .i64 (p1 : Nat))).setCell ⟨W3.heap.size, 1, none⟩ (.int .i64 (p2 : Nat))).setCell ⟨W3.heap.size + 1, 0, none⟩ (.int .i64 (r1 : Nat))).setCell ⟨W3.heap.size + 1, 1, none⟩ (.int .i64 (r2 : Nat)) = W5 at *
        have HK5 : Hid (X.K4 W3.heap.size (W3.heap.size + 1) (p1, p2) (r1, r2) W5) := hid ⟨HP1.out.cell0, HP1.out.cell1, HP2.out.cell0, HP2.out.cell1⟩
        have g0 := HQ1.out.cell0
        have g1 := HQ1.out.cell1
        have g2 := HQ2.out.cell0
        have g3 := HQ2.out.cell1
        have e0 := HQ1.out.fz
        have e1 := HQ2.out.fz
        clear y0 y1 y2 y3 f0 f1
        go_region_held3 (fun W => W.cell? ⟨W3.heap.size, 0, none⟩ = some (.int .i64 (p1 : Nat)) ∧ W.cell? ⟨W3.heap.size, 1, none⟩ = some (.int .i64 (p2 : Nat)) ∧ W.cell? ⟨W3.heap.size + 1, 0, none⟩ = some (.int .i64 (r1 : Nat)) ∧ W.cell? ⟨W3.heap.size + 1, 1, none⟩ = some (.int .i64 (r2 : Nat))) (first | with_reducible exact HK5.out.drew | with_reducible exact (HK5.out.off (g := w.heap.size) m1 m3 _ _).drew | with_reducible exact (HK5.out.off (g := w.heap.size + 1) m2 m4 _ _).drew | with_reducible exact ((HK5.out.off (g := w.heap.size) m1 m3 _ _).off (g := w.heap.size + 1) m2 m4 _ _).drew | with_reducible exact ((HK5.out.off (g := w.heap.size + 1) m2 m4 _ _).off (g := w.heap.size) m1 m3 _ _).drew) (fail)
        all_goals (
          go_wp2
          try simp only [Exit.inBlock, Exit.then]
          refine bodyPost_ret (X.res3 rfl _ _ w.heap.size (w.heap.size + 1) (p1, p2) (r1, r2) _ rfl rfl rfl ?h1 ?h2) rfl ⟨?h3, ?h4⟩
          case h1 => first | exact ((HQ1.out.set (p1, p2)).off n3).off n3 | exact ((HQ1.out.off n3).off n3).set (p1, p2)
          case h2 => first | exact ((HQ2.out.off n4).off n4).set (r1, r2) | exact ((HQ2.out.set (r1, r2)).off n4).off n4
          case h3 => rw [HRV.out]; rfl
          case h4 => first | exact ((((HBQ.out.setCell (p := ⟨w.heap.size, 0, none⟩) (Nat.le_refl _) _).setCell (p := ⟨w.heap.size, 1, none⟩) (Nat.le_refl _) _).setCell (p := ⟨w.heap.size + 1, 0, none⟩) (Nat.le_succ _) _).setCell (p := ⟨w.heap.size + 1, 1, none⟩) (Nat.le_succ _) _).drew | exact ((((HBQ.out.setCell (p := ⟨w.heap.size + 1, 0, none⟩) (Nat.le_succ _) _).setCell (p := ⟨w.heap.size + 1, 1, none⟩) (Nat.le_succ _) _).setCell (p := ⟨w.heap.size, 0, none⟩) (Nat.le_refl _) _).setCell (p := ⟨w.heap.size, 1, none⟩) (Nat.le_refl _) _).drew)
    · have HRV : Hid (X.arV l sz = .tuple #[X.pv (0, 0), X.pv (0, 0), .int .i64 4]) := hid (by unfold X.arV; rw [if_pos h0, if_neg hsA]; rfl)
      rw [h0] at HC
      by_cases hs : 2 ≤ sz ∧ sz ≤ 40
      · have hge3 : sz ≤ l.getD (l.length - 1) 0 := by
          have : ¬ l.getD (l.length - 1) 0 < sz := fun h => hsA ⟨hs.1, hs.2, h⟩
          omega
        rw [X.wi_true.2 hs] at HWI
        have HCL := hid (fun W' (h : Below W.heap.size W W') => cell_stays h (Nat.le_refl _) hcz)
        clear hl hok hT hB h0 hsA hs hcz
        generalize l.getD (l.length - 1) 0 = zz at *
        have hge4 : decide (sz ≤ zz) = true := by simpa using hge3
        go_enter Try.func38, Try.ntmps38
        go_wp2_with fail
        try rw [hW]
        clear hW
        refine HC.out.mono ?_
        rintro e W1 ⟨rfl, hb1⟩
        have hc1 := HCL.out W1 hb1
        go_wp2_with fail
        refine (HWI.out _).mono ?_
        rintro e W9 ⟨rfl, rfl⟩
        have HB1 := hid (HB.out.trans (hb1.mono HB.out.size))
        have HA1 := hid (HT.out.1.of_block (hb1.block _ (by omega)))
        have HA2 := hid (HT.out.2.of_block (hb1.block _ (by omega)))
        clear hb1
        generalize X.o1 none = z1 at *
        generalize X.o2 none = z2 at *
        have g0 := HA1.out.cell0
        have g1 := HA1.out.cell1
        have g2 := HA2.out.cell0
        have g3 := HA2.out.cell1
        have e0 := HA1.out.fz
        have e1 := HA2.out.fz
        have n3 : ¬ w.heap.size = w.heap.size + 1 := by omega
        have n4 : ¬ w.heap.size + 1 = w.heap.size := by omega
        go_wp2
        try simp only [Exit.inBlock, Exit.then]
        refine bodyPost_ret (X.res3 rfl _ _ w.heap.size (w.heap.size + 1) (0, 0) (0, 0) _ rfl rfl rfl ?h1 ?h2) rfl ⟨?h3, ?h4⟩
        case h1 => exact ((HA1.out.set (0, 0)).off n3).off n3
        case h2 => exact ((HA2.out.off n4).off n4).set (0, 0)
        case h3 => rw [HRV.out]; rfl
        case h4 => exact (((HB1.out.setCell (p := ⟨w.heap.size, 0, none⟩) (Nat.le_refl _) _).setCell (p := ⟨w.heap.size, 1, none⟩) (Nat.le_refl _) _).setCell (p := ⟨w.heap.size + 1, 0, none⟩) (Nat.le_succ _) _).setCell (p := ⟨w.heap.size + 1, 1, none⟩) (Nat.le_succ _) _
      · rw [X.wi_false.2 hs] at HWI
        clear hl hok hT hB h0 hsA hs hcz
        go_enter Try.func38, Try.ntmps38
        go_wp2_with fail
        try rw [hW]
        clear hW
        refine HC.out.mono ?_
        rintro e W1 ⟨rfl, hb1⟩
        go_wp2_with fail
        refine (HWI.out _).mono ?_
        rintro e W9 ⟨rfl, rfl⟩
        have HB1 := hid (HB.out.trans (hb1.mono HB.out.size))
        have HA1 := hid (HT.out.1.of_block (hb1.block _ (by omega)))
        have HA2 := hid (HT.out.2.of_block (hb1.block _ (by omega)))
        clear hb1
        generalize X.o1 none = z1 at *
        generalize X.o2 none = z2 at *
        have g0 := HA1.out.cell0
        have g1 := HA1.out.cell1
        have g2 := HA2.out.cell0
        have g3 := HA2.out.cell1
        have e0 := HA1.out.fz
        have e1 := HA2.out.fz
        have n3 : ¬ w.heap.size = w.heap.size + 1 := by omega
        have n4 : ¬ w.heap.size + 1 = w.heap.size := by omega
        go_wp2
        try simp only [Exit.inBlock, Exit.then]
        refine bodyPost_ret (X.res3 rfl _ _ w.heap.size (w.heap.size + 1) (0, 0) (0, 0) _ rfl rfl rfl ?h1 ?h2) rfl ⟨?h3, ?h4⟩
        case h1 => exact ((HA1.out.set (0, 0)).off n3).off n3
        case h2 => exact ((HA2.out.off n4).off n4).set (0, 0)
        case h3 => rw [HRV.out]; rfl
        case h4 => exact (((HB1.out.setCell (p := ⟨w.heap.size, 0, none⟩) (Nat.le_refl _) _).setCell (p := ⟨w.heap.size, 1, none⟩) (Nat.le_refl _) _).setCell (p := ⟨w.heap.size + 1, 0, none⟩) (Nat.le_succ _) _).setCell (p := ⟨w.heap.size + 1, 1, none⟩) (Nat.le_succ _) _
  · have HRV : Hid (X.arV l sz = .tuple #[X.pv (0, 0), X.pv (0, 0), .int .i64 (X.chk l)]) := hid (by unfold X.arV; rw [if_neg h0]; rfl)
    have hne : (X.chk l != 0) = true := by rw [bne_iff_ne]; exact h0
    have hne2 : (X.chk l == 0) = false := by rw [beq_eq_false_iff_ne]; exact h0
    clear hl hT hB h0
    generalize X.chk l = z at *
    go_enter Try.func38, Try.ntmps38
    go_wp2_with fail
    try rw [hW]
    clear hW
    refine HC.out.mono ?_
    rintro e W1 ⟨rfl, hb1⟩
    have HB1 := hid (HB.out.trans (hb1.mono HB.out.size))
    have HA1 := hid (HT.out.1.of_block (hb1.block _ (by omega)))
    have HA2 := hid (HT.out.2.of_block (hb1.block _ (by omega)))
    clear hb1
    generalize X.o1 none = z1 at *
    generalize X.o2 none = z2 at *
    have g0 := HA1.out.cell0
    have g1 := HA1.out.cell1
    have g2 := HA2.out.cell0
    have g3 := HA2.out.cell1
    have e0 := HA1.out.fz
    have e1 := HA2.out.fz
    have n3 : ¬ w.heap.size = w.heap.size + 1 := by omega
    have n4 : ¬ w.heap.size + 1 = w.heap.size := by omega
    go_wp2
    try simp only [Exit.inBlock, Exit.then]
    refine bodyPost_ret (X.res3 rfl _ _ w.heap.size (w.heap.size + 1) (0, 0) (0, 0) _ rfl rfl rfl ?h1 ?h2) rfl ⟨?h3, ?h4⟩
    case h1 => exact ((HA1.out.set (0, 0)).off n3).off n3
    case h2 => exact ((HA2.out.off n4).off n4).set (0, 0)
    case h3 => rw [HRV.out]; rfl
    case h4 => exact (((HB1.out.setCell (p := ⟨w.heap.size, 0, none⟩) (Nat.le_refl _) _).setCell (p := ⟨w.heap.size, 1, none⟩) (Nat.le_refl _) _).setCell (p := ⟨w.heap.size + 1, 0, none⟩) (Nat.le_succ _) _).setCell (p := ⟨w.heap.size + 1, 1, none⟩) (Nat.le_succ _) _
end Go.Proofs.Ythaoacnaeafbeaa
