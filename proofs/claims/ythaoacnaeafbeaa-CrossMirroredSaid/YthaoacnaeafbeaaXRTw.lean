/- Package tuscheref11: the walk of Twice. -/
import Derived.Test.YthaoacnaeafbeaaXRep
import Derived.Test.YthaoacnaeafbeaaXPai
namespace Go.Proofs.Ythaoacnaeafbeaa
open Go.RowKit

theorem X.seg_pw {ok : Nat → Nat → Bool} {n i : Nat} : ∀ f k, (X.seg ok n i f k).Pairwise (fun p q => p.1 < q.1 ∨ (p.1 = q.1 ∧ p.2 < q.2))
  | 0, _ => List.Pairwise.nil
  | f + 1, k => by
    unfold X.seg
    by_cases h : ok i k = true
    · rw [if_pos h]
      refine List.Pairwise.cons (fun q hq => ?_) (X.seg_pw f (k + 1))
      have := X.mem_seg.1 hq
      exact .inr ⟨this.1.symm, by have := this.2.1; dsimp only; omega⟩
    · rw [if_neg h]
      exact X.seg_pw f (k + 1)
theorem X.from_pw {ok : Nat → Nat → Bool} {n : Nat} : ∀ f i, (X.from ok n f i).Pairwise (fun p q => p.1 < q.1 ∨ (p.1 = q.1 ∧ p.2 < q.2))
  | 0, _ => List.Pairwise.nil
  | f + 1, i => by
    unfold X.from
    rw [List.pairwise_append]
    refine ⟨X.seg_pw _ _, X.from_pw f (i + 1), fun p hp q hq => .inl ?_⟩
    have h1 := (X.mem_seg.1 hp).1
    have h2 := (X.mem_from.1 hq).1
    omega
theorem X.tw_ne {D : Nat × Nat → Nat} : ∀ {S : List (Nat × Nat)} {p q : Nat × Nat}, S.Pairwise (fun p q => p.1 < q.1 ∨ (p.1 = q.1 ∧ p.2 < q.2)) → X.tw D S = some (p, q) → p ≠ q
  | [], _, _, _, h => by cases h
  | x :: S, p, q, hp, h => by
    unfold X.tw at h
    cases hf : S.find? (fun q => D q == D x) with
    | none =>
      rw [hf] at h
      exact X.tw_ne (List.pairwise_cons.1 hp).2 h
    | some y =>
      rw [hf] at h
      obtain ⟨rfl, rfl⟩ := Prod.mk.inj (Option.some.inj h)
      have := (List.pairwise_cons.1 hp).1 y (List.mem_of_find?_eq_some hf)
      intro e
      subst e
      omega
theorem X.pas_eq {D : Nat × Nat → Nat} {ok : Nat → Nat → Bool} {n : Nat} (t : Option ((Nat × Nat) × (Nat × Nat))) (ht : X.tw D (X.from ok n n 0) = t) : X.pas (X.o1 t) (X.o2 t) = if t.isSome = true then 0 else 5 := by
  cases t with
  | none => rfl
  | some x =>
    obtain ⟨p, q⟩ := x
    have := X.tw_ne (X.from_pw _ _) ht
    show X.pas p q = _
    unfold X.pas
    rw [if_neg this]; rfl

set_option maxHeartbeats 4000000 in
set_option maxRecDepth 100000 in
theorem refTwice_any (a : Option Addr) (c : Nat) (l : List Int) (w : World) (hm : l.length ≤ maxLen) (hl : RdI w a l) :
    Calls Try.prog 17 #[.slice a l.length c] w fun e w' => e = .returned (X.twV l) ∧ Below w.heap.size w w' := by
  obtain ⟨W, hW, hT, hB, hsz⟩ := X.newTwo w
  have HC := hid (refCheck_any a c l W hm (hl.stays hB))
  have HB := hid hB
  have HT := hid hT
  have HL := hid (hl.stays hB)
  by_cases h0 : X.chk l = 0
  · have hok := X.chk_zero.1 h0
    have h8 := hok.eight
    have HV : Hid (X.twV l = X.ret2 (X.tw (X.dis l) (X.prs l)) (if (X.tw (X.dis l) (X.prs l)).isSome = true then 0 else 5)) := hid (by unfold X.twV; rw [if_pos h0, X.pas_eq (D := X.dis l) (ok := X.up) (n := l.length) (X.tw (X.dis l) (X.prs l)) rfl])
    have HPA := hid (fun W' (h : Below W.heap.size W W') => paired_any a c l W' (HL.out.stays h) hok)
    have hpl : (X.prs l).length ≤ 1000 := by
      unfold X.prs
      rw [← X.fr_from]
      have := X.fr_len X.up l.length l.length
      have : l.length * l.length ≤ 8 * 8 := Nat.mul_le_mul h8 h8
      omega
    have HRE := hid (fun x y cx cy W' h1 h2 => repeated_any x y cx cy (X.dis l) (X.prs l) W' hpl h1 h2)
    rw [h0] at HC
    clear hl hok hT hB hpl h0
    go_enter Try.func17, Try.ntmps17
    go_wp2_with fail
    try rw [hW]
    clear hW
    refine HC.out.mono ?_
    rintro e W1 ⟨rfl, hb1⟩
    have HB1 := hid hb1
    clear hb1
    go_wp2_with fail
    refine (HPA.out W1 HB1.out).mono ?_
    rintro e W2 ⟨x, cx, y, cy, rfl, hx, hy, hb2⟩
    have HX := hid hx
    have HY := hid hy
    have HB2 := hid (HB1.out.trans (hb2.mono HB1.out.size))
    clear hx hy hb2
    go_wp2_with fail
    refine (HRE.out x y cx cy W2 HX.out HY.out).mono ?_
    rintro e W3 ⟨rfl, hb3⟩
    have HB3 := hid (HB2.out.trans (hb3.mono HB2.out.size))
    clear hb3
    obtain ⟨W4, hW4, hT4, hB4, hsz4⟩ := X.newTwo W3
    have HB4 := hid (HB3.out.trans (hB4.mono HB3.out.size))
    have HA1 : Hid (X.Bx W4 w.heap.size (X.o1 none)) := hid (HT.out.1.of_block (HB4.out.block _ (by omega)))
    have HA2 : Hid (X.Bx W4 (w.heap.size + 1) (X.o2 none)) := hid (HT.out.2.of_block (HB4.out.block _ (by omega)))
    have HBW4 := hid (HB.out.trans (HB4.out.mono HB.out.size))
    have HZ1 := hid hT4.1
    have HZ2 := hid hT4.2
    generalize X.o1 none = z1 at *
    generalize X.o2 none = z2 at *
    have y0 := HZ1.out.cell0
    have y1 := HZ1.out.cell1
    have y2 := HZ2.out.cell0
    have y3 := HZ2.out.cell1
    have f0 := HZ1.out.fz
    have f1 := HZ2.out.fz
    have HS3 := HB3.out.size
    have n1 : ¬ W3.heap.size = W3.heap.size + 1 := by omega
    have n2 : ¬ W3.heap.size + 1 = W3.heap.size := by omega
    have n3 : ¬ w.heap.size = w.heap.size + 1 := by omega
    have n4 : ¬ w.heap.size + 1 = w.heap.size := by omega
    have m1 : w.heap.size ≠ W3.heap.size := by omega
    have m2 : w.heap.size + 1 ≠ W3.heap.size := by omega
    have m3 : w.heap.size ≠ W3.heap.size + 1 := by omega
    have m4 : w.heap.size + 1 ≠ W3.heap.size + 1 := by omega
    clear hT4 hB4
    cases htw : (X.tw (X.dis l) (X.prs l)).isSome with
    | false =>
      have HRV : Hid (X.twV l = .tuple #[X.pv (X.o1 (X.tw (X.dis l) (X.prs l))), X.pv (X.o2 (X.tw (X.dis l) (X.prs l))), .int .i64 5]) := hid (by rw [HV.out, if_neg (by rw [htw]; simp)]; rfl)
      generalize X.o1 (X.tw (X.dis l) (X.prs l)) = p at *
      generalize X.o2 (X.tw (X.dis l) (X.prs l)) = r at *
      obtain ⟨p1, p2⟩ := p
      obtain ⟨r1, r2⟩ := r
      have HP1 := hid (((HZ1.out.set (p1, p2)).off (g := W3.heap.size + 1) (o := 0) (u := .int .i64 (r1 : Nat)) n1).off (g := W3.heap.size + 1) (o := 1) (u := .int .i64 (r2 : Nat)) n1)
      have HP2 := hid (X.Bx.set ((HZ2.out.off (g := W3.heap.size) (o := 0) (u := .int .i64 (p1 : Nat)) n2).off (g := W3.heap.size) (o := 1) (u := .int .i64 (p2 : Nat)) n2) (r1, r2))
      have HQ1 := hid ((((HA1.out.off (g := W3.heap.size) (o := 0) (u := .int .i64 (p1 : Nat)) m1).off (g := W3.heap.size) (o := 1) (u := .int .i64 (p2 : Nat)) m1).off (g := W3.heap.size + 1) (o := 0) (u := .int .i64 (r1 : Nat)) m3).off (g := W3.heap.size + 1) (o := 1) (u := .int .i64 (r2 : Nat)) m3)
      have HQ2 := hid ((((HA2.out.off (g := W3.heap.size) (o := 0) (u := .int .i64 (p1 : Nat)) m2).off (g := W3.heap.size) (o := 1) (u := .int .i64 (p2 : Nat)) m2).off (g := W3.heap.size + 1) (o := 0) (u := .int .i64 (r1 : Nat)) m4).off (g := W3.heap.size + 1) (o := 1) (u := .int .i64 (r2 : Nat)) m4)
      have HBQ := hid ((((HBW4.out.setCell (p := ⟨W3.heap.size, 0, none⟩) (by show w.heap.size ≤ W3.heap.size; omega) (.int .i64 (p1 : Nat))).setCell (p := ⟨W3.heap.size, 1, none⟩) (by show w.heap.size ≤ W3.heap.size; omega) (.int .i64 (p2 : Nat))).setCell (p := ⟨W3.heap.size + 1, 0, none⟩) (by show w.heap.size ≤ W3.heap.size + 1; omega) (.int .i64 (r1 : Nat))).setCell (p := ⟨W3.heap.size + 1, 1, none⟩) (by show w.heap.size ≤ W3.heap.size + 1; omega) (.int .i64 (r2 : Nat)))
      unfold X.pv at HRV ⊢
      dsimp only at HP1 HP2 HQ1 HQ2 HBQ HRV ⊢
      go_wp2_with fail
      try rw [hW4]
      clear hW4
      generalize (((W4.setCell ⟨W3.heap.size, 0, none⟩ (.int .i64 (p1 : Nat))).setCell ⟨W3.heap.size, 1, none⟩ (.int .i64 (p2 : Nat))).setCell ⟨W3.heap.size + 1, 0, none⟩ (.int .i64 (r1 : Nat))).setCell ⟨W3.heap.size + 1, 1, none⟩ (.int .i64 (r2 : Nat)) = W5 at *
      have HK5 : Hid (X.K4 W3.heap.size (W3.heap.size + 1) (p1, p2) (r1, r2) W5) := hid ⟨HP1.out.cell0, HP1.out.cell1, HP2.out.cell0, HP2.out.cell1⟩
      have g0 := HQ1.out.cell0
      have g1 := HQ1.out.cell1
      have g2 := HQ2.out.cell0
      have g3 := HQ2.out.cell1
      have e0 := HQ1.out.fz
      have e1 := HQ2.out.fz
      clear y0 y1 y2 y3 f0 f1
      go_region_held3 (fun W => W.cell? ⟨W3.heap.size, 0, none⟩ = some (.int .i64 (p1 : Nat)) ∧ W.cell? ⟨W3.heap.size, 1, none⟩ = some (.int .i64 (p2 : Nat)) ∧ W.cell? ⟨W3.heap.size + 1, 0, none⟩ = some (.int .i64 (r1 : Nat)) ∧ W.cell? ⟨W3.heap.size + 1, 1, none⟩ = some (.int .i64 (r2 : Nat))) (first | with_reducible exact HK5.out.drew | with_reducible exact (HK5.out.off (g := w.heap.size) m1 m3 _ _).drew | with_reducible exact (HK5.out.off (g := w.heap.size + 1) m2 m4 _ _).drew | with_reducible exact ((HK5.out.off (g := w.heap.size) m1 m3 _ _).off (g := w.heap.size + 1) m2 m4 _ _).drew | with_reducible exact ((HK5.out.off (g := w.heap.size + 1) m2 m4 _ _).off (g := w.heap.size) m1 m3 _ _).drew) (fail)
      all_goals (
        go_wp2
        try simp only [Exit.inBlock, Exit.then]
        refine bodyPost_ret (X.res3 rfl _ _ w.heap.size (w.heap.size + 1) (p1, p2) (r1, r2) _ rfl rfl rfl ?h1 ?h2) rfl ⟨?h3, ?h4⟩
        case h1 => first | exact ((HQ1.out.set (p1, p2)).off n3).off n3 | exact ((HQ1.out.off n3).off n3).set (p1, p2)
        case h2 => first | exact ((HQ2.out.off n4).off n4).set (r1, r2) | exact ((HQ2.out.set (r1, r2)).off n4).off n4
        case h3 => rw [HRV.out]; rfl
        case h4 => first | exact ((((HBQ.out.setCell (p := ⟨w.heap.size, 0, none⟩) (Nat.le_refl _) _).setCell (p := ⟨w.heap.size, 1, none⟩) (Nat.le_refl _) _).setCell (p := ⟨w.heap.size + 1, 0, none⟩) (Nat.le_succ _) _).setCell (p := ⟨w.heap.size + 1, 1, none⟩) (Nat.le_succ _) _).drew | exact ((((HBQ.out.setCell (p := ⟨w.heap.size + 1, 0, none⟩) (Nat.le_succ _) _).setCell (p := ⟨w.heap.size + 1, 1, none⟩) (Nat.le_succ _) _).setCell (p := ⟨w.heap.size, 0, none⟩) (Nat.le_refl _) _).setCell (p := ⟨w.heap.size, 1, none⟩) (Nat.le_refl _) _).drew)
    | true =>
      have HRV : Hid (X.twV l = .tuple #[X.pv (X.o1 (X.tw (X.dis l) (X.prs l))), X.pv (X.o2 (X.tw (X.dis l) (X.prs l))), .int .i64 0]) := hid (by rw [HV.out, if_pos htw]; rfl)
      generalize X.o1 (X.tw (X.dis l) (X.prs l)) = p at *
      generalize X.o2 (X.tw (X.dis l) (X.prs l)) = r at *
      obtain ⟨p1, p2⟩ := p
      obtain ⟨r1, r2⟩ := r
      have HP1 := hid (((HZ1.out.set (p1, p2)).off (g := W3.heap.size + 1) (o := 0) (u := .int .i64 (r1 : Nat)) n1).off (g := W3.heap.size + 1) (o := 1) (u := .int .i64 (r2 : Nat)) n1)
      have HP2 := hid (X.Bx.set ((HZ2.out.off (g := W3.heap.size) (o := 0) (u := .int .i64 (p1 : Nat)) n2).off (g := W3.heap.size) (o := 1) (u := .int .i64 (p2 : Nat)) n2) (r1, r2))
      have HQ1 := hid ((((HA1.out.off (g := W3.heap.size) (o := 0) (u := .int .i64 (p1 : Nat)) m1).off (g := W3.heap.size) (o := 1) (u := .int .i64 (p2 : Nat)) m1).off (g := W3.heap.size + 1) (o := 0) (u := .int .i64 (r1 : Nat)) m3).off (g := W3.heap.size + 1) (o := 1) (u := .int .i64 (r2 : Nat)) m3)
      have HQ2 := hid ((((HA2.out.off (g := W3.heap.size) (o := 0) (u := .int .i64 (p1 : Nat)) m2).off (g := W3.heap.size) (o := 1) (u := .int .i64 (p2 : Nat)) m2).off (g := W3.heap.size + 1) (o := 0) (u := .int .i64 (r1 : Nat)) m4).off (g := W3.heap.size + 1) (o := 1) (u := .int .i64 (r2 : Nat)) m4)
      have HBQ := hid ((((HBW4.out.setCell (p := ⟨W3.heap.size, 0, none⟩) (by show w.heap.size ≤ W3.heap.size; omega) (.int .i64 (p1 : Nat))).setCell (p := ⟨W3.heap.size, 1, none⟩) (by show w.heap.size ≤ W3.heap.size; omega) (.int .i64 (p2 : Nat))).setCell (p := ⟨W3.heap.size + 1, 0, none⟩) (by show w.heap.size ≤ W3.heap.size + 1; omega) (.int .i64 (r1 : Nat))).setCell (p := ⟨W3.heap.size + 1, 1, none⟩) (by show w.heap.size ≤ W3.heap.size + 1; omega) (.int .i64 (r2 : Nat)))
      unfold X.pv at HRV ⊢
      dsimp only at HP1 HP2 HQ1 HQ2 HBQ HRV ⊢
      go_wp2_with fail
      try rw [hW4]
      clear hW4
      generalize (((W4.setCell ⟨W3.heap.size, 0, none⟩ (.int .i64 (p1 : Nat))).setCell ⟨W3.heap.size, 1, none⟩ (.int .i64 (p2 : Nat))).setCell ⟨W3.heap.size + 1, 0, none⟩ (.int .i64 (r1 : Nat))).setCell ⟨W3.heap.size + 1, 1, none⟩ (.int .i64 (r2 : Nat)) = W5 at *
      have HK5 : Hid (X.K4 W3.heap.size (W3.heap.size + 1) (p1, p2) (r1, r2) W5) := hid ⟨HP1.out.cell0, HP1.out.cell1, HP2.out.cell0, HP2.out.cell1⟩
      have g0 := HQ1.out.cell0
      have g1 := HQ1.out.cell1
      have g2 := HQ2.out.cell0
      have g3 := HQ2.out.cell1
      have e0 := HQ1.out.fz
      have e1 := HQ2.out.fz
      clear y0 y1 y2 y3 f0 f1
      go_region_held3 (fun W => W.cell? ⟨W3.heap.size, 0, none⟩ = some (.int .i64 (p1 : Nat)) ∧ W.cell? ⟨W3.heap.size, 1, none⟩ = some (.int .i64 (p2 : Nat)) ∧ W.cell? ⟨W3.heap.size + 1, 0, none⟩ = some (.int .i64 (r1 : Nat)) ∧ W.cell? ⟨W3.heap.size + 1, 1, none⟩ = some (.int .i64 (r2 : Nat))) (first | with_reducible exact HK5.out.drew | with_reducible exact (HK5.out.off (g := w.heap.size) m1 m3 _ _).drew | with_reducible exact (HK5.out.off (g := w.heap.size + 1) m2 m4 _ _).drew | with_reducible exact ((HK5.out.off (g := w.heap.size) m1 m3 _ _).off (g := w.heap.size + 1) m2 m4 _ _).drew | with_reducible exact ((HK5.out.off (g := w.heap.size + 1) m2 m4 _ _).off (g := w.heap.size) m1 m3 _ _).drew) (fail)
      all_goals (
        go_wp2
        try simp only [Exit.inBlock, Exit.then]
        refine bodyPost_ret (X.res3 rfl _ _ w.heap.size (w.heap.size + 1) (p1, p2) (r1, r2) _ rfl rfl rfl ?h1 ?h2) rfl ⟨?h3, ?h4⟩
        case h1 => first | exact ((HQ1.out.set (p1, p2)).off n3).off n3 | exact ((HQ1.out.off n3).off n3).set (p1, p2)
        case h2 => first | exact ((HQ2.out.off n4).off n4).set (r1, r2) | exact ((HQ2.out.set (r1, r2)).off n4).off n4
        case h3 => rw [HRV.out]; rfl
        case h4 => first | exact ((((HBQ.out.setCell (p := ⟨w.heap.size, 0, none⟩) (Nat.le_refl _) _).setCell (p := ⟨w.heap.size, 1, none⟩) (Nat.le_refl _) _).setCell (p := ⟨w.heap.size + 1, 0, none⟩) (Nat.le_succ _) _).setCell (p := ⟨w.heap.size + 1, 1, none⟩) (Nat.le_succ _) _).drew | exact ((((HBQ.out.setCell (p := ⟨w.heap.size + 1, 0, none⟩) (Nat.le_succ _) _).setCell (p := ⟨w.heap.size + 1, 1, none⟩) (Nat.le_succ _) _).setCell (p := ⟨w.heap.size, 0, none⟩) (Nat.le_refl _) _).setCell (p := ⟨w.heap.size, 1, none⟩) (Nat.le_refl _) _).drew)
  · have HRV : Hid (X.twV l = .tuple #[X.pv (0, 0), X.pv (0, 0), .int .i64 (X.chk l)]) := hid (by unfold X.twV; rw [if_neg h0]; rfl)
    have hne : (X.chk l != 0) = true := by rw [bne_iff_ne]; exact h0
    clear hl hT hB h0
    generalize X.chk l = z at *
    go_enter Try.func17, Try.ntmps17
    go_wp2_with fail
    try rw [hW]
    clear hW
    refine HC.out.mono ?_
    rintro e W1 ⟨rfl, hb1⟩
    have HB1 := hid (HB.out.trans (hb1.mono HB.out.size))
    have HA1 := hid (HT.out.1.of_block (hb1.block _ (by omega)))
    have HA2 := hid (HT.out.2.of_block (hb1.block _ (by omega)))
    clear hb1
    generalize X.o1 none = z1 at *
    generalize X.o2 none = z2 at *
    have g0 := HA1.out.cell0
    have g1 := HA1.out.cell1
    have g2 := HA2.out.cell0
    have g3 := HA2.out.cell1
    have e0 := HA1.out.fz
    have e1 := HA2.out.fz
    have n3 : ¬ w.heap.size = w.heap.size + 1 := by omega
    have n4 : ¬ w.heap.size + 1 = w.heap.size := by omega
    go_wp2
    try simp only [Exit.inBlock, Exit.then]
    refine bodyPost_ret (X.res3 rfl _ _ w.heap.size (w.heap.size + 1) (0, 0) (0, 0) _ rfl rfl rfl ?h1 ?h2) rfl ⟨?h3, ?h4⟩
    case h1 => exact ((HA1.out.set (0, 0)).off n3).off n3
    case h2 => exact ((HA2.out.off n4).off n4).set (0, 0)
    case h3 => rw [HRV.out]; rfl
    case h4 => exact (((HB1.out.setCell (p := ⟨w.heap.size, 0, none⟩) (Nat.le_refl _) _).setCell (p := ⟨w.heap.size, 1, none⟩) (Nat.le_refl _) _).setCell (p := ⟨w.heap.size + 1, 0, none⟩) (Nat.le_succ _) _).setCell (p := ⟨w.heap.size + 1, 1, none⟩) (Nat.le_succ _) _
end Go.Proofs.Ythaoacnaeafbeaa
