/- Package cross: the walk of Around. -/
import Derived.Test.YthaoacnaeafbeaaXTw2
namespace Go.Proofs.Ythaoacnaeafbeaa
open Go.RowKit

/-- A size of a roller on which a rule fits. -/
def X.fit (l : List Int) (sz : Int) : Prop := 2 ≤ sz ∧ sz ≤ 40 ∧ l.getD (l.length - 1) 0 < sz
instance (l : List Int) (sz : Int) : Decidable (X.fit l sz) := by unfold X.fit; exact inferInstance
def X.arV (l : List Int) (sz : Int) : Value := if X.chk l = 0 then (if X.fit l sz then X.ret2 (X.tw (X.wy l sz) (X.arr l)) (X.pas (X.o1 (X.tw (X.wy l sz) (X.arr l))) (X.o2 (X.tw (X.wy l sz) (X.arr l)))) else X.ret2 none 4) else X.ret2 none (X.chk l)
theorem X.fit_all {l : List Int} {sz : Int} (hok : X.Ok l) (h : l.getD (l.length - 1) 0 < sz) : ∀ i, i < l.length → l.getD i 0 < sz := fun i hi => by
  by_cases e : i = l.length - 1
  · rw [e]; exact h
  · have := hok.up.lt i (l.length - 1) (by omega) (by omega)
    omega

set_option maxHeartbeats 4000000 in
theorem around_any (a : Option Addr) (c : Nat) (l : List Int) (sz : Int) (w : World) (hm : l.length ≤ maxLen) (hl : RdI w a l) :
    Calls Try.prog 37 #[.slice a l.length c, .int .i64 sz] w fun e w' => e = .returned (X.arV l sz) ∧ Below w.heap.size w w' := by
  obtain ⟨W, hW, hT, hB, hsz⟩ := X.newTwo w
  have HC := hid (check_any a c l W hm (hl.stays hB))
  have HWI := hid (within_any sz 2 40 W)
  have HB := hid hB
  have HT := hid hT
  by_cases h0 : X.chk l = 0
  · by_cases hsA : X.fit l sz
    · have hsA' := hsA
      obtain ⟨hs1, hs2, hs3⟩ := hsA'
      have hs : 2 ≤ sz ∧ sz ≤ 40 := ⟨hs1, hs2⟩
      have hsl := X.fit_all (X.chk_zero.1 h0) hs3
      rw [X.wi_true.2 hs] at HWI
      have hok := X.chk_zero.1 h0
      have h2 := hok.two
      have h8 := hok.eight
      obtain ⟨b, o, rfl, hc0⟩ := X.num hl (show 0 < l.length by omega)
      obtain ⟨b', o', he1, hcz⟩ := X.num (hl.stays hB) (show l.length - 1 < l.length by omega)
      simp only [Option.some.injEq, Addr.mk.injEq, and_true] at he1
      obtain ⟨rfl, rfl⟩ := he1
      have hk2 : ((l.length - 1 : Nat) : Int) = (l.length : Int) - 1 := by omega
      have hk3 : (0 : Int) ≤ (l.length : Int) - 1 ∧ (l.length : Int) - 1 < (l.length : Int) := by omega
      have hk4 : ((l.length : Int) - 1).toNat = l.length - 1 := by omega
      have hge3 : ¬ sz ≤ l.getD (l.length - 1) 0 := by omega
      have hblt : b < w.heap.size := World.block_lt_of_cell? _ _ hc0
      have HV : Hid (X.arV l sz = X.ret2 (X.tw (X.wy l sz) (X.arr l)) (X.pas (X.o1 (X.tw (X.wy l sz) (X.arr l))) (X.o2 (X.tw (X.wy l sz) (X.arr l))))) := hid (by unfold X.arV; rw [if_pos h0, if_pos hsA])
      have HMP := hid (meetArrows_any b o c l sz 68 #[.pointer (some ⟨w.heap.size, 0, none⟩), .pointer (some ⟨w.heap.size + 1, 0, none⟩)] (fun i => i = w.heap.size ∨ i = w.heap.size + 1) (X.Two w.heap.size (w.heap.size + 1)) W (hl.stays hB) hok hs.1 hs.2 hsl (fun k hk => by omega) (by omega) (fun _ _ => rfl)
        (fun r w1 w2 h hs hb => ⟨h.1.of_block (hb.block _ (by omega)), h.2.of_block (hb.block _ (by omega))⟩) hT
        (fun r p q W' h _ => by
          refine (around1_any w.heap.size (w.heap.size + 1) p q (X.o1 r) (X.o2 r) W' h.1 h.2 (by omega)).mono ?_
          rintro e w' ⟨rfl, h1, h2, h3⟩
          exact ⟨rfl, ⟨h1, h2⟩, h3⟩))
      generalize X.tw (X.wy l sz) (X.arr l) = t at *
      rw [h0] at HC
      have HP := hid (fun W' => passed_any (X.o1 t) (X.o2 t) W')
      generalize l.getD (l.length - 1) 0 = zz at *
      clear hl hok hT hB hc0 hsl hsA hs hs3
      go_enter Try.func37, Try.ntmps37
      go_wp2_with fail
      try rw [hW]
      clear hW
      refine HC.out.mono ?_
      rintro e w2 ⟨rfl, rfl⟩
      go_wp2_with fail
      refine HWI.out.mono ?_
      rintro e w5 ⟨rfl, rfl⟩
      go_wp2_with fail
      refine HMP.out.mono ?_
      rintro e w3 ⟨rfl, ⟨hi1, hi2⟩, he3⟩
      have HBE : Hid (Below w.heap.size w w3) := hid (HB.out.trans (he3.below HB.out.size (fun k hk h => by omega)))
      have HB1 := hid hi1
      have HB2 := hid hi2
      clear hi1 hi2 he3
      have HS0 := hid (X.SS.of HB1.out HB2.out HBE.out).drew
      have HRV : Hid (X.arV l sz = .tuple #[X.pv (X.o1 t), X.pv (X.o2 t), .int .i64 (X.pas (X.o1 t) (X.o2 t))]) := hid (by rw [HV.out]; rfl)
      clear HV
      generalize X.o1 t = p at *
      generalize X.o2 t = q at *
      have f1 := fun o => HB1.out.fz o
      have f2 := fun o => HB2.out.fz o
      obtain ⟨p1, p2⟩ := p
      obtain ⟨q1, q2⟩ := q
      have n1 : ¬ w.heap.size = w.heap.size + 1 := by omega
      have n2 : ¬ w.heap.size + 1 = w.heap.size := by omega
      clear HB1 HB2 HBE HMP HC HB HT
      unfold X.pv at HP HRV
      dsimp only at HP HRV
      go_wp2_with fail
      go_region_held3 (fun W => W.cell? ⟨w.heap.size, 0, none⟩ = some (.int .i64 (p1 : Nat)) ∧ W.cell? ⟨w.heap.size, 1, none⟩ = some (.int .i64 (p2 : Nat)) ∧ W.cell? ⟨w.heap.size + 1, 0, none⟩ = some (.int .i64 (q1 : Nat)) ∧ W.cell? ⟨w.heap.size + 1, 1, none⟩ = some (.int .i64 (q2 : Nat)) ∧ (∀ o, W.frozen? ⟨w.heap.size, o, none⟩ = false) ∧ (∀ o, W.frozen? ⟨w.heap.size + 1, o, none⟩ = false) ∧ X.Bx W w.heap.size (p1, p2) ∧ X.Bx W (w.heap.size + 1) (q1, q2) ∧ Below w.heap.size w W) (first | with_reducible exact HS0.out | with_reducible exact X.SS.st1 (p := (p1, p2)) (q := (q1, q2)) (by assumption) (Nat.le_refl _) n2 | with_reducible exact X.SS.st2 (p := (p1, p2)) (q := (q1, q2)) (by assumption) (Nat.le_succ _) n1 | with_reducible exact X.SS.go (p := (p1, p2)) (q := (q1, q2)) (by assumption) hb4) (first | (go_at_call 46; (with_reducible refine (HP.out _).mono ?_); rintro e w4 ⟨rfl, hb4⟩))
      all_goals (
        go_wp2
        try simp only [Exit.inBlock, Exit.then]
        refine bodyPost_ret (X.res3 rfl _ _ w.heap.size (w.heap.size + 1) (p1, p2) (q1, q2) _ rfl rfl rfl ?h1 ?h2) rfl ⟨?h3, ?h4⟩
        case h1 => first | exact X.SS.b1 (((HS0.out.go hb4).st1 (Nat.le_refl _) n2).st2 (Nat.le_succ _) n1) | exact X.SS.b1 (((HS0.out.st1 (Nat.le_refl _) n2).go hb4).st2 (Nat.le_succ _) n1) | exact X.SS.b1 (((HS0.out.st1 (Nat.le_refl _) n2).st2 (Nat.le_succ _) n1).go hb4)
        case h2 => first | exact X.SS.b2 (((HS0.out.go hb4).st1 (Nat.le_refl _) n2).st2 (Nat.le_succ _) n1) | exact X.SS.b2 (((HS0.out.st1 (Nat.le_refl _) n2).go hb4).st2 (Nat.le_succ _) n1) | exact X.SS.b2 (((HS0.out.st1 (Nat.le_refl _) n2).st2 (Nat.le_succ _) n1).go hb4)
        case h3 => rw [HRV.out]; rfl
        case h4 => first | exact X.SS.b3 (((HS0.out.go hb4).st1 (Nat.le_refl _) n2).st2 (Nat.le_succ _) n1) | exact X.SS.b3 (((HS0.out.st1 (Nat.le_refl _) n2).go hb4).st2 (Nat.le_succ _) n1) | exact X.SS.b3 (((HS0.out.st1 (Nat.le_refl _) n2).st2 (Nat.le_succ _) n1).go hb4))
    · by_cases hs : 2 ≤ sz ∧ sz ≤ 40
      · have hs3 : ¬ l.getD (l.length - 1) 0 < sz := fun h => hsA ⟨hs.1, hs.2, h⟩
        rw [X.wi_true.2 hs] at HWI
        have hok := X.chk_zero.1 h0
        have h2 := hok.two
        have h8 := hok.eight
        obtain ⟨b, o, rfl, hc0⟩ := X.num hl (show 0 < l.length by omega)
        obtain ⟨b', o', he1, hcz⟩ := X.num (hl.stays hB) (show l.length - 1 < l.length by omega)
        simp only [Option.some.injEq, Addr.mk.injEq, and_true] at he1
        obtain ⟨rfl, rfl⟩ := he1
        have hk2 : ((l.length - 1 : Nat) : Int) = (l.length : Int) - 1 := by omega
        have hk3 : (0 : Int) ≤ (l.length : Int) - 1 ∧ (l.length : Int) - 1 < (l.length : Int) := by omega
        have hk4 : ((l.length : Int) - 1).toNat = l.length - 1 := by omega
        have hge3 : sz ≤ l.getD (l.length - 1) 0 := by omega
        have HRV : Hid (X.arV l sz = .tuple #[X.pv (X.o1 none), X.pv (X.o2 none), .int .i64 4]) := hid (by unfold X.arV; rw [if_pos h0, if_neg hsA]; rfl)
        have HSB := hid (X.SS.of HT.out.1 HT.out.2 HB.out)
        have HS0 := hid HSB.out.drew
        generalize X.o1 none = p at *
        generalize X.o2 none = q at *
        obtain ⟨p1, p2⟩ := p
        obtain ⟨q1, q2⟩ := q
        unfold X.pv at HRV
        dsimp only at HRV
        have f1 := fun o => HT.out.1.fz o
        have y0 := HT.out.1.cell0
        have y1 := HT.out.1.cell1
        have y2 := HT.out.2.cell0
        have y3 := HT.out.2.cell1
        have f2 := fun o => HT.out.2.fz o
        have n1 : ¬ w.heap.size = w.heap.size + 1 := by omega
        have n2 : ¬ w.heap.size + 1 = w.heap.size := by omega
        rw [h0] at HC
        generalize l.getD (l.length - 1) 0 = zz at *
        clear hl hT hB HB HT h0 hsA hs hc0 hok
        go_enter Try.func37, Try.ntmps37
        go_wp2_with fail
        try rw [hW]
        clear hW
        refine HC.out.mono ?_
        rintro e w2 ⟨rfl, rfl⟩
        go_wp2_with fail
        refine HWI.out.mono ?_
        rintro e w5 ⟨rfl, rfl⟩
        go_wp2_with fail
        go_region_held3 (fun W => W.cell? ⟨w.heap.size, 0, none⟩ = some (.int .i64 (p1 : Nat)) ∧ W.cell? ⟨w.heap.size, 1, none⟩ = some (.int .i64 (p2 : Nat)) ∧ W.cell? ⟨w.heap.size + 1, 0, none⟩ = some (.int .i64 (q1 : Nat)) ∧ W.cell? ⟨w.heap.size + 1, 1, none⟩ = some (.int .i64 (q2 : Nat)) ∧ (∀ o, W.frozen? ⟨w.heap.size, o, none⟩ = false) ∧ (∀ o, W.frozen? ⟨w.heap.size + 1, o, none⟩ = false) ∧ X.Bx W w.heap.size (p1, p2) ∧ X.Bx W (w.heap.size + 1) (q1, q2) ∧ Below w.heap.size w W) (first | with_reducible exact HS0.out | with_reducible exact (HSB.out.st1 (Nat.le_refl _) n2).drew | with_reducible exact (HSB.out.st2 (Nat.le_succ _) n1).drew | with_reducible exact ((HSB.out.st1 (Nat.le_refl _) n2).st2 (Nat.le_succ _) n1).drew | with_reducible exact ((HSB.out.st2 (Nat.le_succ _) n1).st1 (Nat.le_refl _) n2).drew) (fail)
        all_goals (
          go_wp2
          try simp only [Exit.inBlock, Exit.then]
          refine bodyPost_ret (X.res3 rfl _ _ w.heap.size (w.heap.size + 1) (p1, p2) (q1, q2) _ rfl rfl rfl ?h1 ?h2) rfl ⟨?h3, ?h4⟩
          case h1 => first | exact X.SS.b1 (((HSB.out.st1 (Nat.le_refl _) n2).st2 (Nat.le_succ _) n1).drew) | exact X.SS.b1 (((HSB.out.st2 (Nat.le_succ _) n1).st1 (Nat.le_refl _) n2).drew)
          case h2 => first | exact X.SS.b2 (((HSB.out.st1 (Nat.le_refl _) n2).st2 (Nat.le_succ _) n1).drew) | exact X.SS.b2 (((HSB.out.st2 (Nat.le_succ _) n1).st1 (Nat.le_refl _) n2).drew)
          case h3 => rw [HRV.out]; rfl
          case h4 => first | exact X.SS.b3 (((HSB.out.st1 (Nat.le_refl _) n2).st2 (Nat.le_succ _) n1).drew) | exact X.SS.b3 (((HSB.out.st2 (Nat.le_succ _) n1).st1 (Nat.le_refl _) n2).drew))
      · rw [X.wi_false.2 hs] at HWI
        have HRV : Hid (X.arV l sz = .tuple #[X.pv (X.o1 none), X.pv (X.o2 none), .int .i64 4]) := hid (by unfold X.arV; rw [if_pos h0, if_neg hsA]; rfl)
        have HSB := hid (X.SS.of HT.out.1 HT.out.2 HB.out)
        have HS0 := hid HSB.out.drew
        generalize X.o1 none = p at *
        generalize X.o2 none = q at *
        obtain ⟨p1, p2⟩ := p
        obtain ⟨q1, q2⟩ := q
        unfold X.pv at HRV
        dsimp only at HRV
        have f1 := fun o => HT.out.1.fz o
        have y0 := HT.out.1.cell0
        have y1 := HT.out.1.cell1
        have y2 := HT.out.2.cell0
        have y3 := HT.out.2.cell1
        have f2 := fun o => HT.out.2.fz o
        have n1 : ¬ w.heap.size = w.heap.size + 1 := by omega
        have n2 : ¬ w.heap.size + 1 = w.heap.size := by omega
        rw [h0] at HC
        clear hl hT hB HB HT h0 hsA
        go_enter Try.func37, Try.ntmps37
        go_wp2_with fail
        try rw [hW]
        clear hW
        refine HC.out.mono ?_
        rintro e w2 ⟨rfl, rfl⟩
        go_wp2_with fail
        refine HWI.out.mono ?_
        rintro e w5 ⟨rfl, rfl⟩
        go_wp2_with fail
        go_region_held3 (fun W => W.cell? ⟨w.heap.size, 0, none⟩ = some (.int .i64 (p1 : Nat)) ∧ W.cell? ⟨w.heap.size, 1, none⟩ = some (.int .i64 (p2 : Nat)) ∧ W.cell? ⟨w.heap.size + 1, 0, none⟩ = some (.int .i64 (q1 : Nat)) ∧ W.cell? ⟨w.heap.size + 1, 1, none⟩ = some (.int .i64 (q2 : Nat)) ∧ (∀ o, W.frozen? ⟨w.heap.size, o, none⟩ = false) ∧ (∀ o, W.frozen? ⟨w.heap.size + 1, o, none⟩ = false) ∧ X.Bx W w.heap.size (p1, p2) ∧ X.Bx W (w.heap.size + 1) (q1, q2) ∧ Below w.heap.size w W) (first | with_reducible exact HS0.out | with_reducible exact (HSB.out.st1 (Nat.le_refl _) n2).drew | with_reducible exact (HSB.out.st2 (Nat.le_succ _) n1).drew | with_reducible exact ((HSB.out.st1 (Nat.le_refl _) n2).st2 (Nat.le_succ _) n1).drew | with_reducible exact ((HSB.out.st2 (Nat.le_succ _) n1).st1 (Nat.le_refl _) n2).drew) (fail)
        all_goals (
          go_wp2
          try simp only [Exit.inBlock, Exit.then]
          refine bodyPost_ret (X.res3 rfl _ _ w.heap.size (w.heap.size + 1) (p1, p2) (q1, q2) _ rfl rfl rfl ?h1 ?h2) rfl ⟨?h3, ?h4⟩
          case h1 => first | exact X.SS.b1 (((HSB.out.st1 (Nat.le_refl _) n2).st2 (Nat.le_succ _) n1).drew) | exact X.SS.b1 (((HSB.out.st2 (Nat.le_succ _) n1).st1 (Nat.le_refl _) n2).drew)
          case h2 => first | exact X.SS.b2 (((HSB.out.st1 (Nat.le_refl _) n2).st2 (Nat.le_succ _) n1).drew) | exact X.SS.b2 (((HSB.out.st2 (Nat.le_succ _) n1).st1 (Nat.le_refl _) n2).drew)
          case h3 => rw [HRV.out]; rfl
          case h4 => first | exact X.SS.b3 (((HSB.out.st1 (Nat.le_refl _) n2).st2 (Nat.le_succ _) n1).drew) | exact X.SS.b3 (((HSB.out.st2 (Nat.le_succ _) n1).st1 (Nat.le_refl _) n2).drew))
  · have HRV : Hid (X.arV l sz = .tuple #[X.pv (X.o1 none), X.pv (X.o2 none), .int .i64 (X.chk l)]) := hid (by unfold X.arV; rw [if_neg h0]; rfl)
    have HSB := hid (X.SS.of HT.out.1 HT.out.2 HB.out)
    have HS0 := hid HSB.out.drew
    generalize X.o1 none = p at *
    generalize X.o2 none = q at *
    obtain ⟨p1, p2⟩ := p
    obtain ⟨q1, q2⟩ := q
    unfold X.pv at HRV
    dsimp only at HRV
    have f1 := fun o => HT.out.1.fz o
    have y0 := HT.out.1.cell0
    have y1 := HT.out.1.cell1
    have y2 := HT.out.2.cell0
    have y3 := HT.out.2.cell1
    have f2 := fun o => HT.out.2.fz o
    have hne : (X.chk l != 0) = true := by rw [bne_iff_ne]; exact h0
    have n1 : ¬ w.heap.size = w.heap.size + 1 := by omega
    have n2 : ¬ w.heap.size + 1 = w.heap.size := by omega
    clear hl hT hB HB HT h0
    generalize X.chk l = z at *
    go_enter Try.func37, Try.ntmps37
    go_wp2_with fail
    try rw [hW]
    clear hW
    refine HC.out.mono ?_
    rintro e w2 ⟨rfl, rfl⟩
    go_wp2_with fail
    go_region_held3 (fun W => W.cell? ⟨w.heap.size, 0, none⟩ = some (.int .i64 (p1 : Nat)) ∧ W.cell? ⟨w.heap.size, 1, none⟩ = some (.int .i64 (p2 : Nat)) ∧ W.cell? ⟨w.heap.size + 1, 0, none⟩ = some (.int .i64 (q1 : Nat)) ∧ W.cell? ⟨w.heap.size + 1, 1, none⟩ = some (.int .i64 (q2 : Nat)) ∧ (∀ o, W.frozen? ⟨w.heap.size, o, none⟩ = false) ∧ (∀ o, W.frozen? ⟨w.heap.size + 1, o, none⟩ = false) ∧ X.Bx W w.heap.size (p1, p2) ∧ X.Bx W (w.heap.size + 1) (q1, q2) ∧ Below w.heap.size w W) (first | with_reducible exact HS0.out | with_reducible exact (HSB.out.st1 (Nat.le_refl _) n2).drew | with_reducible exact (HSB.out.st2 (Nat.le_succ _) n1).drew | with_reducible exact ((HSB.out.st1 (Nat.le_refl _) n2).st2 (Nat.le_succ _) n1).drew | with_reducible exact ((HSB.out.st2 (Nat.le_succ _) n1).st1 (Nat.le_refl _) n2).drew) (fail)
    all_goals (
      go_wp2
      try simp only [Exit.inBlock, Exit.then]
      refine bodyPost_ret (X.res3 rfl _ _ w.heap.size (w.heap.size + 1) (p1, p2) (q1, q2) _ rfl rfl rfl ?h1 ?h2) rfl ⟨?h3, ?h4⟩
      case h1 => first | exact X.SS.b1 (((HSB.out.st1 (Nat.le_refl _) n2).st2 (Nat.le_succ _) n1).drew) | exact X.SS.b1 (((HSB.out.st2 (Nat.le_succ _) n1).st1 (Nat.le_refl _) n2).drew)
      case h2 => first | exact X.SS.b2 (((HSB.out.st1 (Nat.le_refl _) n2).st2 (Nat.le_succ _) n1).drew) | exact X.SS.b2 (((HSB.out.st2 (Nat.le_succ _) n1).st1 (Nat.le_refl _) n2).drew)
      case h3 => rw [HRV.out]; rfl
      case h4 => first | exact X.SS.b3 (((HSB.out.st1 (Nat.le_refl _) n2).st2 (Nat.le_succ _) n1).drew) | exact X.SS.b3 (((HSB.out.st2 (Nat.le_succ _) n1).st1 (Nat.le_refl _) n2).drew))
end Go.Proofs.Ythaoacnaeafbeaa
