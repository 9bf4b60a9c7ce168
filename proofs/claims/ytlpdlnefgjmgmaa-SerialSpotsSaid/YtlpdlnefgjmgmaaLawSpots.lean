/- SerialSpots: the law's walk and the proof of the row. -/
import Derived.Test.YtlpdlnefgjmgmaaPlate
import Derived.Test.YtlpdlnefgjmgmaaSpotAt
import Derived.Test.YtlpdlnefgjmgmaaWorks
import Derived.ShutString
import Derived.ChangeOld
import Derived.Below
import Derived.BigQuiet
import Derived.Deep.QuietTactic
import Derived.Deep.DeepCutAuto
namespace Go.Proofs.Ytlpdlnefgjmgmaa
open Go.ChangeShapes Go.WideShapes Go.ChangeAt Go.RowKit

set_option maxHeartbeats 4000000 in
set_option maxRecDepth 100000 in
theorem serialSpots_walk (w : World) (f : Nat → Nat) (hf : ∀ k, f k < 256) :
    Calls Try.prog 4 #[plate f] w fun e w' => e = .returned (.bool true) ∧ Below w.heap.size w w' := by
  have HM := hid (fun w' => made_any f w' hf)
  clear hf
  go_enter Try.func4, Try.ntmps4
  go_wp2_with fail
  have HB0 := hid ((Below.refl w.heap.size w).alloc (Nat.le_refl _) (.cells #[.int .u8 (f 0), .int .u8 (f 1), .int .u8 (f 2), .int .u8 (f 3), .int .u8 (f 4), .int .u8 (f 5), .int .u8 (f 6), .int .u8 (f 7), .int .u8 (f 8), .int .u8 (f 9), .int .u8 (f 10), .int .u8 (f 11), .int .u8 (f 12), .int .u8 (f 13), .int .u8 (f 14), .int .u8 (f 15), .int .u8 (f 16)] 24))
  generalize w.alloc (.cells #[.int .u8 (f 0), .int .u8 (f 1), .int .u8 (f 2), .int .u8 (f 3), .int .u8 (f 4), .int .u8 (f 5), .int .u8 (f 6), .int .u8 (f 7), .int .u8 (f 8), .int .u8 (f 9), .int .u8 (f 10), .int .u8 (f 11), .int .u8 (f 12), .int .u8 (f 13), .int .u8 (f 14), .int .u8 (f 15), .int .u8 (f 16)] 24) = w0 at *
  refine (HM.out _).mono ?_
  rintro e w1 ⟨a, c, T, rfl, ht, h5, hT, hb⟩
  have hck := check_of_tab ht
  have HB1 := hid (HB0.out.trans (hb.mono HB0.out.size))
  have H2 := hid (blind_any a c T w1 hT)
  have HT := hid hT
  have HTA := hid ht
  clear hb hT HB0 HM
  rw [hck] at H2
  go_wp2_with fail
  refine H2.out.mono ?_
  rintro e w2 ⟨r1, cr1, xs1, rfl, hx1, hr1, hb2⟩
  have H3 := hid (twins_any a c T w2 (HT.out.stays hb2))
  rw [hck] at H3
  have HR1 := hid hr1
  have HX1 := hid hx1
  have HB2 := hid hb2
  clear hr1 hx1 hb2 H2
  go_wp2_with fail
  refine H3.out.mono ?_
  rintro e w3 ⟨r2, cr2, xs2, rfl, hx2, hr2, hb3⟩
  have HT3 := hid ((HT.out.stays HB2.out).stays hb3)
  have HR3 := hid (HR1.out.stays hb3)
  have HR4 := hid hr2
  have hx1 := HX1.out
  unfold P.blind at hx1
  rw [if_neg (by rw [hck]; simp)] at hx1
  unfold P.twins at hx2
  rw [if_neg (by rw [hck]; simp)] at hx2
  have HX1' := hid hx1
  have HX2 := hid hx2
  have HB3 := hid ((HB1.out.trans (HB2.out.mono HB1.out.size)).trans (hb3.mono (HB1.out.trans (HB2.out.mono HB1.out.size)).size))
  clear hck hx1 hx2 hr2 hb3 HT HR1 HX1 HB1 HB2 H3
  go_wp2
  clear ht
  have hlo := HTA.out.lo
  generalize plate f = pv
  generalize (Value.agg #[.int .u8 (f 0), .int .u8 (f 1), .int .u8 (f 2), .int .u8 (f 3), .int .u8 (f 4), .int .u8 (f 5), .int .u8 (f 6), .int .u8 (f 7), .int .u8 (f 8), .int .u8 (f 9), .int .u8 (f 10), .int .u8 (f 11), .int .u8 (f 12), .int .u8 (f 13), .int .u8 (f 14), .int .u8 (f 15), .int .u8 (f 16)]) = pv2
  go_loopw [8, 9, 30] (fun i k x wr => ∃ s : Nat, s ≤ T.length ∧ x = .int .i64 s ∧ i = .int .i64 (P.spS (P.blindAt T) T.length s).length ∧ k = .int .i64 (P.spS (P.twinAt T) T.length s).length ∧ Below w3.heap.size w3 wr) (fun _ _ x _ => T.length - (intOf x).toNat)
  case atStart => exact ⟨0, Nat.zero_le _, rfl, rfl, rfl, Below.refl _ _⟩
  case round => as_aux_lemma =>
    obtain ⟨s, hs, rfl, rfl, rfl, hb⟩ := hrel
    have HB := hid hb; clear hb
    by_cases hsl : s < T.length
    · go_wp2
      obtain ⟨wo, rfl⟩ : ∃ wo : World, wo = wr := ⟨_, rfl⟩
      go_loopw [8, 9, 35] (fun i k x wr => ∃ q : Nat, q ≤ T.length ∧ x = .int .i64 q ∧ i = .int .i64 (P.spS (P.blindAt T) T.length s ++ P.spA (P.blindAt T) T.length s q).length ∧ k = .int .i64 (P.spS (P.twinAt T) T.length s ++ P.spA (P.twinAt T) T.length s q).length ∧ Below w3.heap.size w3 wr) (fun _ _ x _ => T.length - (intOf x).toNat)
      case atStart =>
        refine ⟨0, Nat.zero_le _, rfl, ?_, ?_, HB.out⟩
        · rw [show P.spA (P.blindAt T) T.length s 0 = [] from rfl, List.append_nil]
        · rw [show P.spA (P.twinAt T) T.length s 0 = [] from rfl, List.append_nil]
      case round => as_aux_lemma =>
        clear HB
        obtain ⟨q, hq, rfl, rfl, rfl, hb⟩ := hrel
        have HB := hid hb; clear hb
        by_cases hql : q < T.length
        · rw [← P.pos_start, ← P.pos_start]
          go_wp2
          obtain ⟨wp, rfl⟩ : ∃ wp : World, wp = wr := ⟨_, rfl⟩
          go_loopw [8, 9, 12] (fun i k x wr => ∃ b : Nat, b ≤ T.length ∧ q < b ∧ x = .int .i64 b ∧ i = .int .i64 (P.pos (P.blindAt T) T.length s q b) ∧ k = .int .i64 (P.pos (P.twinAt T) T.length s q b) ∧ Below w3.heap.size w3 wr) (fun _ _ x _ => T.length - (intOf x).toNat)
          case atStart => exact ⟨q + 1, by omega, by omega, by go_num, rfl, rfl, HB.out⟩
          case round => as_aux_lemma =>
            clear HB
            obtain ⟨b, hbn, hqb, rfl, rfl, rfl, hb⟩ := hrel
            have HB := hid hb; clear hb
            by_cases hbl : b < T.length
            · go_wp2
              have hbW := HB.out.alloc HB.out.size (.cells #[.int .i64 s, .int .i64 q, .int .i64 b] 33)
              have x1 : (wr.alloc (.cells #[.int .i64 s, .int .i64 q, .int .i64 b] 33)).cell? ⟨wr.heap.size, 0, none⟩ = some (.int .i64 s) := by rw [World.cell?_alloc_at _ _ _ _ rfl]; rfl
              have x2 : (wr.alloc (.cells #[.int .i64 s, .int .i64 q, .int .i64 b] 33)).cell? ⟨wr.heap.size, 1, none⟩ = some (.int .i64 q) := by rw [World.cell?_alloc_at _ _ _ _ rfl]; rfl
              have x3 : (wr.alloc (.cells #[.int .i64 s, .int .i64 q, .int .i64 b] 33)).cell? ⟨wr.heap.size, 2, none⟩ = some (.int .i64 b) := by rw [World.cell?_alloc_at _ _ _ _ rfl]; rfl
              generalize wr.alloc (.cells #[.int .i64 s, .int .i64 q, .int .i64 b] 33) = W at *
              generalize wr.heap.size = X at *
              have hTW := HT3.out.stays hbW
              have c1 := sp_case HX1'.out (HR3.out.stays hbW) hsl hql hbl hqb
              have c2 := sp_case HX2.out (HR4.out.stays hbW) hsl hql hbl hqb
              have p1 := P.pos_succ (P.blindAt T) T.length s q b hqb
              have p2 := P.pos_succ (P.twinAt T) T.length s q b hqb
              have j1 := P.pos_len (P.blindAt T) h5 hsl hql hbl
              have j2 := P.pos_len (P.twinAt T) h5 hsl hql hbl
              generalize P.pos (P.blindAt T) T.length s q b = i1 at *
              generalize P.pos (P.twinAt T) T.length s q b = i2 at *
              have HP1 := hid p1
              have HP2 := hid p2
              have HBW := hid hbW
              have hq0 := HTA.out.sq
              have hp := hq0.at_lt hsl hql
              have hr := hq0.at_lt hsl hbl
              obtain ⟨b0, o0, b1, o1, d1, rfl, m1, k1⟩ := hTW.row hq0 hsl
              obtain ⟨b0', o0', b2, o2, d2, he, m2, k2⟩ := hTW.row hq0 hp
              simp only [Option.some.injEq, Addr.mk.injEq, and_true] at he
              obtain ⟨rfl, rfl⟩ := he
              obtain ⟨b0', o0', b3, o3, d3, he, m3, k3⟩ := hTW.row hq0 hr
              simp only [Option.some.injEq, Addr.mk.injEq, and_true] at he
              obtain ⟨rfl, rfl⟩ := he
              have y1 := k1 q hql
              have y2 := k1 b hbl
              have y3 := k2 b hbl
              have y4 := k3 q hql
              have y5 := k2 q hql
              have y6 := k3 b hbl
              have e1 : P.blindAt T s q b = (((P.at T (P.at T s q) b : Nat) : Int) == ((P.at T (P.at T s b) q : Nat) : Int)) := by
                unfold P.blindAt; rw [Bool.eq_iff_iff, beq_iff_eq, beq_iff_eq]; omega
              have e2 : P.twinAt T s q b = (((P.at T (P.at T s q) q : Nat) : Int) == ((P.at T (P.at T s b) b : Nat) : Int)) := by
                unfold P.twinAt; rw [Bool.eq_iff_iff, beq_iff_eq, beq_iff_eq]; omega
              rw [e1] at c1 HP1
              rw [e2] at c2 HP2
              generalize P.at T (P.at T s q) b = z1 at *
              generalize P.at T (P.at T s b) q = z2 at *
              generalize P.at T (P.at T s q) q = z3 at *
              generalize P.at T (P.at T s b) b = z4 at *
              generalize P.at T s q = pp at *
              generalize P.at T s b = rr at *
              have sa : (s : Int) < (T.length : Int) := by omega
              have aa : (q : Int) < (T.length : Int) := by omega
              have ba : (b : Int) < (T.length : Int) := by omega
              have pa : (pp : Int) < (T.length : Int) := by omega
              have qa : (rr : Int) < (T.length : Int) := by omega
              clear k1 k2 k3 hTW hbW hq0 p1 p2 e1 e2
              obtain ⟨p, hp1⟩ : ∃ p : Bool, ((z1 : Int) == (z2 : Int)) = p := ⟨_, rfl⟩
              obtain ⟨p', hp2⟩ : ∃ p' : Bool, ((z3 : Int) == (z4 : Int)) = p' := ⟨_, rfl⟩
              rw [hp1] at c1 HP1
              rw [hp2] at c2 HP2
              have C2 := hid c2
              clear c2
              go_quiet (fail)
              go_wp2
              go_cut [90] (fun s90 wx => s90 = .bool false ∧ ∃ nn, wx = W.drewN nn)
              case first => as_aux_lemma =>
                rcases c1 with ⟨f1, f2, b4, o4, rfl, f3, f4, f5⟩ | ⟨f1, f2, b4, o4, xa, xb, xc, rfl, f3, f4, f5, f6⟩ | ⟨f1, f2⟩
                rotate_left 2
                · have f3 : decide ((i1 : Int) < (xs1.length : Int)) = false := by simp; omega
                  have f4 : decide (i1 < xs1.length) = false := by simp; omega
                  clear f2
                  subst f1
                  go_quiet (fail)
                  go_wp2
                  go_meet
                  exact ⟨rfl, by first | exact ⟨_, rfl⟩ | exact ⟨_, World.drewN_drewN _ _ _⟩ | exact ⟨_, (congrArg (fun x => World.drewN x _) (World.drewN_drewN _ _ _)).trans (World.drewN_drewN _ _ _)⟩⟩
                all_goals
                  subst f1
                  go_quiet (fail)
                  go_wp2
                  go_meet
                  exact ⟨rfl, by first | exact ⟨_, rfl⟩ | exact ⟨_, World.drewN_drewN _ _ _⟩ | exact ⟨_, (congrArg (fun x => World.drewN x _) (World.drewN_drewN _ _ _)).trans (World.drewN_drewN _ _ _)⟩⟩
              case rest => as_aux_lemma =>
                obtain ⟨rfl, nn, rfl⟩ := hcut
                clear c1
                have c2 := C2.out
                cases p
                all_goals
                  go_wp2
                  go_quiet (fail)
                  go_wp2
                  go_cut [134] (fun s134 wx => s134 = .bool false ∧ ∃ nn, wx = W.drewN nn)
                  case first => as_aux_lemma =>
                    rcases c2 with ⟨g1, g2, b5, o5, rfl, g3, g4, g5⟩ | ⟨g1, g2, b5, o5, ya, yb, yc, rfl, g3, g4, g5, g6⟩ | ⟨g1, g2⟩
                    rotate_left 2
                    · have g3 : decide ((i2 : Int) < (xs2.length : Int)) = false := by simp; omega
                      have g4 : decide (i2 < xs2.length) = false := by simp; omega
                      clear g2
                      subst g1
                      go_quiet (fail)
                      go_wp2
                      go_meet
                      exact ⟨rfl, by first | exact ⟨_, rfl⟩ | exact ⟨_, World.drewN_drewN _ _ _⟩ | exact ⟨_, (congrArg (fun x => World.drewN x _) (World.drewN_drewN _ _ _)).trans (World.drewN_drewN _ _ _)⟩⟩
                    all_goals
                      subst g1
                      go_quiet (fail)
                      go_wp2
                      go_meet
                      exact ⟨rfl, by first | exact ⟨_, rfl⟩ | exact ⟨_, World.drewN_drewN _ _ _⟩ | exact ⟨_, (congrArg (fun x => World.drewN x _) (World.drewN_drewN _ _ _)).trans (World.drewN_drewN _ _ _)⟩⟩
                  case rest => as_aux_lemma =>
                    obtain ⟨rfl, n2, rfl⟩ := hcut
                    clear c2
                    cases p'
                    all_goals
                      go_wp2
                      go_roundw
                      case rel => exact ⟨b + 1, by omega, by omega, by go_num, by rw [HP1.out]; first | rfl | (simp; done) | (simp; go_num), by rw [HP2.out]; first | rfl | (simp; done) | (simp; go_num), below_same HBW.out ⟨rfl, rfl, rfl, rfl⟩⟩
                      case measure => simp [intOf]; omega
            · have hbe : b = T.length := by omega
              subst hbe
              rw [P.pos_end, P.pos_end]
              go_wp2
              go_roundw
              case rel => exact ⟨q + 1, by omega, by go_num, rfl, rfl, HB.out⟩
              case measure => simp [intOf]; omega
        · have hqe : q = T.length := by omega
          subst hqe
          rw [← P.spS_succ, ← P.spS_succ]
          go_wp2
          go_roundw
          case rel => exact ⟨s + 1, by omega, by go_num, rfl, rfl, HB.out⟩
          case measure => simp [intOf]; omega
    · have hse : s = T.length := by omega
      subst hse
      rw [← HX1'.out, ← HX2.out]
      go_wp2_with fail
      refine (works_any _).mono ?_
      rintro e w4 ⟨rfl, hb4⟩
      go_wp2
      go_ret
      exact ⟨rfl, (HB3.out.trans (HB.out.mono HB3.out.size)).trans (hb4.mono (HB3.out.trans (HB.out.mono HB3.out.size)).size)⟩

/-! The row's frame (the guide's template). -/
set_option linter.unusedVariables false in
set_option maxRecDepth 100000 in
theorem serialSpots_lifted (os : Os) (started : os.Started) (H : Type) (enc : TypeId × Value → H) :
    ReturnsInHanded {} Try.checked os 4 .any (Rows.serialSpotsSpec.pre6 enc Try.prog Try.f4 Rows.serialSpotsRow.domain false) (Rows.serialSpotsSpec.post enc Try.prog Try.f4 false true false false) := by
  refine returnsInHanded_of_change (C := Try.checked) own started (by kernel_rfl) Try.func4
    (ChangeSpec.witness6 (enc := enc) (C := Try.checked) false ⟨#[], #[.agg #[.int .u8 0, .int .u8 0, .int .u8 0, .int .u8 0, .int .u8 0, .int .u8 0, .int .u8 0, .int .u8 0, .int .u8 0, .int .u8 0, .int .u8 0, .int .u8 0, .int .u8 0, .int .u8 0, .int .u8 0, .int .u8 0, .int .u8 0]], []⟩ 8 (by kernel_rfl) (by kernel_rfl) (by kernel_rfl) (by kernel_rfl)) ?_
  intro W base args ds gs before hval0 hW hcnd _
  have hval : ∀ (j : Nat) t v, Try.f4.params[j]? = some t → args[j]? = some v → Value.okWide Try.prog W .any base t v := hval0
  have hW' := hW
  obtain ⟨p, q, hA0, hV, rfl, hfz, hnd⟩ := hW
  have hA : DataW.TrodAll enc Try.prog W 0 (fun _ => true) true Try.f4.params.toList args.toList ds p := hA0
  rw [Try.params4] at hA hval
  obtain ⟨v0, vs0, d0, ds0, p0, q0, hargs, rfl, rfl, h0, r0⟩ := trodAll_cons hA
  obtain ⟨rfl, rfl, rfl⟩ := trodAll_nil r0
  obtain rfl : args = #[v0] := by cases args; simp_all
  obtain ⟨rfl, rfl⟩ := trodVars_none hV
  have k0 := h0
  have lt0 : ∀ x ∈ p0, x.block < W.heap.size := by obtain ⟨m, hm⟩ := k0; exact DataW.trod_lt m _ _ _ hm
  obtain ⟨c0, hv0, hc0⟩ := open_plate (hval 0 24 v0 rfl rfl) h0
  subst hv0
  clear hA0 hval0
  refine (serialSpots_walk W c0 hc0 ).mono fun e W' ⟨he, bel⟩ => ?_
  subst he
  exact ⟨_, rfl, _, _, _, [], _, [], hW', trodAll_mk1 (shut_bool Try.underlying4 _), (trodAll_cons_mk (Below.trod laidOut (by kernel_rfl) (of_decide_eq_true (by kernel_rfl)) k0 bel lt0) trodAll_mk0), rfl, bel.frame _, fun h => by cases h⟩

theorem serialSpots_over : Rows.serialSpotsRow.holds Try.pinned (OpenSpec.ofChange Rows.serialSpotsSpec) :=
  OpenClaim.holds_of_wide 4 Try.f4 rfl rfl rfl rfl rfl rfl rfl ⟨rfl, rfl, rfl, rfl, rfl⟩ rfl rfl rfl rfl rfl (by kernel_rfl) Try.func4 (by kernel_rfl)
    (of_decide_eq_true (by kernel_rfl)) (by unfold Func.isWrapper; first | (rw [if_pos (by decide +kernel)]; kernel_rfl) | (rw [if_neg (by decide +kernel)]; exact ⟨rfl, rfl⟩))
    (fun os started H enc _ => serialSpots_lifted os started H enc)

theorem serialSpots_proved : Rows.SerialSpotsSaid := serialSpots_over

end Go.Proofs.Ytlpdlnefgjmgmaa
