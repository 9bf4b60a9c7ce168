/- Package tuscheref11: the walk of Locate. -/
import Derived.Test.YthaoacnaeafbeaaXLo2
import Derived.Test.YthaoacnaeafbeaaXRef
import Derived.BigRegion
namespace Go.Proofs.Ythaoacnaeafbeaa
open Go.RowKit

/-- The lists are equal so far. -/
def X.eqk (xs ys : List Int) (k : Nat) : Bool := decide (xs.length = ys.length ∧ ∀ j, j < k → xs.getD j 0 = ys.getD j 0)
theorem X.eqk_all {xs ys : List Int} : X.eqk xs ys ys.length = decide (xs = ys) := by
  unfold X.eqk
  rw [decide_eq_decide]
  constructor
  · rintro ⟨h1, h2⟩
    refine List.ext_getElem h1 fun k h3 h4 => ?_
    have := h2 k h4
    simpa [List.getD, h3, h4] using this
  · intro h
    rw [h]
    exact ⟨rfl, fun _ _ => rfl⟩
theorem X.eqk_false {xs ys : List Int} {k : Nat} (h : X.eqk xs ys k = false) : decide (xs = ys) = false := by
  unfold X.eqk at h
  rw [decide_eq_false_iff_not] at h ⊢
  intro e
  exact h (by rw [e]; exact ⟨rfl, fun _ _ => rfl⟩)
theorem X.eqk_succ {xs ys : List Int} {k : Nat} (h : X.eqk xs ys k = true) : X.eqk xs ys (k + 1) = decide (xs.getD k 0 = ys.getD k 0) := by
  unfold X.eqk at *
  rw [decide_eq_true_eq] at h
  rw [decide_eq_decide]
  constructor
  · rintro ⟨_, h2⟩; exact h2 k (by omega)
  · intro e
    refine ⟨h.1, fun j hj => ?_⟩
    by_cases ej : j = k
    · rw [ej]; exact e
    · exact h.2 j (by omega)
theorem X.eqk_len {xs ys : List Int} {k : Nat} (h : X.eqk xs ys k = true) : xs.length = ys.length := by
  unfold X.eqk at h
  rw [decide_eq_true_eq] at h
  exact h.1
theorem X.eqk_zero {xs ys : List Int} : X.eqk xs ys 0 = ((xs.length : Int) == (ys.length : Int)) := by
  unfold X.eqk
  rw [Bool.eq_iff_iff]
  simp only [decide_eq_true_eq, beq_iff_eq]
  constructor
  · rintro ⟨h, _⟩; omega
  · intro h; exact ⟨by omega, fun j h => absurd h (Nat.not_lt_zero _)⟩

set_option maxHeartbeats 16000000 in
set_option maxRecDepth 100000 in
theorem refLocate_any (a b : Option Addr) (c d : Nat) (l : List Int) (wd : Int) (se : List Int) (w : World) (hm : l.length ≤ maxLen) (hm2 : se.length ≤ 40) (hl : RdI w a l) (hse : RdI w b se) :
    Calls Try.prog 28 #[.slice a l.length c, .int .i64 wd, .slice b se.length d] w (X.LE (X.loV l wd se) (X.loE l wd se) w) := by
  obtain ⟨i0, hi, hz0, hz1, hz2⟩ := info_parts (show (Try.prog.info? 3).map (fun i => (i.zero, i.size, i.bytes)) = some (some (.int .i64 0), 1, 8) by kernel_rfl)
  have HC := hid (refCheck_any a c l w hm hl)
  have HW := hid (fun W => is_any wd 0 60 W)
  unfold X.loV
  by_cases h0 : X.chk l = 0
  · have hok := X.chk_zero.1 h0
    have h2 := hok.two
    have h8 := hok.eight
    rw [h0] at HC
    cases hw : X.wi wd 0 60 with
    | false =>
      have HE : Hid (X.loE l wd se = 4) := hid (by unfold X.loE; rw [if_pos h0, hw]; rfl)
      rw [hw] at HW
      rw [HE.out, if_neg (show ¬ (4 : Int) = 0 by omega)]
      clear hw hl hse h0 hok
      go_enter Try.func28, Try.ntmps28
      go_wp2_with fail
      refine HC.out.mono ?_
      rintro e w1 ⟨rfl, hb⟩
      have HB := hid hb
      clear hb
      go_wp2_with fail
      refine (HW.out _).mono ?_
      rintro e w2 ⟨rfl, rfl⟩
      go_wp2
      go_ret2
      exact ⟨none, 0, rfl, RdI.nil _ _, HB.out⟩
    | true =>
      have hwd := X.wi_true.1 hw
      have HV : Hid (X.loE l wd se = X.asc wd se) := hid (by unfold X.loE; rw [if_pos h0, hw]; rfl)
      rw [hw] at HW
      rw [HV.out]
      have HE : Hid (X.asc wd se = X.fst (X.er wd se) se.length) := hid rfl
      have HF : Hid (∀ k, X.er wd se k = if X.wi (se.getD k 0) 0 wd = false then (4 : Int) else if 0 < k ∧ se.getD k 0 ≤ se.getD (k - 1) 0 then 7 else 0) := hid (fun k => rfl)
      have HI := hid (fun x W => is_any x 0 wd W)
      have HIS := hid (fun x sh W => is_any x sh (sh + wd) W)
      have HSE := hid hse
      have HOK := hid hok
      have HSW := hid (fun sh k => X.sw_succ l wd sh k)
      have HSWL := hid (fun sh k => X.sw_len l wd sh k)
      have HSW0 : Hid (∀ sh, X.sw l wd sh 0 = []) := hid (fun _ => rfl)
      have HSU := hid (X.lo_succ l wd se)
      have HLL := hid (X.lo_len l wd se)
      have HS0 : Hid (X.lo l wd se 0 = []) := hid rfl
      obtain ⟨bb, o, rfl, _⟩ := X.num hl (show 0 < l.length by omega)
      have HL := hid (fun W (h : Below w.heap.size w W) j (hj : j < l.length) => show W.cell? ⟨bb, o + j, none⟩ = some (.int .i64 (l.getD j 0)) by
        obtain ⟨b', o', he, hc⟩ := X.num hl hj
        simp only [Option.some.injEq, Addr.mk.injEq, and_true] at he
        obtain ⟨rfl, rfl⟩ := he
        exact cell_stays h (Nat.le_refl _) hc)
      generalize X.asc wd se = r at *
      generalize X.er wd se = f at *
      generalize X.lo l wd se = F at *
      generalize X.sw l wd = G at *
      obtain ⟨V, hV⟩ : ∃ V, (if r = 0 then F 121 else []) = V := ⟨_, rfl⟩
      rw [hV]
      have HVV := hid hV.symm
      clear hw hl hse h0 hok HV hV
      go_enter Try.func28, Try.ntmps28
      go_wp2_with fail
      refine HC.out.mono ?_
      rintro e w1 ⟨rfl, hb⟩
      have HB := hid hb
      clear hb
      go_wp2_with fail
      refine (HW.out _).mono ?_
      rintro e w2 ⟨rfl, rfl⟩
      go_wp2_with fail
      go_loopw [9] (fun i wr => ∃ k : Nat, k ≤ se.length ∧ i = .int .i64 k ∧ X.fst f k = 0 ∧ Below w.heap.size w wr) (fun i _ => se.length - (intOf i).toNat)
      case atStart => exact ⟨0, Nat.zero_le _, rfl, rfl, HB.out⟩
      case round => as_aux_lemma =>
        obtain ⟨k, hk, rfl, hz, hb⟩ := hrel
        have HZ := hid hz
        have HBW := hid hb
        by_cases hlt2 : k < se.length
        · obtain ⟨b2, o2, rfl, hck⟩ := X.num (HSE.out.stays hb) hlt2
          have HFK := hid (HF.out k)
          have HK : Hid (f k ≠ 0 → X.fst f se.length = f k) := hid (fun h => X.fst_at HZ.out hlt2 h)
          have HK2 : Hid (f k = 0 → X.fst f (k + 1) = 0) := hid (fun h => X.fst_step HZ.out h)
          have hkk : (0 : Int) ≤ (k : Int) ∧ (k : Int) < (se.length : Int) := by omega
          have HIX := hid (fun W => HI.out (se.getD k 0) W)
          cases h1 : X.wi (se.getD k 0) 0 wd with
          | false =>
            have HR : Hid (r = 4) := hid (by
              have e := HFK.out; rw [if_pos h1] at e
              rw [HE.out, HK.out (by omega), e])
            rw [h1] at HIX
            generalize se.getD k 0 = x at *
            clear h1 hb hz
            go_wp2_with fail
            refine (HIX.out _).mono ?_
            rintro e w5 ⟨rfl, rfl⟩
            go_wp2
            go_ret2
            have hv : V = [] := by rw [HVV.out, HR.out, if_neg (show ¬ (4 : Int) = 0 by omega)]
            rw [HR.out, hv]
            exact ⟨none, 0, rfl, RdI.nil _ _, HBW.out⟩
          | true =>
            by_cases hk0 : k = 0
            · subst hk0
              simp only [Nat.add_zero] at hck
              have HR := hid (HK2.out (by rw [HFK.out, if_neg (by rw [h1]; simp), if_neg (by omega)]))
              rw [h1] at HIX
              generalize se.getD 0 0 = x at *
              have hnk : ¬ ((0 : Int) < 0) := by omega
              clear h1 hb hz
              go_wp2_with fail
              refine (HIX.out _).mono ?_
              rintro e w5 ⟨rfl, rfl⟩
              go_wp2
              go_quiet (fail)
              go_wp2
              go_roundw
              case rel => exact ⟨0 + 1, by omega, by go_num, HR.out, below_drewN HBW.out _⟩
              case measure => simp [intOf]; omega
            · obtain ⟨b3, o3, he3, hcp⟩ := X.num (HSE.out.stays hb) (show k - 1 < se.length by omega)
              simp only [Option.some.injEq, Addr.mk.injEq, and_true] at he3
              obtain ⟨rfl, rfl⟩ := he3
              have hk1 : (0 : Int) < (k : Int) := by omega
              have hk1d : decide ((0 : Int) < (k : Int)) = true := by simpa using hk1
              have hk1e : decide (0 < k) = true := by simp; omega
              have hk2 : ((k - 1 : Nat) : Int) = (k : Int) - 1 := by omega
              have hk3 : (0 : Int) ≤ (k : Int) - 1 ∧ (k : Int) - 1 < (se.length : Int) := by omega
              have hk4 : ((k : Int) - 1).toNat = k - 1 := by omega
              by_cases h3 : se.getD k 0 ≤ se.getD (k - 1) 0
              · have HR : Hid (r = 7) := hid (by
                  have e := HFK.out; rw [if_neg (by rw [h1]; simp), if_pos ⟨by omega, h3⟩] at e
                  rw [HE.out, HK.out (by omega), e])
                rw [h1] at HIX
                have h3' : decide (se.getD k 0 ≤ se.getD (k - 1) 0) = true := by simpa using h3
                generalize se.getD k 0 = x at *
                generalize se.getD (k - 1) 0 = y at *
                clear h1 hb hz
                go_wp2_with fail
                refine (HIX.out _).mono ?_
                rintro e w5 ⟨rfl, rfl⟩
                go_wp2
                go_quiet (fail)
                go_wp2
                go_ret2
                have hv : V = [] := by rw [HVV.out, HR.out, if_neg (show ¬ (7 : Int) = 0 by omega)]
                rw [HR.out, hv]
                exact ⟨none, 0, rfl, RdI.nil _ _, below_drewN HBW.out _⟩
              · have h3' : decide (se.getD k 0 ≤ se.getD (k - 1) 0) = false := by simpa using h3
                have HR := hid (HK2.out (by rw [HFK.out, if_neg (by rw [h1]; simp), if_neg (fun h => h3 h.2)]))
                rw [h1] at HIX
                generalize se.getD k 0 = x at *
                generalize se.getD (k - 1) 0 = y at *
                clear h1 hb hz
                go_wp2_with fail
                refine (HIX.out _).mono ?_
                rintro e w5 ⟨rfl, rfl⟩
                go_wp2
                go_quiet (fail)
                go_wp2
                go_roundw
                case rel => exact ⟨k + 1, by omega, by go_num, HR.out, below_drewN HBW.out _⟩
                case measure => simp [intOf]; omega
        · have hke : k = se.length := by omega
          subst hke
          have HR : Hid (r = 0) := hid (by rw [HE.out, HZ.out])
          have HVF : Hid (V = F 121) := hid (by rw [HVV.out, HR.out, if_pos rfl])
          clear hb hz HE HF HI HZ HC HW HVV
          generalize wr = w3 at *
          have HBS := hid HBW.out.size
          go_wp2_with fail
          go_loopw [10, 11] (fun v s wr => ∃ k : Nat, k ≤ 121 ∧ s = .int .i64 ((k : Int) - 60) ∧ RowI wr w3.heap.size v (F k) ∧ Below w3.heap.size w3 wr) (fun _ s _ => (61 - intOf s).toNat)
          case atStart => exact ⟨0, by omega, by go_num, by rw [HS0.out]; exact RowI.nil _ _, Below.refl _ _⟩
          case round => as_aux_lemma =>
            obtain ⟨k, hk, rfl, hown, hb⟩ := hrel
            have HOW := hid hown
            have HB3 := hid hb
            clear hown hb
            generalize wr = w4 at *
            by_cases hlt : k < 121
            · have hle : (k : Int) - 60 ≤ 60 := by omega
              obtain ⟨sh, hsh⟩ : ∃ sh : Int, (k : Int) - 60 = sh := ⟨_, rfl⟩
              have hs1 : -60 ≤ sh ∧ sh ≤ 60 := by omega
              have HSK := hid (HSU.out k)
              have hfl := HLL.out k
              rw [hsh] at HSK
              have HSHE : Hid (((k + 1 : Nat) : Int) - 60 = sh + 1) := hid (by omega)
              have HKS : Hid (k = (sh + 60).toNat) := hid (by omega)
              rw [hsh] at hle ⊢
              have HGS := hid (HSW.out sh)
              have HGL := hid (HSWL.out sh)
              have HG0 := hid (HSW0.out sh)
              have HIS2 := hid (fun x W => HIS.out x sh W)
              have hwr1 : IntKind.i64.wrap (sh + wd) = sh + wd := IntWalk.i64_in _ (by omega)
              generalize G sh = g at *
              clear hsh
              go_wp2_with fail
              go_loopw [12, 13] (fun v s wr => ∃ j : Nat, j ≤ l.length ∧ s = .int .i64 j ∧ RowI wr w4.heap.size v (g j) ∧ Below w4.heap.size w4 wr) (fun _ s _ => l.length - (intOf s).toNat)
              case atStart => exact ⟨0, Nat.zero_le _, rfl, by rw [HG0.out]; exact RowI.nil _ _, Below.refl _ _⟩
              case round => as_aux_lemma =>
                obtain ⟨j, hj, rfl, hown, hb⟩ := hrel
                have HO4 := hid hown
                have HB4 := hid hb
                have HBW4 := hid (HBW.out.trans ((HB3.out.trans (hb.mono HB3.out.size)).mono HBS.out))
                clear hown hb
                by_cases hjl : j < l.length
                · have y0 := HL.out wr HBW4.out j hjl
                  have hx0 := HOK.out.up.lo j hjl
                  have hx1 := HOK.out.up.hi j hjl
                  have hjj : (0 : Int) ≤ (j : Int) ∧ (j : Int) < (l.length : Int) := by omega
                  have HS := hid (HGS.out j)
                  have hgl := HGL.out j
                  have HIX := hid (HIS2.out (l.getD j 0))
                  generalize l.getD j 0 = x at *
                  generalize g j = K at *
                  have hwr2 : IntKind.i64.wrap (x - sh) = x - sh := IntWalk.i64_in _ (by omega)
                  by_cases hin : sh ≤ x ∧ x ≤ sh + wd
                  · rw [X.wi_true.2 hin] at HIX
                    have HS2 : Hid (g (j + 1) = K ++ [x - sh]) := hid (by rw [HS.out, if_pos hin])
                    have HM1' : Hid (K.length + 1 ≤ maxLen) := hid (by unfold maxLen; omega)
                    have HM2' : Hid ((K.length + 1) * 8 ≤ 140737488355328) := hid (by omega)
                    clear hin
                    go_wp2_with fail
                    refine (HIX.out _).mono ?_
                    rintro e w5 ⟨rfl, rfl⟩
                    go_wp2_with (at_builtin; refine wpList_append_own _ rfl _ _ 22 rfl w4.heap.size 3 i0 (.int .i64 0) 1 8 Try.underlying22 hi hz0 hz1 hz2 rfl (by decide) _ _ _ rfl (World.ownsRow.alloc HO4.out _) ⟨w5.heap.size, 0, none⟩ 1 1 [.int .i64 (x - sh)] rfl rfl (X.Lit.one' _ _ _ _ rfl) (X.one1 _) HM1'.out HM2'.out (Nat.le_trans HB4.out.size (by simp)) ?_; intro v' w9 hown' hgrow _)
                    have HB9 := hid (Below.grown (HB4.out.alloc HB4.out.size (.cells #[.int .i64 (x - sh)] 3)) hgrow (by simp; have := HB4.out.size; omega) (fun q hq => (World.ownsRow.lt HO4.out q hq).1))
                    have HO9 := hid (RowI.push hown')
                    clear hown' hgrow
                    go_wp2
                    go_roundw
                    case rel => exact ⟨j + 1, by omega, by go_num, by rw [HS2.out]; exact HO9.out, HB9.out⟩
                    case measure => simp [intOf]; omega
                  · rw [X.wi_false.2 hin] at HIX
                    have HS2 : Hid (g (j + 1) = K) := hid (by rw [HS.out, if_neg hin, List.append_nil])
                    clear hin
                    go_wp2_with fail
                    refine (HIX.out _).mono ?_
                    rintro e w5 ⟨rfl, rfl⟩
                    go_wp2
                    go_roundw
                    case rel => exact ⟨j + 1, by omega, by go_num, by rw [HS2.out]; exact HO4.out, HB4.out⟩
                    case measure => simp [intOf]; omega
                · have hje : j = l.length := by omega
                  subst hje
                  have hgl := HGL.out l.length
                  obtain ⟨x, cx, rfl, hr⟩ := HO4.out.rd
                  have HR2 := hid hr
                  have HBS4 := hid HBW4.out.size
                  have HEA := hid (X.eqk_all (xs := g l.length) (ys := se))
                  have HEF := hid (fun k h => X.eqk_false (xs := g l.length) (ys := se) (k := k) h)
                  have HES := hid (fun k h => X.eqk_succ (xs := g l.length) (ys := se) (k := k) h)
                  have HEL := hid (fun k h => X.eqk_len (xs := g l.length) (ys := se) (k := k) h)
                  have HEZ := hid (X.eqk_zero (xs := g l.length) (ys := se))
                  generalize g l.length = N at *
                  generalize X.eqk N se = q at *
                  clear hr HGS HGL HG0
                  generalize wr = w6 at *
                  go_wp2_with fail
                  go_loopw [14, 15] (fun f s wr => ∃ i : Nat, i ≤ se.length ∧ s = .int .i64 i ∧ f = .bool (q i) ∧ Below w6.heap.size w6 wr) (fun _ s _ => se.length - (intOf s).toNat)
                  case atStart => exact ⟨0, Nat.zero_le _, rfl, by rw [HEZ.out], Below.refl _ _⟩
                  case round => as_aux_lemma =>
                    obtain ⟨i, hil, rfl, rfl, hb⟩ := hrel
                    have HBX := hid hb
                    have HRX := hid (HR2.out.stays hb)
                    have HSX := hid (HSE.out.stays (HBW4.out.trans (hb.mono HBS4.out)))
                    have HO7 := hid (HOW.out.stays (HB4.out.trans (hb.mono HB4.out.size)))
                    have HB7 := hid (HB3.out.trans ((HB4.out.trans (hb.mono HB4.out.size)).mono HB3.out.size))
                    clear hb
                    by_cases hie : i < se.length
                    · have hii : (0 : Int) ≤ (i : Int) ∧ (i : Int) < (se.length : Int) := by omega
                      have hild : decide ((i : Int) < (se.length : Int)) = true := by simp; omega
                      cases hq : q i with
                      | true =>
                        have hln := HEL.out i hq
                        have HLN := hid hln
                        have HES2 := hid (HES.out i hq)
                        obtain ⟨b5, o5, rfl, hc5⟩ := X.num HRX.out (show i < N.length by omega)
                        obtain ⟨b6, o6, rfl, hc6⟩ := X.num HSX.out hie
                        have hii2 : (0 : Int) ≤ (i : Int) ∧ (i : Int) < (N.length : Int) := by omega
                        generalize N.getD i 0 = xx at *
                        generalize se.getD i 0 = yy at *
                        clear hq hln
                        by_cases hxy : xx = yy
                        · have HQ2 : Hid (q (i + 1) = true) := hid (by rw [HES2.out, decide_eq_true hxy])
                          have heq : (xx == yy) = true := by simpa using hxy
                          clear hxy
                          go_wp2
                          go_quiet (fail)
                          go_wp2
                          go_roundw
                          case rel => exact ⟨i + 1, by omega, by go_num, by rw [HQ2.out], below_drewN HBX.out _⟩
                          case measure => simp [intOf]; omega
                        · have HQ2 : Hid (q (i + 1) = false) := hid (by rw [HES2.out, decide_eq_false hxy])
                          have heq : (xx == yy) = false := by simpa using hxy
                          clear hxy
                          go_wp2
                          go_quiet (fail)
                          go_wp2
                          go_roundw
                          case rel => exact ⟨i + 1, by omega, by go_num, by rw [HQ2.out], below_drewN HBX.out _⟩
                          case measure => simp [intOf]; omega
                      | false =>
                        have HEQ : Hid (¬ N = se) := hid (of_decide_eq_false (HEF.out i hq))
                        clear hq
                        have HSK2 : Hid (F (k + 1) = F k) := hid (by rw [HSK.out, if_neg HEQ.out, List.append_nil])
                        go_wp2
                        go_roundw
                        case rel => exact ⟨k + 1, by omega, by rw [HSHE.out], by rw [HSK2.out]; exact HO7.out, HB7.out⟩
                        case measure => simp [intOf]; omega
                    · have hie2 : i = se.length := by omega
                      have hild : decide ((i : Int) < (se.length : Int)) = false := by simp; omega
                      subst hie2
                      cases hq : q se.length with
                      | true =>
                        have HEQ : Hid (N = se) := hid (of_decide_eq_true (HEA.out.symm.trans hq))
                        clear hq
                        have HSK2 : Hid (F (k + 1) = F k ++ [sh]) := hid (by rw [HSK.out, if_pos HEQ.out])
                        have HM1' : Hid ((F k).length + 1 ≤ maxLen) := hid (by unfold maxLen; omega)
                        have HM2' : Hid (((F k).length + 1) * 8 ≤ 140737488355328) := hid (by omega)
                        generalize F k = FK at *
                        go_wp2_with (at_builtin; refine wpList_append_own _ rfl _ _ 22 rfl w3.heap.size 3 i0 (.int .i64 0) 1 8 Try.underlying22 hi hz0 hz1 hz2 rfl (by decide) _ _ _ rfl (World.ownsRow.alloc HO7.out _) ⟨wr.heap.size, 0, none⟩ 1 1 [.int .i64 sh] rfl rfl (X.Lit.one' _ _ _ _ rfl) (X.one1 _) HM1'.out HM2'.out (Nat.le_trans HB7.out.size (by simp)) ?_; intro v' w9 hown' hgrow _)
                        have HB9 := hid (Below.grown (HB7.out.alloc HB7.out.size (.cells #[.int .i64 sh] 3)) hgrow (by simp; have := HB7.out.size; omega) (fun q hq => (World.ownsRow.lt HO7.out q hq).1))
                        have HO9 := hid (RowI.push hown')
                        clear hown' hgrow
                        go_wp2
                        go_roundw
                        case rel => exact ⟨k + 1, by omega, by rw [HSHE.out], by rw [HSK2.out]; exact HO9.out, HB9.out⟩
                        case measure => simp [intOf]; omega
                      | false =>
                        have HEQ : Hid (¬ N = se) := hid (of_decide_eq_false (HEA.out.symm.trans hq))
                        clear hq
                        have HSK2 : Hid (F (k + 1) = F k) := hid (by rw [HSK.out, if_neg HEQ.out, List.append_nil])
                        go_wp2
                        go_roundw
                        case rel => exact ⟨k + 1, by omega, by rw [HSHE.out], by rw [HSK2.out]; exact HO7.out, HB7.out⟩
                        case measure => simp [intOf]; omega
            · have hke : k = 121 := by omega
              subst hke
              have hle : ¬ (((121 : Nat) : Int) - 60 ≤ 60) := by omega
              rw [← HVF.out] at HOW
              obtain ⟨x, cx, rfl, hr⟩ := HOW.out.rd
              have HR3 := hid hr
              have HBE := hid (HBW.out.trans (HB3.out.mono HBS.out))
              clear hr
              go_wp2
              go_ret2
              exact ⟨x, cx, by rw [HR.out]; rfl, HR3.out, HBE.out⟩
  · have HE : Hid (X.loE l wd se = X.chk l) := hid (by unfold X.loE; rw [if_neg h0])
    rw [HE.out, if_neg h0]
    have hne : (X.chk l != 0) = true := by rw [bne_iff_ne]; exact h0
    have hne2 : (X.chk l == 0) = false := by rw [beq_eq_false_iff_ne]; exact h0
    generalize X.chk l = z at *
    clear hl hse h0
    go_enter Try.func28, Try.ntmps28
    go_wp2_with fail
    refine HC.out.mono ?_
    rintro e w1 ⟨rfl, hb⟩
    have HB := hid hb
    clear hb
    go_wp2
    go_ret2
    exact ⟨none, 0, rfl, RdI.nil _ _, HB.out⟩
end Go.Proofs.Ythaoacnaeafbeaa
