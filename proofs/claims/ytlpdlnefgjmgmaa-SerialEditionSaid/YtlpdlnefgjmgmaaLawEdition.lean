/- SerialEdition: for every plate, size and number, the codes of an edition are right, are found again, and come in order. No condition. -/
import Derived.Test.YtlpdlnefgjmgmaaPlate
import Derived.Test.YtlpdlnefgjmgmaaEdit
import Derived.Test.YtlpdlnefgjmgmaaEnds
import Derived.Test.YtlpdlnefgjmgmaaWorks
import Derived.ShutString
import Derived.ChangeOld
import Derived.Below
import Derived.BigQuiet
import Derived.Deep.QuietTactic
import Derived.StillTailTactics
namespace Go.Proofs.Ytlpdlnefgjmgmaa
open Go.ChangeShapes Go.WideShapes Go.ChangeAt Go.RowKit

theorem RdI.take {w : World} {r : Option Addr} {xs : List Int} (h : RdI w r xs) (k : Nat) : RdI w r (xs.take k) := fun j hj => by
  have hj' : j < k ∧ j < xs.length := by simpa [List.length_take, Nat.lt_min] using hj
  obtain ⟨b, off, he, hc⟩ := h j hj'.2
  exact ⟨b, off, he, by rw [List.getElem_take]; exact hc⟩

theorem ed_code (a : Option Addr) (c : Nat) (T : List (List Int)) (k n : Nat) (w : World) (ht : Tab T) (h2 : 2 ≤ k) (h6 : k ≤ 6) (h5 : T.length ≤ 5) (hn : n < T.length ^ (k - 1)) (hT : RdM w a T) :
    Calls Try.prog 19 #[.slice a T.length c, .int .i64 k, .int .i64 n] w
      fun e w' => ∃ r cr, e = .returned (.tuple #[.slice r k cr, .int .i64 0]) ∧ k ≤ cr ∧ RdI w' r (P.ed T k n) ∧ Below w.heap.size w w' := by
  have hb : n < 10000 := Nat.lt_of_lt_of_le hn (Nat.le_trans (Nat.pow_le_pow_left h5 _) (Nat.le_trans (Nat.pow_le_pow_right (by omega) (show k - 1 ≤ 5 by omega)) (by decide)))
  refine (code_any a c T k n w (by omega) hT).mono ?_
  rintro e w' ⟨r, cr, xs, rfl, hcr, hxs, hr, hb⟩
  rw [ht.code_eq h2 (by omega) hn] at hxs
  simp only at hxs
  subst hxs
  rw [ht.code_eq h2 (by omega) hn]
  rw [P.ed_length T n (by omega)] at hcr ⊢
  exact ⟨r, cr, rfl, hcr, hr, hb⟩

theorem ed_out (a : Option Addr) (c : Nat) (T : List (List Int)) (k n : Nat) (w : World) (ht : Tab T) (h2 : 2 ≤ k) (h6 : k ≤ 6) (h5 : T.length ≤ 5) (hn : n = T.length ^ (k - 1)) (hT : RdM w a T) :
    Calls Try.prog 19 #[.slice a T.length c, .int .i64 k, .int .i64 n] w
      fun e w' => ∃ r cr, e = .returned (.tuple #[.slice r 0 cr, .int .i64 4]) ∧ Below w.heap.size w w' := by
  have hb : n < 10000 := by
    rw [hn]
    exact Nat.lt_of_le_of_lt (Nat.le_trans (Nat.pow_le_pow_left h5 _) (Nat.pow_le_pow_right (by omega) (show k - 1 ≤ 5 by omega))) (by decide)
  refine (code_any a c T k n w (by omega) hT).mono ?_
  rintro e w' ⟨r, cr, xs, rfl, _, hxs, _, hb⟩
  rw [ht.code_out h2 (by omega) hn] at hxs
  simp only at hxs
  subst hxs
  rw [ht.code_out h2 (by omega) hn]
  exact ⟨r, cr, rfl, hb⟩

theorem ed_number (a r : Option Addr) (c cr : Nat) (T : List (List Int)) (k n : Nat) (w : World) (ht : Tab T) (h2 : 2 ≤ k) (h6 : k ≤ 6) (hn : n < T.length ^ (k - 1)) (hcr : k ≤ cr) (hT : RdM w a T) (hr : RdI w r (P.ed T k n)) :
    Calls Try.prog 20 #[.slice a T.length c, .slice r k cr] w
      fun e w' => e = .returned (.tuple #[.int .i64 n, .int .i64 0]) ∧ Below w.heap.size w w' := by
  have hl := P.ed_length T n (show 1 ≤ k by omega)
  have h := number_any a r c cr T _ w (by rw [hl]; unfold maxLen; omega) (by rw [hl]; exact hcr) hT hr
  rw [ht.ed_number h2 (by omega) hn, hl] at h
  exact h

theorem ed_digit (a r : Option Addr) (c cr : Nat) (T : List (List Int)) (k n : Nat) (w : World) (ht : Tab T) (h2 : 2 ≤ k) (h6 : k ≤ 6) (hT : RdM w a T) (hr : RdI w r (P.ed T k n)) :
    Calls Try.prog 21 #[.slice a T.length c, .slice r (k - 1) cr] w
      fun e w' => e = .returned (.tuple #[.int .i64 (P.ckd T (P.low T.length (k - 1) n) : Nat), .int .i64 0]) ∧ Below w.heap.size w w' := by
  have h := digit_any a r c cr T (P.low T.length (k - 1) n) w (by rw [P.low_length]; unfold maxLen; omega) hT (by rw [← P.ed_take]; exact hr.take _)
  rw [ht.ed_digit (by omega), P.low_length] at h
  exact h

theorem ed_state (a r : Option Addr) (c cr : Nat) (T : List (List Int)) (k n : Nat) (w : World) (ht : Tab T) (h2 : 2 ≤ k) (h6 : k ≤ 6) (hT : RdM w a T) (hr : RdI w r (P.ed T k n)) :
    Calls Try.prog 22 #[.slice a T.length c, .slice r (k - 1) cr] w
      fun e w' => e = .returned (.tuple #[.int .i64 (P.after T (P.low T.length (k - 1) n) : Nat), .int .i64 0]) ∧ Below w.heap.size w w' := by
  have h := state_any a r c cr T (P.low T.length (k - 1) n) w (by rw [P.low_length]; unfold maxLen; omega) hT (by rw [← P.ed_take]; exact hr.take _)
  rw [ht.ed_state (by omega), P.low_length] at h
  exact h

theorem ed_ends (a r : Option Addr) (c cr : Nat) (T : List (List Int)) (k n : Nat) (w : World) (ht : Tab T) (h2 : 2 ≤ k) (h6 : k ≤ 6) (hT : RdM w a T) (hr : RdI w r (P.ed T k n)) :
    Calls Try.prog 14 #[.slice a T.length c, .slice r k cr] w fun e w' => e = .returned (.int .i64 0) ∧ w = w' := by
  have hl := P.ed_length T n (show 1 ≤ k by omega)
  have h := ends_any a r c cr T _ w (by rw [hl]; unfold maxLen; omega) hT ht.sq (by have := ht.lo; omega) hr (ht.ed_dg _ _)
  rw [ht.ed_after, hl] at h
  exact h

theorem ed_ends2 (a r : Option Addr) (c cr : Nat) (T : List (List Int)) (k n : Nat) (w : World) (ht : Tab T) (h2 : 2 ≤ k) (h6 : k ≤ 6) (hT : RdM w a T) (hr : RdI w r (P.ed T k n)) :
    Calls Try.prog 14 #[.slice a T.length c, .slice r (k - 1) cr] w fun e w' => e = .returned (.int .i64 (P.after T (P.low T.length (k - 1) n) : Nat)) ∧ w = w' := by
  have h := ends_any a r c cr T (P.low T.length (k - 1) n) w (by rw [P.low_length]; unfold maxLen; omega) hT ht.sq (by have := ht.lo; omega) (by rw [← P.ed_take]; exact hr.take _) (ht.low _ _)
  rw [P.low_length] at h
  exact h

theorem P.numOf_take' (b : Nat) (l : List Int) (k d : Nat) (h : l[k]? = some (d : Int)) : P.numOf b (l.take (k + 1)) = P.numOf b (l.take k) * b + d := by
  obtain ⟨hk, he⟩ := List.getElem?_eq_some_iff.1 h
  rw [P.numOf_take b l k hk, he, Int.toNat_natCast]

/-- The cells of a code. -/
theorem ed_cells {w : World} {r : Option Addr} {T : List (List Int)} {k n : Nat} (ht : Tab T) (h2 : 2 ≤ k) (hr : RdI w r (P.ed T k n)) :
    ∃ b off, r = some ⟨b, off, none⟩ ∧ ∀ i, i < k → ∃ d : Nat, d < T.length ∧ (P.ed T k n)[i]? = some (d : Int) ∧ w.cell? ⟨b, off + i, none⟩ = some (.int .i64 (d : Nat)) := by
  have hl := P.ed_length T n (show 1 ≤ k by omega)
  obtain ⟨b, off, rfl, _⟩ := hr 0 (by omega)
  refine ⟨b, off, rfl, fun i hi => ?_⟩
  obtain ⟨b', off', he, hc⟩ := hr i (by omega)
  simp only [Option.some.injEq, Addr.mk.injEq, and_true] at he
  obtain ⟨rfl, rfl⟩ := he
  have hd := ht.ed_dg k n i (by omega)
  obtain ⟨d, e⟩ := Int.eq_ofNat_of_zero_le hd.1
  rw [e] at hd hc
  exact ⟨d, by omega, by rw [List.getElem?_eq_getElem (by omega), e], hc⟩

set_option maxHeartbeats 2000000 in
set_option maxRecDepth 100000 in
theorem serialEdition_walk (w : World) (f : Nat → Nat) (hf : ∀ k, f k < 256) (a0 : Int) (w0 : (Lit.int .u8 a0).wf = true) (a1 : Int) (w1 : (Lit.int .u16 a1).wf = true) :
    Calls Try.prog 6 #[plate f, .int .u8 a0, .int .u16 a1] w fun e w' => e = .returned (.bool true) ∧ Below w.heap.size w w' := by
  have hmin : IntKind.u8.min = 0 := rfl
  have hmax : IntKind.u8.max = 255 := rfl
  have hmin2 : IntKind.u16.min = 0 := rfl
  have hmax2 : IntKind.u16.max = 65535 := rfl
  have b0 : 0 ≤ a0 ∧ a0 ≤ 255 := by simp only [Lit.wf, Bool.and_eq_true, decide_eq_true_eq] at w0; omega
  have b1 : 0 ≤ a1 ∧ a1 ≤ 65535 := by simp only [Lit.wf, Bool.and_eq_true, decide_eq_true_eq] at w1; omega
  clear hmin hmax hmin2 hmax2
  obtain ⟨b0l, b0h⟩ := b0
  obtain ⟨b1l, b1h⟩ := b1
  clear w0 w1
  obtain ⟨k, hK⟩ : ∃ k : Nat, 2 + a0 % 5 = (k : Int) := ⟨(2 + a0 % 5).toNat, by omega⟩
  have hk2 : 2 ≤ k := by omega
  have hk6 : k ≤ 6 := by omega
  have HM := hid (fun w' => made_any f w' hf)
  clear hf
  go_enter Try.func6, Try.ntmps6
  go_wp2_with fail
  have HB0 := hid ((Below.refl w.heap.size w).alloc (Nat.le_refl _) (.cells #[.int .u8 (f 0), .int .u8 (f 1), .int .u8 (f 2), .int .u8 (f 3), .int .u8 (f 4), .int .u8 (f 5), .int .u8 (f 6), .int .u8 (f 7), .int .u8 (f 8), .int .u8 (f 9), .int .u8 (f 10), .int .u8 (f 11), .int .u8 (f 12), .int .u8 (f 13), .int .u8 (f 14), .int .u8 (f 15), .int .u8 (f 16)] 24))
  generalize w.alloc (.cells #[.int .u8 (f 0), .int .u8 (f 1), .int .u8 (f 2), .int .u8 (f 3), .int .u8 (f 4), .int .u8 (f 5), .int .u8 (f 6), .int .u8 (f 7), .int .u8 (f 8), .int .u8 (f 9), .int .u8 (f 10), .int .u8 (f 11), .int .u8 (f 12), .int .u8 (f 13), .int .u8 (f 14), .int .u8 (f 15), .int .u8 (f 16)] 24) = wA at *
  refine (HM.out _).mono ?_
  rintro e w1 ⟨a, c, T, rfl, ht, h5, hT, hb⟩
  have HB1 := hid (HB0.out.trans (hb.mono HB0.out.size))
  have HT := hid hT
  have HTA := hid ht
  have hlo := ht.lo
  have hhi := ht.hi
  clear hb hT HB0 HM ht
  generalize plate f = pv
  generalize (Value.agg #[.int .u8 (f 0), .int .u8 (f 1), .int .u8 (f 2), .int .u8 (f 3), .int .u8 (f 4), .int .u8 (f 5), .int .u8 (f 6), .int .u8 (f 7), .int .u8 (f 8), .int .u8 (f 9), .int .u8 (f 10), .int .u8 (f 11), .int .u8 (f 12), .int .u8 (f 13), .int .u8 (f 14), .int .u8 (f 15), .int .u8 (f 16)]) = pv2
  go_wp2_with fail
  have HP : Hid (∀ q, q ≤ 6 → T.length ^ q ≤ 15625) := hid (fun q hq => Nat.le_trans (Nat.pow_le_pow_left h5 q) (Nat.le_trans (Nat.pow_le_pow_right (by omega) hq) (by decide)))
  have HB := hid (Below.refl w1.heap.size w1)
  go_loop [9, 10] (fun al i => ∃ q : Nat, 1 ≤ q ∧ q ≤ k ∧ i = .int .i64 q ∧ al = .int .i64 (T.length ^ (q - 1) : Nat)) (fun _ i => k - (intOf i).toNat)
  case atStart => exact ⟨1, by omega, by omega, rfl, by simp⟩
  case round =>
    obtain ⟨q, hq1, hq, rfl, rfl⟩ := hrel
    by_cases hlt : q < k
    · have hp := HP.out (q - 1) (by omega)
      have hs : Hid (T.length ^ q = T.length ^ (q - 1) * T.length) := hid (by rw [← Nat.pow_succ, Nat.succ_eq_add_one, show q - 1 + 1 = q from by omega])
      generalize T.length ^ (q - 1) = p at *
      have m1 : p * T.length ≤ 15625 * 5 := Nat.mul_le_mul hp h5
      have i1 : (p : Int) * (T.length : Int) ≤ 10000000000000 := by rw [← Int.natCast_mul]; omega
      have i2 : (0 : Int) ≤ (p : Int) * (T.length : Int) := Int.mul_nonneg (by omega) (by omega)
      clear m1
      go_wp2
      go_round
      case rel => exact ⟨q + 1, by omega, by omega, by go_num, by rw [Nat.add_sub_cancel, hs.out, Int.natCast_mul]⟩
      case measure => simp [intOf]; omega
    · have hqe : q = k := by omega
      subst hqe
      clear hlt hq1 hq
      have hA0 : 0 < T.length ^ (q - 1) := Nat.pow_pos (by omega)
      have hA1 := HP.out (q - 1) (by omega)
      obtain ⟨n, hn⟩ : ∃ n : Nat, a1 % ((T.length ^ (q - 1) : Nat) : Int) = (n : Int) := ⟨(a1 % ((T.length ^ (q - 1) : Nat) : Int)).toNat, by have := Int.emod_nonneg a1 (show ((T.length ^ (q - 1) : Nat) : Int) ≠ 0 by omega); omega⟩
      have hnl : n < T.length ^ (q - 1) := by have := Int.emod_lt_of_pos a1 (show (0 : Int) < ((T.length ^ (q - 1) : Nat) : Int) by omega); omega
      have hnt : a1.tmod ((T.length ^ (q - 1) : Nat) : Int) = (n : Int) := by rw [Int.tmod_eq_emod_of_nonneg b1l]; exact hn
      have HN := hid hnl
      have hnb : n ≤ 15625 := by omega
      have HC1 := hid (fun w' h1 => ed_code a c T q n w' HTA.out hk2 hk6 h5 HN.out h1)
      generalize hAe : T.length ^ (q - 1) = A at *
      have hAz : ¬ (A : Int) = 0 := by omega
      clear hnl
      go_wp2_with fail
      refine (HC1.out w1 HT.out).mono ?_
      rintro e w2 ⟨r, cr, rfl, hcr, hr, hb⟩
      have HT2 := hid (HT.out.stays hb)
      have HR := hid hr
      have HB2 := hid (HB1.out.trans (hb.mono HB1.out.size))
      clear hn hnt hb hr HT HB1 HC1 HB
      obtain ⟨b, off, he, hcell⟩ := ed_cells HTA.out hk2 HR.out
      subst he
      have HCELL := hid hcell
      clear hcell
      go_wp2_with fail
      go_loop [63] (fun i => ∃ j : Nat, j ≤ q ∧ i = .int .i64 j) (fun i => q - (intOf i).toNat)
      case atStart => exact ⟨0, by omega, rfl⟩
      case round => as_aux_lemma =>
        obtain ⟨j, hj, rfl⟩ := hrel
        by_cases hjl : j < q
        · obtain ⟨d, hd, _, hc⟩ := HCELL.out j hjl
          have d1 : ¬ (T.length : Int) ≤ (d : Int) := by omega
          have d2 : decide ((T.length : Int) ≤ (d : Int)) = false := by simp; omega
          go_wp2
          go_round
          case rel => exact ⟨j + 1, by omega, by go_num⟩
          case measure => simp [intOf]; omega
        · have hje : q = j := by omega
          subst hje
          go_wp2_with fail
          go_loop [14, 81] (fun v i => ∃ j : Nat, j ≤ q - 1 ∧ i = .int .i64 j ∧ v = .int .i64 (P.numOf T.length ((P.ed T q n).take j) : Nat)) (fun _ i => q - (intOf i).toNat)
          case atStart => exact ⟨0, by omega, rfl, by simp [P.numOf]⟩
          case round => as_aux_lemma =>
            clear hj hjl
            obtain ⟨j, hj, rfl, rfl⟩ := hrel
            by_cases hjl : j < q - 1
            · obtain ⟨d, hd, hde, hc⟩ := HCELL.out j (by omega)
              have hs := hid (P.numOf_take' T.length _ j d hde)
              have hp := P.numOf_lt T.length _ (HTA.out.ed_dg q n) j (by rw [P.ed_length T n (by omega)]; omega)
              have hp2 := HP.out j (by omega)
              generalize P.numOf T.length ((P.ed T q n).take j) = p at *
              have m1 : p * T.length ≤ 15625 * 5 := Nat.mul_le_mul (by omega) h5
              have i1 : (p : Int) * (T.length : Int) ≤ 10000000000000 := by rw [← Int.natCast_mul]; omega
              have i2 : (0 : Int) ≤ (p : Int) * (T.length : Int) := Int.mul_nonneg (by omega) (by omega)
              clear m1 hp hp2
              go_wp2
              go_round
              case rel => exact ⟨j + 1, by omega, by go_num, by rw [hs.out, Int.natCast_add, Int.natCast_mul]⟩
              case measure => simp [intOf]; omega
            · have hje : j = q - 1 := by omega
              have HV : Hid (P.numOf T.length ((P.ed T q n).take j) = n) := hid (by rw [hje, P.ed_take, P.low_num (by rw [hAe]; exact HN.out)])
              rw [HV.out]
              clear HV hje hj
              have HD1 := hid (fun w' h1 h2 => ed_number a (some ⟨b, off, none⟩) c cr T q n w' HTA.out hk2 hk6 (by rw [hAe]; exact HN.out) hcr h1 h2)
              have HD2 := hid (fun w' h1 h2 => ed_digit a (some ⟨b, off, none⟩) c cr T q n w' HTA.out hk2 hk6 h1 h2)
              have HD3 := hid (fun w' h1 h2 => ed_state a (some ⟨b, off, none⟩) c cr T q n w' HTA.out hk2 hk6 h1 h2)
              have HE1 := hid (fun w' h1 h2 => ed_ends a (some ⟨b, off, none⟩) c cr T q n w' HTA.out hk2 hk6 h1 h2)
              have HE2 := hid (fun w' h1 h2 => ed_ends2 a (some ⟨b, off, none⟩) c cr T q n w' HTA.out hk2 hk6 h1 h2)
              have HZ : Hid (∀ d : Nat, (P.ed T q n)[q - 1]? = some (d : Int) → d = P.ckd T (P.low T.length (q - 1) n)) := hid (fun d hd => by rw [P.ed_last, Option.some.injEq] at hd; omega)
              generalize P.ckd T (P.low T.length (q - 1) n) = z at *
              generalize P.after T (P.low T.length (q - 1) n) = s at *
              have t_n : ((n : Int) == (n : Int)) = true := by simp
              have t_z : ((z : Int) == (z : Int)) = true := by simp
              have t_s : ((s : Int) == (s : Int)) = true := by simp
              clear HCELL
              go_wp2_with fail
              refine (HD1.out w2 HT2.out HR.out).mono ?_
              rintro e w3 ⟨rfl, hb⟩
              have HT3 := hid (HT2.out.stays hb)
              have HR3 := hid (HR.out.stays hb)
              have HB3 := hid (HB2.out.trans (hb.mono HB2.out.size))
              clear hb HT2 HR HB2 HD1
              go_wp2_with fail
              refine (HD2.out w3 HT3.out HR3.out).mono ?_
              rintro e w4 ⟨rfl, hb⟩
              have HT4 := hid (HT3.out.stays hb)
              have HR4 := hid (HR3.out.stays hb)
              have HB4 := hid (HB3.out.trans (hb.mono HB3.out.size))
              clear hb HT3 HR3 HB3 HD2
              go_wp2_with fail
              refine (HD3.out w4 HT4.out HR4.out).mono ?_
              rintro e w5 ⟨rfl, hb⟩
              have HT5 := hid (HT4.out.stays hb)
              have HR5 := hid (HR4.out.stays hb)
              have HB5 := hid (HB4.out.trans (hb.mono HB4.out.size))
              clear hb HT4 HR4 HB4 HD3
              obtain ⟨b', off', he, hcell⟩ := ed_cells HTA.out hk2 HR5.out
              simp only [Option.some.injEq, Addr.mk.injEq, and_true] at he
              obtain ⟨rfl, rfl⟩ := he
              obtain ⟨d, hd, hde, hc⟩ := hcell (q - 1) (by omega)
              obtain rfl := HZ.out d hde
              clear hcell hde
              go_wp2_with fail
              refine (HE1.out w5 HT5.out HR5.out).mono ?_
              rintro e w' ⟨rfl, rfl⟩
              clear HE1
              go_wp2_with fail
              refine (HE2.out w5 HT5.out HR5.out).mono ?_
              rintro e w' ⟨rfl, rfl⟩
              clear HE2 HZ hc t_s t_z
              have j1 : (n : Int) + 1 ≤ 20000 := by omega
              by_cases hlast : n + 1 = A
              · have HC := hid (ed_out a c T q A w5 HTA.out hk2 hk6 h5 hAe.symm HT5.out)
                have hl2 : (n : Int) + 1 = (A : Int) := by omega
                have t_A : ((A : Int) == (A : Int)) = true := by simp
                go_wp2_with fail
                refine HC.out.mono ?_
                rintro e w6 ⟨r2, cr2, rfl, hb⟩
                have HB6 := hid (HB5.out.trans (hb.mono HB5.out.size))
                clear hb HC HB5
                go_wp2_with fail
                refine (works_any _).mono ?_
                rintro e w7 ⟨rfl, hb⟩
                go_wp2
                go_ret
                exact ⟨rfl, HB6.out.trans (hb.mono HB6.out.size)⟩
              · have hlt2 : n + 1 < A := by have := HN.out; omega
                have HLT := hid hlt2
                have HC := hid (ed_code a c T q (n + 1) w5 HTA.out hk2 hk6 h5 (by rw [hAe]; exact hlt2) HT5.out)
                rw [Int.natCast_add, Int.natCast_one] at HC
                have hl2 : ¬ (n : Int) + 1 = (A : Int) := by omega
                have hl3 : ((n : Int) + 1 == (A : Int)) = false := by simpa using hl2
                clear hlast
                go_wp2_with fail
                refine HC.out.mono ?_
                rintro e w6 ⟨r2, cr2, rfl, hcr2, hr2, hb⟩
                have HR6 := hid (HR5.out.stays hb)
                have HB6 := hid (HB5.out.trans (hb.mono HB5.out.size))
                obtain ⟨b2, off2, he2, hcell2⟩ := ed_cells HTA.out hk2 hr2
                subst he2
                obtain ⟨b', off', he, hcell⟩ := ed_cells HTA.out hk2 HR6.out
                simp only [Option.some.injEq, Addr.mk.injEq, and_true] at he
                obtain ⟨rfl, rfl⟩ := he
                have HCE := hid hcell
                have HCE2 := hid hcell2
                clear hb HC HB5 hr2 hcell hcell2 HR5 HT5 hlt2 HR6
                have t_q : ((q : Int) == (q : Int)) = true := by simp
                go_wp2_with fail
                clear t_n hl2 hl3
                go_loopw [193] (fun i wr => ∃ j : Nat, j ≤ q ∧ i = .int .i64 j ∧ (∀ t, t < j → (P.ed T q n)[t]? = (P.ed T q (n + 1))[t]?) ∧ Below w6.heap.size w6 wr) (fun i _ => q - (intOf i).toNat)
                case atStart => exact ⟨0, by omega, rfl, fun t ht => by omega, Below.refl _ _⟩
                case round => as_aux_lemma =>
                  clear hjl
                  obtain ⟨j, hj, rfl, heq, hbr⟩ := hrel
                  have HEQ := hid heq
                  have HBR := hid hbr
                  clear heq hbr
                  by_cases hjl : j < q
                  · obtain ⟨x, hx, hxe, hxc⟩ := HCE.out j hjl
                    obtain ⟨y, hy, hye, hyc⟩ := HCE2.out j hjl
                    have hst := P.ed_step (T := T) (k := q) (n := n) (by rw [hAe]; exact HLT.out) j hjl HEQ.out hxe hye
                    have HXE := hid hxe
                    have HYE := hid hye
                    have hxr := cell_stays HBR.out (Nat.le_refl _) hxc
                    have hyr := cell_stays HBR.out (Nat.le_refl _) hyc
                    clear hxe hye hxc hyc
                    by_cases hxy : x = y
                    · subst hxy
                      have t_x : ((x : Int) == (x : Int)) = true := by simp
                      clear hst
                      go_wp2
                      go_quiet (fail)
                      go_wp2
                      go_roundw
                      case rel =>
                        refine ⟨j + 1, by omega, by go_num, fun t ht => ?_, below_same HBR.out ⟨rfl, rfl, rfl, rfl⟩⟩
                        by_cases htj : t = j
                        · subst htj; rw [HXE.out, HYE.out]
                        · exact HEQ.out t (by omega)
                      case measure => simp [intOf]; omega
                    · have t_x : ((x : Int) == (y : Int)) = false := by simp; omega
                      have t_y : (x : Int) < (y : Int) := by omega
                      have t_z : decide ((x : Int) < (y : Int)) = true := by simpa using t_y
                      clear hst hxy
                      go_wp2
                      go_quiet (fail)
                      go_wp2_with fail
                      have hxq : (wr.drewN nq).cell? ⟨b, off + j, none⟩ = some (.int .i64 (x : Nat)) := hxr
                      have hyq : (wr.drewN nq).cell? ⟨b2, off2 + j, none⟩ = some (.int .i64 (y : Nat)) := hyr
                      have HBQ := hid (show Below w6.heap.size w6 (wr.drewN nq) from below_same HBR.out ⟨rfl, rfl, rfl, rfl⟩)
                      clear hxr hyr HBR
                      generalize wr.drewN nq = wq at *
                      have hxz : ({ heap := wq.heap, tape := wq.tape, drawn := wq.drawn + 1, os := wq.os, output := wq.output } : World).cell? ⟨b, off + j, none⟩ = some (.int .i64 (x : Nat)) := hxq
                      have hyz : ({ heap := wq.heap, tape := wq.tape, drawn := wq.drawn + 1, os := wq.os, output := wq.output } : World).cell? ⟨b2, off2 + j, none⟩ = some (.int .i64 (y : Nat)) := hyq
                      go_still_tail 9, (by kernel_rfl)
                      have HBZ := hid (show Below w6.heap.size w6 wq.drew from below_same HBQ.out ⟨rfl, rfl, rfl, rfl⟩)
                      change wpList _ _ _ _ _ wq.drew
                      clear hxz hyz hxq hyq HBQ
                      generalize wq.drew = wz at *
                      go_wp2_with fail
                      refine (works_any _).mono ?_
                      rintro e w7 ⟨rfl, hb⟩
                      go_wp2
                      go_ret
                      have hbz := HB6.out.trans (HBZ.out.mono HB6.out.size)
                      exact ⟨rfl, hbz.trans (hb.mono hbz.size)⟩
                  · have hjq : j = q := by omega
                    subst hjq
                    obtain ⟨x, hx, hxe, hxc⟩ := HCE.out (j - 1) (by omega)
                    obtain ⟨y, hy, hye, hyc⟩ := HCE2.out (j - 1) (by omega)
                    have hst := P.ed_step (T := T) (k := j) (n := n) (by rw [hAe]; exact HLT.out) (j - 1) (by omega) (fun t ht => HEQ.out t (by omega)) hxe hye
                    omega


/-! The row's frame (the guide's template). -/
set_option linter.unusedVariables false in
set_option maxRecDepth 100000 in
theorem serialEdition_lifted (os : Os) (started : os.Started) (H : Type) (enc : TypeId × Value → H) :
    ReturnsInHanded {} Try.checked os 6 .any (Rows.serialEditionSpec.pre6 enc Try.prog Try.f6 Rows.serialEditionRow.domain false) (Rows.serialEditionSpec.post enc Try.prog Try.f6 false true false false) := by
  refine returnsInHanded_of_change (C := Try.checked) own started (by kernel_rfl) Try.func6
    (ChangeSpec.witness6 (enc := enc) (C := Try.checked) false ⟨#[], #[.agg #[.int .u8 0, .int .u8 0, .int .u8 0, .int .u8 0, .int .u8 0, .int .u8 0, .int .u8 0, .int .u8 0, .int .u8 0, .int .u8 0, .int .u8 0, .int .u8 0, .int .u8 0, .int .u8 0, .int .u8 0, .int .u8 0, .int .u8 0], .int .u8 0, .int .u16 0], []⟩ 8 (by kernel_rfl) (by kernel_rfl) (by kernel_rfl) (by kernel_rfl)) ?_
  intro W base args ds gs before hval0 hW hcnd _
  have hval : ∀ (j : Nat) t v, Try.f6.params[j]? = some t → args[j]? = some v → Value.okWide Try.prog W .any base t v := hval0
  have hW' := hW
  obtain ⟨p, q, hA0, hV, rfl, hfz, hnd⟩ := hW
  have hA : DataW.TrodAll enc Try.prog W 0 (fun _ => true) true Try.f6.params.toList args.toList ds p := hA0
  rw [Try.params6] at hA hval
  obtain ⟨v0, vs0, d0, ds0, p0, q0, hargs, rfl, rfl, h0, r0⟩ := trodAll_cons hA
  obtain ⟨v1, vs1, d1, ds1, p1, q1, rfl, rfl, rfl, h1, r1⟩ := trodAll_cons r0
  obtain ⟨v2, vs2, d2, ds2, p2, q2, rfl, rfl, rfl, h2, r2⟩ := trodAll_cons r1
  obtain ⟨rfl, rfl, rfl⟩ := trodAll_nil r2
  obtain rfl : args = #[v0, v1, v2] := by cases args; simp_all
  obtain ⟨rfl, rfl⟩ := trodVars_none hV
  have k0 := h0
  have lt0 : ∀ x ∈ p0, x.block < W.heap.size := by obtain ⟨m, hm⟩ := k0; exact DataW.trod_lt m _ _ _ hm
  obtain ⟨c0, hv0, hc0⟩ := open_plate (hval 0 24 v0 rfl rfl) h0
  subst hv0
  have k1 := h1
  have lt1 : ∀ x ∈ p1, x.block < W.heap.size := by obtain ⟨m, hm⟩ := k1; exact DataW.trod_lt m _ _ _ hm
  obtain ⟨a1, rfl, rfl, rfl, w1⟩ := open_int Try.underlying5 (hval 1 5 v1 rfl rfl) h1
  have k2 := h2
  have lt2 : ∀ x ∈ p2, x.block < W.heap.size := by obtain ⟨m, hm⟩ := k2; exact DataW.trod_lt m _ _ _ hm
  obtain ⟨a2, rfl, rfl, rfl, w2⟩ := open_int Try.underlying53 (hval 2 53 v2 rfl rfl) h2
  clear hA0 hval0
  refine (serialEdition_walk W c0 hc0 a1 w1 a2 w2 ).mono fun e W' ⟨he, bel⟩ => ?_
  subst he
  exact ⟨_, rfl, _, _, _, [], _, [], hW', trodAll_mk1 (shut_bool Try.underlying4 _), (trodAll_cons_mk (Below.trod laidOut (by kernel_rfl) (of_decide_eq_true (by kernel_rfl)) k0 bel lt0) (trodAll_cons_mk (Below.trod laidOut (by kernel_rfl) (of_decide_eq_true (by kernel_rfl)) k1 bel lt1) (trodAll_cons_mk (Below.trod laidOut (by kernel_rfl) (of_decide_eq_true (by kernel_rfl)) k2 bel lt2) trodAll_mk0))), rfl, bel.frame _, fun h => by cases h⟩

theorem serialEdition_over : Rows.serialEditionRow.holds Try.pinned (OpenSpec.ofChange Rows.serialEditionSpec) :=
  OpenClaim.holds_of_wide 6 Try.f6 rfl rfl rfl rfl rfl rfl rfl ⟨rfl, rfl, rfl, rfl, rfl⟩ rfl rfl rfl rfl rfl (by kernel_rfl) Try.func6 (by kernel_rfl)
    (of_decide_eq_true (by kernel_rfl)) (by unfold Func.isWrapper; first | (rw [if_pos (by decide +kernel)]; kernel_rfl) | (rw [if_neg (by decide +kernel)]; exact ⟨rfl, rfl⟩))
    (fun os started H enc _ => serialEdition_lifted os started H enc)

theorem serialEdition_proved : Rows.SerialEditionSaid := serialEdition_over

end Go.Proofs.Ytlpdlnefgjmgmaa
