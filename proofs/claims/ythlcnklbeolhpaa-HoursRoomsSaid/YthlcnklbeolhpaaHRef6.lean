/- Package tuscheref07: the walks of Busy and Room. -/
import Derived.Test.YthlcnklbeolhpaaHEnough
namespace Go.Proofs.Ythlcnklbeolhpaa
open Go.RowKit

set_option maxHeartbeats 4000000 in
set_option maxRecDepth 100000 in
theorem refBusy_any (a : Option Addr) (c : Nat) (T : List (List Int)) (s : Int) (w : World) (hm : T.length ≤ maxLen) (hl : ∀ i (h : i < T.length), T[i].length ≤ maxLen) (hx : RdM w a T) :
    Calls Try.prog 35 #[.slice a T.length c, .int .i64 s] w (H.Two3 (if H.chks T s = 0 then H.plc (H.rows T) (H.sht T s) else []) (if H.chks T s = 0 then H.plc (H.cols T) (H.sht T s) else []) (H.chks T s) w) := by
  obtain ⟨i0, hi, hz0, hz1, hz2⟩ := info_parts (show (Try.prog.info? 3).map (fun i => (i.zero, i.size, i.bytes)) = some (some (.int .i64 0), 1, 8) by kernel_rfl)
  have HC := hid (refShortest_any a c T s w hm hl hx)
  by_cases h : H.chks T s = 0
  · obtain ⟨hok, hs, _⟩ := H.chks_ok h
    rw [if_pos h, if_pos h]
    have HSE : Hid (H.shE T s = H.sht T s) := hid (by unfold H.shE; rw [if_pos h])
    rw [HSE.out] at HC
    have HU := hid (fun W (hW : Below w.heap.size w W) => refsums_any a c T W hok (hx.stays hW))
    have HQa : Hid ((H.rows T).length ≤ 6) := hid (by have := hok.m6; unfold H.rows; simp; omega)
    have HQb : Hid ((H.cols T).length ≤ 6) := hid (by have := hok.n6; unfold H.cols; simp; omega)
    unfold H.Sm3 at HU
    rw [h] at HC ⊢
    clear h hm hl hx hok HSE
    generalize H.sht T s = n at *
    generalize H.rows T = R at *
    generalize H.cols T = C at *
    generalize H.tot T = t at *
    have HLa := hid (H.plcAt_len R n)
    have HHa := hid (fun k (h : k < R.length) => H.plcAt_hit (n := n) h)
    have HNa := hid (fun k (h : k < R.length) => H.plcAt_miss (n := n) h)
    have HEa : Hid (H.plcAt R n R.length = H.plc R n) := hid rfl
    have HLb := hid (H.plcAt_len C n)
    have HHb := hid (fun k (h : k < C.length) => H.plcAt_hit (n := n) h)
    have HNb := hid (fun k (h : k < C.length) => H.plcAt_miss (n := n) h)
    have HEb : Hid (H.plcAt C n C.length = H.plc C n) := hid rfl
    have hqa := HQa.out
    have hqb := HQb.out
    go_enter Try.func35, Try.ntmps35
    go_wp2_with fail
    refine HC.out.mono ?_
    rintro e w0 ⟨rfl, hb⟩
    have HB0 := hid hb
    clear hb
    go_wp2_with fail
    refine (HU.out _ HB0.out).mono ?_
    rintro e w1 ⟨a1, c1, a2, c2, rfl, r1, r2, hb⟩
    have HB1 := hid (HB0.out.trans (hb.mono HB0.out.size))
    have R1 := hid r1
    have R20 := hid r2
    clear hb r1 r2
    go_wp2
    go_loopw [12, 14] (fun v i wr => ∃ k : Nat, k ≤ R.length ∧ i = .int .i64 k ∧ RowI wr w1.heap.size v (H.plcAt R n k) ∧ Below w1.heap.size w1 wr) (fun _ i _ => R.length - (intOf i).toNat)
    case atStart => exact ⟨0, Nat.zero_le _, rfl, RowI.nil _ _, Below.refl _ _⟩
    case round =>
      obtain ⟨k, hk, rfl, hrow, hb⟩ := hrel
      have HROW := hid hrow
      have HBW := hid hb
      have hxr := R1.out.stays hb
      clear hrow hb
      by_cases hlt : k < R.length
      · obtain ⟨b, off, rfl, hc⟩ := hxr k hlt
        have HH1 := hid (HHa.out k hlt)
        have HN1 := hid (HNa.out k hlt)
        have hlk := HLa.out k
        have hll := HQa.out
        have hix : (0 : Int) ≤ (k : Int) ∧ (k : Int) < (R.length : Int) := by omega
        generalize R[k] = x at *
        have HM1 : Hid ((H.plcAt R n k).length + 1 ≤ maxLen) := hid (by unfold maxLen; omega)
        have HM2 : Hid (((H.plcAt R n k).length + 1) * 8 ≤ 140737488355328) := hid (by omega)
        clear hlk hxr hll
        by_cases e : x = n
        · have HE2 := hid (HH1.out e)
          have hxx : (x == n) = true := by simpa using e
          clear e HH1 HN1
          generalize H.plcAt R n k = F at *
          go_wp2_with (at_builtin; refine wpList_append_own _ rfl _ _ 27 rfl w1.heap.size 3 i0 (.int .i64 0) 1 8 Try.underlying27 hi hz0 hz1 hz2 rfl (by decide) _ _ _ rfl (World.ownsRow.alloc HROW.out _) ⟨wr.heap.size, 0, none⟩ 1 1 [.int .i64 (k : Int)] rfl rfl ?paa ?pba HM1.out HM2.out ?pca ?_)
          case paa =>
            intro i u hi
            match i, hi with
            | 0, hi => simp at hi; subst hi; rw [show Addr.add ⟨wr.heap.size, 0, none⟩ 0 = ⟨wr.heap.size, 0, none⟩ from rfl, World.cell?_alloc_at _ _ _ _ rfl]; rfl
          case pba => intro u hu; simp at hu; subst hu; rfl
          case pca => exact Nat.le_trans HBW.out.size (by simp)
          intro v' w9 hown' hgrow _
          have HB9 := hid (Below.grown (HBW.out.alloc HBW.out.size (.cells #[.int .i64 (k : Int)] 3)) hgrow (by simp; have := HBW.out.size; omega) (fun q hq => (World.ownsRow.lt HROW.out q hq).1))
          have HO9 := hid (RowI.push hown')
          clear hown' hgrow
          go_wp2
          go_roundw
          case rel => exact ⟨k + 1, by omega, by go_num, by rw [HE2.out]; exact HO9.out, HB9.out⟩
          case measure => simp [intOf]; omega
        · have HE2 := hid (HN1.out e)
          have hxx : (x == n) = false := by simpa using e
          clear e HH1 HN1
          go_wp2
          go_roundw
          case rel => exact ⟨k + 1, by omega, by go_num, by rw [HE2.out]; exact HROW.out, HBW.out⟩
          case measure => simp [intOf]; omega
      · have hke : k = R.length := by omega
        subst hke
        rw [HEa.out] at HROW
        obtain ⟨a9, c9, rfl, _⟩ := HROW.out.rd
        have RW1 := hid HROW.out.rdI
        have R2 := hid (R20.out.stays HBW.out)
        have HB2 := hid (HB1.out.trans (HBW.out.mono HB1.out.size))
        clear R20 hxr HROW
        generalize wr = w2 at *
        go_wp2
        go_loopw [13, 15] (fun v i wr => ∃ k : Nat, k ≤ C.length ∧ i = .int .i64 k ∧ RowI wr w2.heap.size v (H.plcAt C n k) ∧ Below w2.heap.size w2 wr) (fun _ i _ => C.length - (intOf i).toNat)
        case atStart => exact ⟨0, Nat.zero_le _, rfl, RowI.nil _ _, Below.refl _ _⟩
        case round =>
          obtain ⟨k, hk, rfl, hrow, hb⟩ := hrel
          have HROW := hid hrow
          have HBW := hid hb
          have hxr := R2.out.stays hb
          clear hrow hb
          by_cases hlt : k < C.length
          · obtain ⟨b, off, rfl, hc⟩ := hxr k hlt
            have HH1 := hid (HHb.out k hlt)
            have HN1 := hid (HNb.out k hlt)
            have hlk := HLb.out k
            have hll := HQb.out
            have hix : (0 : Int) ≤ (k : Int) ∧ (k : Int) < (C.length : Int) := by omega
            generalize C[k] = x at *
            have HM1 : Hid ((H.plcAt C n k).length + 1 ≤ maxLen) := hid (by unfold maxLen; omega)
            have HM2 : Hid (((H.plcAt C n k).length + 1) * 8 ≤ 140737488355328) := hid (by omega)
            clear hlk hxr hll
            by_cases e : x = n
            · have HE2 := hid (HH1.out e)
              have hxx : (x == n) = true := by simpa using e
              clear e HH1 HN1
              generalize H.plcAt C n k = F at *
              go_wp2_with (at_builtin; refine wpList_append_own _ rfl _ _ 27 rfl w2.heap.size 3 i0 (.int .i64 0) 1 8 Try.underlying27 hi hz0 hz1 hz2 rfl (by decide) _ _ _ rfl (World.ownsRow.alloc HROW.out _) ⟨wr.heap.size, 0, none⟩ 1 1 [.int .i64 (k : Int)] rfl rfl ?pab ?pbb HM1.out HM2.out ?pcb ?_)
              case pab =>
                intro i u hi
                match i, hi with
                | 0, hi => simp at hi; subst hi; rw [show Addr.add ⟨wr.heap.size, 0, none⟩ 0 = ⟨wr.heap.size, 0, none⟩ from rfl, World.cell?_alloc_at _ _ _ _ rfl]; rfl
              case pbb => intro u hu; simp at hu; subst hu; rfl
              case pcb => exact Nat.le_trans HBW.out.size (by simp)
              intro v' w9 hown' hgrow _
              have HB9 := hid (Below.grown (HBW.out.alloc HBW.out.size (.cells #[.int .i64 (k : Int)] 3)) hgrow (by simp; have := HBW.out.size; omega) (fun q hq => (World.ownsRow.lt HROW.out q hq).1))
              have HO9 := hid (RowI.push hown')
              clear hown' hgrow
              go_wp2
              go_roundw
              case rel => exact ⟨k + 1, by omega, by go_num, by rw [HE2.out]; exact HO9.out, HB9.out⟩
              case measure => simp [intOf]; omega
            · have HE2 := hid (HN1.out e)
              have hxx : (x == n) = false := by simpa using e
              clear e HH1 HN1
              go_wp2
              go_roundw
              case rel => exact ⟨k + 1, by omega, by go_num, by rw [HE2.out]; exact HROW.out, HBW.out⟩
              case measure => simp [intOf]; omega
          · have hke : k = C.length := by omega
            subst hke
            rw [HEb.out] at HROW
            obtain ⟨a8, c8, rfl, _⟩ := HROW.out.rd
            have HR8 := hid HROW.out.rdI
            have HR9 := hid (RW1.out.stays HBW.out)
            have HBE := hid (HB2.out.trans (HBW.out.mono HB2.out.size))
            go_wp2
            go_ret3
            exact ⟨_, _, _, _, rfl, HR9.out, HR8.out, HBE.out⟩
  · rw [if_neg h, if_neg h]
    have hne : (H.chks T s != 0) = true := by simpa using h
    generalize H.chks T s = ec at *
    generalize H.shE T s = q at *
    clear h hx
    go_enter Try.func35, Try.ntmps35
    go_wp2_with fail
    refine HC.out.mono ?_
    rintro e w0 ⟨rfl, hb⟩
    have HB0 := hid hb
    clear hb
    go_wp2
    go_ret3
    exact ⟨none, 0, none, 0, rfl, RdI.nil _ _, RdI.nil _ _, HB0.out⟩
theorem H.isb_inn' (y : Int) (n : Nat) : H.isb y 0 ((n : Int) - 1) = H.inn y n := by
  unfold H.isb H.inn
  rw [decide_eq_decide]
  omega
set_option maxHeartbeats 4000000 in
set_option maxRecDepth 100000 in
theorem refRoom_any (a : Option Addr) (c : Nat) (T : List (List Int)) (s x y : Int) (w : World) (hm : T.length ≤ maxLen) (hl : ∀ i (h : i < T.length), T[i].length ≤ maxLen) (hx : RdM w a T) :
    Calls Try.prog 37 #[.slice a T.length c, .int .i64 s, .int .i64 x, .int .i64 y] w fun e w' => e = .returned (.tuple #[.int .i64 (H.rmE T s x y), .int .i64 (H.rmX T s x y)]) ∧ Below w.heap.size w w' := by
  have HC := hid (refShortest_any a c T s w hm hl hx)
  by_cases h : H.chks T s = 0
  case neg =>
    have hne : (H.chks T s != 0) = true := by simpa using h
    have hne2 : (H.chks T s == 0) = false := by simpa using h
    have HE : Hid (H.rmE T s x y = 0 ∧ H.rmX T s x y = H.chks T s) := hid ⟨by unfold H.rmE; rw [if_neg (fun e => h e.1)], by unfold H.rmX; rw [if_neg h]⟩
    rw [HE.out.1, HE.out.2]
    clear HE
    generalize H.chks T s = ec at *
    generalize H.shE T s = q at *
    clear h hx
    go_enter Try.func37, Try.ntmps37
    go_wp2_with fail
    refine HC.out.mono ?_
    rintro e w0 ⟨rfl, hb⟩
    have HB0 := hid hb
    clear hb
    go_wp2
    go_ret2
    exact ⟨rfl, HB0.out⟩
  case pos =>
  obtain ⟨hok, hs, hs6⟩ := H.chks_ok h
  have h6 := hok.m6
  have h1 := hok.m1
  have n6 := hok.n6
  have n1 := hok.n1
  have HSE : Hid (H.shE T s = H.sht T s) := hid (by unfold H.shE; rw [if_pos h])
  rw [HSE.out] at HC
  have HE : Hid (H.rmE T s x y = (if H.isP T x y = true then H.room T s x.toNat y.toNat else 0) ∧ H.rmX T s x y = if H.isP T x y = true then 0 else 5) := hid ⟨by unfold H.rmE; simp [h], by unfold H.rmX; rw [if_pos h]⟩
  rw [HE.out.1, HE.out.2]
  rw [h] at HC
  clear HE h HSE
  have HIS := hid is_any
  have HWD := hid (H.wid_eq (T := T) (by omega))
  obtain ⟨b, off, r0, c0, rfl, q0, _⟩ := hx 0 (by omega)
  rw [← HWD.out] at q0
  simp only [Nat.add_zero] at q0
  have HQ0 := hid q0
  have h00 : (0 : Int) < (T.length : Int) := by omega
  have hw1 : IntKind.i64.wrap (((T.length : Nat) : Int) - 1) = ((T.length : Nat) : Int) - 1 := IntWalk.i64_in _ (by omega)
  have hw2 : IntKind.i64.wrap (((H.wid T : Nat) : Int) - 1) = ((H.wid T : Nat) : Int) - 1 := IntWalk.i64_in _ (by omega)
  have HI1 := hid (HIS.out x 0 ((T.length : Int) - 1))
  have HI2 := hid (HIS.out y 0 ((H.wid T : Int) - 1))
  rw [H.isb_inn'] at HI1 HI2
  unfold H.isP
  clear q0
  cases hi1 : H.inn x T.length with
  | false =>
    simp only [Bool.false_and, Bool.false_eq_true, if_false]
    rw [hi1] at HI1
    clear hi1 hx hok hm hl
    generalize H.sht T s = q at *
    go_enter Try.func37, Try.ntmps37
    go_wp2_with fail
    refine HC.out.mono ?_
    rintro e w0 ⟨rfl, hb⟩
    have HB0 := hid hb
    clear hb
    go_wp2_with fail
    refine (HI1.out _).mono ?_
    rintro e w' ⟨rfl, rfl⟩
    go_wp2
    go_ret2
    exact ⟨rfl, HB0.out⟩
  | true =>
  rw [hi1] at HI1
  cases hi2 : H.inn y (H.wid T) with
  | false =>
    simp only [Bool.and_false, Bool.false_eq_true, if_false]
    rw [hi2] at HI2
    clear hi1 hi2 hx hok hm hl
    generalize H.sht T s = q at *
    go_enter Try.func37, Try.ntmps37
    go_wp2_with fail
    refine HC.out.mono ?_
    rintro e w0 ⟨rfl, hb⟩
    have HB0 := hid hb
    have q0 := cell_stays hb (Nat.le_refl _) HQ0.out
    clear hb
    go_wp2_with fail
    refine (HI1.out _).mono ?_
    rintro e w' ⟨rfl, rfl⟩
    go_wp2_with fail
    refine (HI2.out _).mono ?_
    rintro e w' ⟨rfl, rfl⟩
    go_wp2
    go_ret2
    exact ⟨rfl, HB0.out⟩
  | true =>
  rw [hi2] at HI2
  simp only [Bool.and_self, if_true]
  obtain ⟨i, rfl, hi⟩ : ∃ i : Nat, x = (i : Int) ∧ i < T.length := by
    unfold H.inn at hi1
    have := of_decide_eq_true hi1
    exact ⟨x.toNat, by omega, by omega⟩
  obtain ⟨j, rfl, hj⟩ : ∃ j : Nat, y = (j : Int) ∧ j < H.wid T := by
    unfold H.inn at hi2
    have := of_decide_eq_true hi2
    exact ⟨y.toNat, by omega, by omega⟩
  have HRM : Hid (H.room T s i j = min (min (H.sht T s - H.sum (T.getD i [])) (H.sht T s - H.col T j)) (s * H.sht T s - H.tot T)) := hid rfl
  have HL1 : Hid ((H.rows T).length = T.length) := hid (by unfold H.rows; simp)
  have HL2 : Hid ((H.cols T).length = H.wid T) := hid (by unfold H.cols; simp)
  have HV1 : Hid (∀ h : i < (H.rows T).length, (H.rows T)[i] = H.sum (T.getD i [])) := hid (fun h => by simp [H.rows, hi])
  have HV2 : Hid (∀ h : j < (H.cols T).length, (H.cols T)[j] = H.col T j) := hid (fun h => by simp [H.cols])
  have hrb := hok.rowsum _ (List.getElem_mem hi)
  have hrb2 : 0 ≤ H.sum (T.getD i []) ∧ H.sum (T.getD i []) ≤ 180 := by simp only [List.getD, List.getElem?_eq_getElem hi, Option.getD_some]; exact hrb
  have hsb := H.sht_bd hok hs
  have hcb := hok.col_bd j
  have htb := hok.tot_bd
  have hmb := H.sht_mul hok hs hs6
  have HS := hid (fun W (hW : Below w.heap.size w W) => refsums_any _ c T W hok (hx.stays hW))
  have hw3 : IntKind.i64.wrap (H.sht T s * s) = s * H.sht T s := by rw [Int.mul_comm]; exact IntWalk.i64_in _ (by omega)
  simp only [Int.toNat_natCast]
  unfold H.Sm3 at HS
  have hiL : i < (H.rows T).length := by rw [HL1.out]; exact hi
  have hjL : j < (H.cols T).length := by rw [HL2.out]; exact hj
  have HV1' := hid (HV1.out hiL)
  have HV2' := hid (HV2.out hjL)
  clear hi1 hi2 hx hok hm hl hrb HV1 HV2
  generalize H.sht T s = q at *
  generalize H.sum (T.getD i []) = z1 at *
  generalize H.col T j = z2 at *
  generalize H.tot T = z3 at *
  generalize hsq : s * q = z4 at *
  generalize H.room T s i j = rm at *
  have hw4 : IntKind.i64.wrap (q - z1) = q - z1 := IntWalk.i64_in _ (by omega)
  have hw5 : IntKind.i64.wrap (q - z2) = q - z2 := IntWalk.i64_in _ (by omega)
  have hw6 : IntKind.i64.wrap (z4 - z3) = z4 - z3 := IntWalk.i64_in _ (by omega)
  generalize H.rows T = R at *
  generalize H.cols T = C at *
  have hix : (0 : Int) ≤ (i : Int) ∧ (i : Int) < (R.length : Int) := by omega
  have hjx : (0 : Int) ≤ (j : Int) ∧ (j : Int) < (C.length : Int) := by omega
  go_enter Try.func37, Try.ntmps37
  go_wp2_with fail
  refine HC.out.mono ?_
  rintro e w0 ⟨rfl, hb⟩
  have HB0 := hid hb
  have q0 := cell_stays hb (Nat.le_refl _) HQ0.out
  clear hb
  go_wp2_with fail
  refine (HI1.out _).mono ?_
  rintro e w' ⟨rfl, rfl⟩
  go_wp2_with fail
  refine (HI2.out _).mono ?_
  rintro e w' ⟨rfl, rfl⟩
  go_wp2_with fail
  refine (HS.out _ HB0.out).mono ?_
  rintro e w1 ⟨a1, c1, a2, c2, rfl, r1, r2, hb⟩
  have HB1 := hid (HB0.out.trans (hb.mono HB0.out.size))
  obtain ⟨b1, o1, rfl, p1⟩ := r1 i hiL
  obtain ⟨b2, o2, rfl, p2⟩ := r2 j hjL
  rw [HV1'.out] at p1
  rw [HV2'.out] at p2
  clear hb r1 r2 q0
  go_wp2
  go_quiet (fail)
  go_wp2
  all_goals
    go_ret2
    exact ⟨ret_int2 (by rw [HRM.out]; omega) rfl, below_drewN HB1.out _⟩
end Go.Proofs.Ythlcnklbeolhpaa
