/- The walk of the examples' function. -/
import Derived.Test.YtlpdlnefgjmgmaaExc
namespace Go.Proofs.Ytlpdlnefgjmgmaa
open Go.RowKit

set_option maxHeartbeats 4000000 in
set_option maxRecDepth 100000 in
/-- The examples hold. -/
theorem works_any (w : World) : Calls Try.prog 15 #[] w fun e w' => e = .returned (.bool true) ∧ Below w.heap.size w w' := by
  go_enter Try.func15, Try.ntmps15
  go_wp2_with fail
  refine (line_c _).mono ?_
  rintro e w1 ⟨rt, ct, rfl, hr, hb⟩
  have hd : Below w.heap.size w w1 := hb
  have B_1 := hid hd
  have HT_1 := hid hr
  clear hb hd hr 
  go_wp2_with fail
  refine (T_any _).mono ?_
  rintro e w2 ⟨a2, rfl, hr, hb⟩
  have hd : Below w1.heap.size w1 w2 := hb
  have HT_2 := hid (HT_1.out.stays hd)
  have B_2 := hid (B_1.out.trans (hd.mono B_1.out.size))
  have Ra2_2 := hid hr
  clear hb hd hr HT_1 B_1
  have hal := below_alloc w2 (.cells #[.int .i64 1, .int .i64 2] 3)
  have HAL := hid hal
  have HC := hid (state_c a2 (some ⟨w2.heap.size, 0, none⟩) 5 2 (w2.alloc (.cells #[.int .i64 1, .int .i64 2] 3)) (Ra2_2.out.stays hal) (RdI.lit w2 3 [1, 2]))
  clear hal
  go_wp2_with (go_at_call 31; refine (list_any _ _).mono ?_; rintro e w' ⟨rfl, rfl⟩)
  refine HC.out.mono ?_
  rintro e w3 ⟨rfl, hb⟩
  have hd : Below w2.heap.size w2 w3 := (HAL.out).trans (hb.mono (HAL.out).size)
  have HT_3 := hid (HT_2.out.stays hd)
  have Ra2_3 := hid (Ra2_2.out.stays hd)
  have B_3 := hid (B_2.out.trans (hd.mono B_2.out.size))
  clear hb hd  HT_2 Ra2_2 B_2
  clear HAL HC
  clear Ra2_3
  go_wp2_with fail
  refine (T_any _).mono ?_
  rintro e w4 ⟨a3, rfl, hr, hb⟩
  have hd : Below w3.heap.size w3 w4 := hb
  have HT_4 := hid (HT_3.out.stays hd)
  have B_4 := hid (B_3.out.trans (hd.mono B_3.out.size))
  have Ra3_4 := hid hr
  clear hb hd hr HT_3 B_3
  have hal := below_alloc w4 (.cells #[.int .i64 3] 3)
  have HAL := hid hal
  have HC := hid (digit_c a3 (some ⟨w4.heap.size, 0, none⟩) 5 1 (w4.alloc (.cells #[.int .i64 3] 3)) (Ra3_4.out.stays hal) (RdI.lit w4 3 [3]))
  clear hal
  go_wp2_with (go_at_call 31; refine (list_any _ _).mono ?_; rintro e w' ⟨rfl, rfl⟩)
  refine HC.out.mono ?_
  rintro e w5 ⟨rfl, hb⟩
  have hd : Below w4.heap.size w4 w5 := (HAL.out).trans (hb.mono (HAL.out).size)
  have HT_5 := hid (HT_4.out.stays hd)
  have Ra3_5 := hid (Ra3_4.out.stays hd)
  have B_5 := hid (B_4.out.trans (hd.mono B_4.out.size))
  clear hb hd  HT_4 Ra3_4 B_4
  clear HAL HC
  clear Ra3_5
  go_wp2_with fail
  refine (T_any _).mono ?_
  rintro e w6 ⟨a4, rfl, hr, hb⟩
  have hd : Below w5.heap.size w5 w6 := hb
  have HT_6 := hid (HT_5.out.stays hd)
  have B_6 := hid (B_5.out.trans (hd.mono B_5.out.size))
  have Ra4_6 := hid hr
  clear hb hd hr HT_5 B_5
  have HC := hid (blind_c a4 5 _ Ra4_6.out)
  go_wp2_with fail
  refine HC.out.mono ?_
  rintro e w7 ⟨rb, cb, rfl, hb⟩
  have hd : Below w6.heap.size w6 w7 := hb
  have HT_7 := hid (HT_6.out.stays hd)
  have Ra4_7 := hid (Ra4_6.out.stays hd)
  have B_7 := hid (B_6.out.trans (hd.mono B_6.out.size))
  clear hb hd  HT_6 Ra4_6 B_6
  clear HC
  clear Ra4_7
  go_wp2_with fail
  refine (T_any _).mono ?_
  rintro e w8 ⟨a5, rfl, hr, hb⟩
  have hd : Below w7.heap.size w7 w8 := hb
  have HT_8 := hid (HT_7.out.stays hd)
  have B_8 := hid (B_7.out.trans (hd.mono B_7.out.size))
  have Ra5_8 := hid hr
  clear hb hd hr HT_7 B_7
  have hal := below_alloc w8 (.cells #[.int .i64 1, .int .i64 2, .int .i64 3] 3)
  have HAL := hid hal
  have HC := hid (fixes_c a5 (some ⟨w8.heap.size, 0, none⟩) 5 3 (w8.alloc (.cells #[.int .i64 1, .int .i64 2, .int .i64 3] 3)) (Ra5_8.out.stays hal) (RdI.lit w8 3 [1, 2, 3]))
  clear hal
  go_wp2_with (go_at_call 31; refine (list_any _ _).mono ?_; rintro e w' ⟨rfl, rfl⟩)
  refine HC.out.mono ?_
  rintro e w9 ⟨rl, cl, rfl, hr, hb⟩
  have hd : Below w8.heap.size w8 w9 := (HAL.out).trans (hb.mono (HAL.out).size)
  have HT_9 := hid (HT_8.out.stays hd)
  have Ra5_9 := hid (Ra5_8.out.stays hd)
  have B_9 := hid (B_8.out.trans (hd.mono B_8.out.size))
  have HL_9 := hid hr
  clear hb hd hr HT_8 Ra5_8 B_8
  clear HAL HC
  clear Ra5_9
  go_wp2_with fail
  refine (T_any _).mono ?_
  rintro e w10 ⟨a6, rfl, hr, hb⟩
  have hd : Below w9.heap.size w9 w10 := hb
  have HT_10 := hid (HT_9.out.stays hd)
  have HL_10 := hid (HL_9.out.stays hd)
  have B_10 := hid (B_9.out.trans (hd.mono B_9.out.size))
  have Ra6_10 := hid hr
  clear hb hd hr HT_9 HL_9 B_9
  have hal := below_alloc w10 (.cells #[.int .i64 2, .int .i64 1, .int .i64 2] 3)
  have HAL := hid hal
  have HC := hid (swaps_c a6 (some ⟨w10.heap.size, 0, none⟩) 5 3 (w10.alloc (.cells #[.int .i64 2, .int .i64 1, .int .i64 2] 3)) (Ra6_10.out.stays hal) (RdI.lit w10 3 [2, 1, 2]))
  clear hal
  go_wp2_with (go_at_call 31; refine (list_any _ _).mono ?_; rintro e w' ⟨rfl, rfl⟩)
  refine HC.out.mono ?_
  rintro e w11 ⟨rk, ck, rfl, hr, hb⟩
  have hd : Below w10.heap.size w10 w11 := (HAL.out).trans (hb.mono (HAL.out).size)
  have HT_11 := hid (HT_10.out.stays hd)
  have HL_11 := hid (HL_10.out.stays hd)
  have Ra6_11 := hid (Ra6_10.out.stays hd)
  have B_11 := hid (B_10.out.trans (hd.mono B_10.out.size))
  have HK_11 := hid hr
  clear hb hd hr HT_10 HL_10 Ra6_10 B_10
  clear HAL HC
  clear Ra6_11
  go_wp2_with fail
  refine (T_any _).mono ?_
  rintro e w12 ⟨a7, rfl, hr, hb⟩
  have hd : Below w11.heap.size w11 w12 := hb
  have HT_12 := hid (HT_11.out.stays hd)
  have HL_12 := hid (HL_11.out.stays hd)
  have HK_12 := hid (HK_11.out.stays hd)
  have B_12 := hid (B_11.out.trans (hd.mono B_11.out.size))
  have Ra7_12 := hid hr
  clear hb hd hr HT_11 HL_11 HK_11 B_11
  have hal := below_alloc w12 (.cells #[.int .i64 1, .int .i64 2, .int .i64 2] 3)
  have HAL := hid hal
  have HC := hid (restore_c a7 (some ⟨w12.heap.size, 0, none⟩) 5 3 (w12.alloc (.cells #[.int .i64 1, .int .i64 2, .int .i64 2] 3)) (Ra7_12.out.stays hal) (RdI.lit w12 3 [1, 2, 2]))
  clear hal
  go_wp2_with (go_at_call 31; refine (list_any _ _).mono ?_; rintro e w' ⟨rfl, rfl⟩)
  refine HC.out.mono ?_
  rintro e w13 ⟨rfl, hb⟩
  have hd : Below w12.heap.size w12 w13 := (HAL.out).trans (hb.mono (HAL.out).size)
  have HT_13 := hid (HT_12.out.stays hd)
  have HL_13 := hid (HL_12.out.stays hd)
  have HK_13 := hid (HK_12.out.stays hd)
  have Ra7_13 := hid (Ra7_12.out.stays hd)
  have B_13 := hid (B_12.out.trans (hd.mono B_12.out.size))
  clear hb hd  HT_12 HL_12 HK_12 Ra7_12 B_12
  clear HAL HC
  clear Ra7_13
  go_wp2_with fail
  refine (T_any _).mono ?_
  rintro e w14 ⟨a8, rfl, hr, hb⟩
  have hd : Below w13.heap.size w13 w14 := hb
  have HT_14 := hid (HT_13.out.stays hd)
  have HL_14 := hid (HL_13.out.stays hd)
  have HK_14 := hid (HK_13.out.stays hd)
  have B_14 := hid (B_13.out.trans (hd.mono B_13.out.size))
  have Ra8_14 := hid hr
  clear hb hd hr HT_13 HL_13 HK_13 B_13
  have HC := hid (code_c a8 5 _ Ra8_14.out)
  go_wp2_with fail
  refine HC.out.mono ?_
  rintro e w15 ⟨rc, cc, rfl, hr, hb⟩
  have hd : Below w14.heap.size w14 w15 := hb
  have HT_15 := hid (HT_14.out.stays hd)
  have HL_15 := hid (HL_14.out.stays hd)
  have HK_15 := hid (HK_14.out.stays hd)
  have Ra8_15 := hid (Ra8_14.out.stays hd)
  have B_15 := hid (B_14.out.trans (hd.mono B_14.out.size))
  have HCO_15 := hid hr
  clear hb hd hr HT_14 HL_14 HK_14 Ra8_14 B_14
  clear HC
  clear Ra8_15
  go_wp2_with fail
  refine (value_c _).mono ?_
  rintro e w16 ⟨rfl, hb⟩
  have hd : Below w15.heap.size w15 w16 := hb
  have HT_16 := hid (HT_15.out.stays hd)
  have HL_16 := hid (HL_15.out.stays hd)
  have HK_16 := hid (HK_15.out.stays hd)
  have HCO_16 := hid (HCO_15.out.stays hd)
  have B_16 := hid (B_15.out.trans (hd.mono B_15.out.size))
  clear hb hd  HT_15 HL_15 HK_15 HCO_15 B_15
  go_wp2_with fail
  refine (T_any _).mono ?_
  rintro e w17 ⟨a9, rfl, hr, hb⟩
  have hd : Below w16.heap.size w16 w17 := hb
  have HT_17 := hid (HT_16.out.stays hd)
  have HL_17 := hid (HL_16.out.stays hd)
  have HK_17 := hid (HK_16.out.stays hd)
  have HCO_17 := hid (HCO_16.out.stays hd)
  have B_17 := hid (B_16.out.trans (hd.mono B_16.out.size))
  have Ra9_17 := hid hr
  clear hb hd hr HT_16 HL_16 HK_16 HCO_16 B_16
  have hal := below_alloc w17 (.cells #[.int .i64 1, .int .i64 2, .int .i64 2] 3)
  have HAL := hid hal
  have HC := hid (number_c a9 (some ⟨w17.heap.size, 0, none⟩) 5 3 (w17.alloc (.cells #[.int .i64 1, .int .i64 2, .int .i64 2] 3)) (Ra9_17.out.stays hal) (RdI.lit w17 3 [1, 2, 2]) (Nat.le_refl _))
  clear hal
  go_wp2_with (go_at_call 31; refine (list_any _ _).mono ?_; rintro e w' ⟨rfl, rfl⟩)
  refine HC.out.mono ?_
  rintro e w18 ⟨rfl, hb⟩
  have hd : Below w17.heap.size w17 w18 := (HAL.out).trans (hb.mono (HAL.out).size)
  have HT_18 := hid (HT_17.out.stays hd)
  have HL_18 := hid (HL_17.out.stays hd)
  have HK_18 := hid (HK_17.out.stays hd)
  have HCO_18 := hid (HCO_17.out.stays hd)
  have Ra9_18 := hid (Ra9_17.out.stays hd)
  have B_18 := hid (B_17.out.trans (hd.mono B_17.out.size))
  clear hb hd  HT_17 HL_17 HK_17 HCO_17 Ra9_17 B_17
  clear HAL HC
  clear Ra9_18
  go_wp2_with fail
  refine (T_any _).mono ?_
  rintro e w19 ⟨a10, rfl, hr, hb⟩
  have hd : Below w18.heap.size w18 w19 := hb
  have HT_19 := hid (HT_18.out.stays hd)
  have HL_19 := hid (HL_18.out.stays hd)
  have HK_19 := hid (HK_18.out.stays hd)
  have HCO_19 := hid (HCO_18.out.stays hd)
  have B_19 := hid (B_18.out.trans (hd.mono B_18.out.size))
  have Ra10_19 := hid hr
  clear hb hd hr HT_18 HL_18 HK_18 HCO_18 B_18
  have HC := hid (tables_c rt a10 ct 5 _ HT_19.out Ra10_19.out)
  go_wp2_with fail
  refine HC.out.mono ?_
  rintro e w20 ⟨rfl, hb⟩
  have hd : Below w19.heap.size w19 w20 := hb
  have HT_20 := hid (HT_19.out.stays hd)
  have HL_20 := hid (HL_19.out.stays hd)
  have HK_20 := hid (HK_19.out.stays hd)
  have HCO_20 := hid (HCO_19.out.stays hd)
  have Ra10_20 := hid (Ra10_19.out.stays hd)
  have B_20 := hid (B_19.out.trans (hd.mono B_19.out.size))
  clear hb hd  HT_19 HL_19 HK_19 HCO_19 Ra10_19 B_19
  clear HC
  clear Ra10_20
  clear HT_20
  have hal := below_alloc w20 (.cells #[.int .i64 0, .int .i64 2, .int .i64 1, .int .i64 4, .int .i64 2, .int .i64 2] 69)
  have HAL := hid hal
  have HC := hid (fixes3_c rl (some ⟨w20.heap.size, 0, none⟩) cl 3 _ (HL_20.out.stays hal) (fixesLit w20 69))
  clear hal
  go_wp2_with fail
  refine HC.out.mono ?_
  rintro e w21 ⟨rfl, hb⟩
  have hd : Below w20.heap.size w20 w21 := (HAL.out).trans (hb.mono (HAL.out).size)
  have HL_21 := hid (HL_20.out.stays hd)
  have HK_21 := hid (HK_20.out.stays hd)
  have HCO_21 := hid (HCO_20.out.stays hd)
  have B_21 := hid (B_20.out.trans (hd.mono B_20.out.size))
  clear hb hd  HL_20 HK_20 HCO_20 B_20
  clear HAL HC
  clear HL_21
  have hal := below_alloc w21 (.cells #[.int .i64 0] 3)
  have HAL := hid hal
  have HC := hid (numbers_c rk (some ⟨w21.heap.size, 0, none⟩) 1 ck 1 [0] _ rfl (by decide) (HK_21.out.stays hal) (RdI.lit w21 3 [0]))
  clear hal
  go_wp2_with (go_at_call 31; refine (list_any _ _).mono ?_; rintro e w' ⟨rfl, rfl⟩)
  refine HC.out.mono ?_
  rintro e w22 ⟨rfl, hb⟩
  have hd : Below w21.heap.size w21 w22 := (HAL.out).trans (hb.mono (HAL.out).size)
  have HK_22 := hid (HK_21.out.stays hd)
  have HCO_22 := hid (HCO_21.out.stays hd)
  have B_22 := hid (B_21.out.trans (hd.mono B_21.out.size))
  clear hb hd  HK_21 HCO_21 B_21
  clear HAL HC
  clear HK_22
  have hal := below_alloc w22 (.cells #[.int .i64 1, .int .i64 2, .int .i64 2] 3)
  have HAL := hid hal
  have HC := hid (numbers_c rc (some ⟨w22.heap.size, 0, none⟩) 3 cc 3 [1, 2, 2] _ rfl (by decide) (HCO_22.out.stays hal) (RdI.lit w22 3 [1, 2, 2]))
  clear hal
  go_wp2_with (go_at_call 31; refine (list_any _ _).mono ?_; rintro e w' ⟨rfl, rfl⟩)
  refine HC.out.mono ?_
  rintro e w23 ⟨rfl, hb⟩
  have hd : Below w22.heap.size w22 w23 := (HAL.out).trans (hb.mono (HAL.out).size)
  have HCO_23 := hid (HCO_22.out.stays hd)
  have B_23 := hid (B_22.out.trans (hd.mono B_22.out.size))
  clear hb hd  HCO_22 B_22
  clear HAL HC
  clear HCO_23
  go_wp2_with fail
  refine (T_any _).mono ?_
  rintro e w24 ⟨a11, rfl, hr, hb⟩
  have hd : Below w23.heap.size w23 w24 := hb
  have B_24 := hid (B_23.out.trans (hd.mono B_23.out.size))
  have Ra11_24 := hid hr
  clear hb hd hr  B_23
  have hal := below_alloc w24 (.cells #[.int .i64 1, .int .i64 2, .int .i64 2] 3)
  have HAL := hid hal
  have HC := hid (right_c a11 (some ⟨w24.heap.size, 0, none⟩) 5 3 (w24.alloc (.cells #[.int .i64 1, .int .i64 2, .int .i64 2] 3)) (Ra11_24.out.stays hal) (RdI.lit w24 3 [1, 2, 2]))
  clear hal
  go_wp2_with (go_at_call 31; refine (list_any _ _).mono ?_; rintro e w' ⟨rfl, rfl⟩)
  refine HC.out.mono ?_
  rintro e w25 ⟨rfl, hb⟩
  have hd : Below w24.heap.size w24 w25 := (HAL.out).trans (hb.mono (HAL.out).size)
  have Ra11_25 := hid (Ra11_24.out.stays hd)
  have B_25 := hid (B_24.out.trans (hd.mono B_24.out.size))
  clear hb hd  Ra11_24 B_24
  clear HAL HC
  clear Ra11_25
  go_wp2_with fail
  refine (T_any _).mono ?_
  rintro e w26 ⟨a12, rfl, hr, hb⟩
  have hd : Below w25.heap.size w25 w26 := hb
  have B_26 := hid (B_25.out.trans (hd.mono B_25.out.size))
  have Ra12_26 := hid hr
  clear hb hd hr  B_25
  have hal := below_alloc w26 (.cells #[.int .i64 1, .int .i64 2, .int .i64 3] 3)
  have HAL := hid hal
  have HC := hid (wrong_c a12 (some ⟨w26.heap.size, 0, none⟩) 5 3 (w26.alloc (.cells #[.int .i64 1, .int .i64 2, .int .i64 3] 3)) (Ra12_26.out.stays hal) (RdI.lit w26 3 [1, 2, 3]))
  clear hal
  go_wp2_with (go_at_call 31; refine (list_any _ _).mono ?_; rintro e w' ⟨rfl, rfl⟩)
  refine HC.out.mono ?_
  rintro e w27 ⟨rfl, hb⟩
  have hd : Below w26.heap.size w26 w27 := (HAL.out).trans (hb.mono (HAL.out).size)
  have Ra12_27 := hid (Ra12_26.out.stays hd)
  have B_27 := hid (B_26.out.trans (hd.mono B_26.out.size))
  clear hb hd  Ra12_26 B_26
  clear HAL HC
  clear Ra12_27
  go_wp2_with fail
  refine (name1_c _).mono ?_
  rintro e w28 ⟨rfl, hb⟩
  have hd : Below w27.heap.size w27 w28 := hb
  have B_28 := hid (B_27.out.trans (hd.mono B_27.out.size))
  clear hb hd   B_27
  go_wp2_with fail
  refine (name2_c _).mono ?_
  rintro e w29 ⟨rfl, hb⟩
  have hd : Below w28.heap.size w28 w29 := hb
  have B_29 := hid (B_28.out.trans (hd.mono B_28.out.size))
  clear hb hd   B_28
  go_wp2
  go_ret
  exact ⟨rfl, B_29.out⟩

end Go.Proofs.Ytlpdlnefgjmgmaa
