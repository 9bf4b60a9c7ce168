/- works() of package cross's laws: the chapter's examples hold. -/
import Derived.Test.YthaoacnaeafbeaaXNum
namespace Go.Proofs.Ythaoacnaeafbeaa
open Go.RowKit

set_option maxHeartbeats 8000000 in
set_option maxRecDepth 100000 in
theorem works_any (w : World) : Calls Try.prog 15 #[] w fun e w' => e = .returned (.bool true) ∧ Below w.heap.size w w' := by
  go_enter Try.func15, Try.ntmps15
  have hB := Below.refl w.heap.size w
  obtain ⟨V1, hV, hvb, r2⟩ := X.newL w [0, 1, 4, 6]
  replace hV : w.alloc (.cells #[.int .i64 0, .int .i64 1, .int .i64 4, .int .i64 6] 3) = V1 := hV
  replace hB := Below.trans hB (Below.mono hvb hB.size)
  go_wp2_with fail
  try rw [hV]
  clear hV hvb
  refine (list_any _ _ _ V1).mono ?_
  rintro e _ ⟨rfl, rfl⟩
  have C4 := hid (twice_any _ 4 [0, 1, 4, 6] _ (by decide) r2)
  rw [show X.twV [0, 1, 4, 6] = .tuple #[.agg #[.int .i64 0, .int .i64 0], .agg #[.int .i64 0, .int .i64 0], .int .i64 5] by kernel_rfl] at C4
  go_wp2_with fail
  refine C4.out.mono ?_
  rintro e w3 ⟨rfl, hb⟩
  replace r2 := RdI.stays r2 hb
  replace hB := Below.trans hB (Below.mono hb hB.size)
  clear hb C4
  clear r2
  obtain ⟨W7, W8, hW4, hW5, hb, A5, A6, y0, y1, y2, y3, f0, f1, n1, n2, s45⟩ := X.put2 w3 (0, 0) (0, 0)
  replace hW5 : (((W7.setCell ⟨w3.heap.size, 0, none⟩ (.int .i64 0)).setCell ⟨w3.heap.size, 1, none⟩ (.int .i64 0)).setCell ⟨w3.heap.size + 1, 0, none⟩ (.int .i64 0)).setCell ⟨w3.heap.size + 1, 1, none⟩ (.int .i64 0) = W8 := hW5
  replace hB := Below.trans hB (Below.mono hb hB.size)
  clear hb
  clear A5 A6
  obtain ⟨V9, hV, hvb, r10⟩ := X.newL W8 [0, 1, 2]
  replace hV : W8.alloc (.cells #[.int .i64 0, .int .i64 1, .int .i64 2] 3) = V9 := hV
  replace hB := Below.trans hB (Below.mono hvb hB.size)
  rw [s45] at r10
  go_wp2_with fail
  try rw [hW4]
  try rw [hW5]
  try rw [hV]
  clear hV hvb hW4 hW5 y0 y1 y2 y3 f0 f1 n1 n2 s45
  refine (list_any _ _ _ V9).mono ?_
  rintro e _ ⟨rfl, rfl⟩
  have C12 := hid (twice_any _ 3 [0, 1, 2] _ (by decide) r10)
  rw [show X.twV [0, 1, 2] = .tuple #[.agg #[.int .i64 0, .int .i64 1], .agg #[.int .i64 1, .int .i64 2], .int .i64 0] by kernel_rfl] at C12
  go_wp2_with fail
  refine C12.out.mono ?_
  rintro e w11 ⟨rfl, hb⟩
  replace r10 := RdI.stays r10 hb
  replace hB := Below.trans hB (Below.mono hb hB.size)
  clear hb C12
  clear r10
  obtain ⟨W15, W16, hW4, hW5, hb, A13, A14, y0, y1, y2, y3, f0, f1, n1, n2, s45⟩ := X.put2 w11 (0, 1) (1, 2)
  replace hW5 : (((W15.setCell ⟨w11.heap.size, 0, none⟩ (.int .i64 0)).setCell ⟨w11.heap.size, 1, none⟩ (.int .i64 1)).setCell ⟨w11.heap.size + 1, 0, none⟩ (.int .i64 1)).setCell ⟨w11.heap.size + 1, 1, none⟩ (.int .i64 2) = W16 := hW5
  replace hB := Below.trans hB (Below.mono hb hB.size)
  clear hb
  obtain ⟨V17, hV, hvb, r18⟩ := X.newL W16 [0, 1, 4, 6]
  replace hV : W16.alloc (.cells #[.int .i64 0, .int .i64 1, .int .i64 4, .int .i64 6] 3) = V17 := hV
  replace A13 := X.Bx.of_block A13 (Below.block hvb _ (X.Bx.lt A13))
  replace A14 := X.Bx.of_block A14 (Below.block hvb _ (X.Bx.lt A14))
  replace hB := Below.trans hB (Below.mono hvb hB.size)
  rw [s45] at r18
  go_wp2_with fail
  try rw [hW4]
  try rw [hW5]
  try rw [hV]
  clear hV hvb hW4 hW5 y0 y1 y2 y3 f0 f1 n1 n2 s45
  refine (list_any _ _ _ V17).mono ?_
  rintro e _ ⟨rfl, rfl⟩
  have C23 := hid (distances_any _ 4 [0, 1, 4, 6] _ (by decide) r18)
  rw [show (if X.chk [0, 1, 4, 6] = 0 then X.sf [0, 1, 4, 6] true (X.lng [0, 1, 4, 6]) else []) = [1, 2, 3, 4, 5, 6] by kernel_rfl, show X.chk [0, 1, 4, 6] = 0 by kernel_rfl] at C23
  go_wp2_with fail
  refine C23.out.mono ?_
  rintro e w22 ⟨x19, cx20, rfl, d21, hb⟩
  replace A13 := X.Bx.of_block A13 (Below.block hb _ (X.Bx.lt A13))
  replace A14 := X.Bx.of_block A14 (Below.block hb _ (X.Bx.lt A14))
  replace r18 := RdI.stays r18 hb
  replace hB := Below.trans hB (Below.mono hb hB.size)
  clear hb C23
  clear r18
  obtain ⟨V24, hV, hvb, r25⟩ := X.newL w22 [0, 1, 4, 9, 11]
  replace hV : w22.alloc (.cells #[.int .i64 0, .int .i64 1, .int .i64 4, .int .i64 9, .int .i64 11] 3) = V24 := hV
  replace A13 := X.Bx.of_block A13 (Below.block hvb _ (X.Bx.lt A13))
  replace A14 := X.Bx.of_block A14 (Below.block hvb _ (X.Bx.lt A14))
  replace d21 := RdI.stays d21 hvb
  replace hB := Below.trans hB (Below.mono hvb hB.size)
  go_wp2_with fail
  try rw [hV]
  clear hV hvb
  refine (list_any _ _ _ V24).mono ?_
  rintro e _ ⟨rfl, rfl⟩
  have C30 := hid (missing_any _ 5 [0, 1, 4, 9, 11] _ (by decide) r25)
  rw [show (if X.chk [0, 1, 4, 9, 11] = 0 then X.sf [0, 1, 4, 9, 11] false (X.lng [0, 1, 4, 9, 11]) else []) = [6] by kernel_rfl, show X.chk [0, 1, 4, 9, 11] = 0 by kernel_rfl] at C30
  go_wp2_with fail
  refine C30.out.mono ?_
  rintro e w29 ⟨x26, cx27, rfl, d28, hb⟩
  replace A13 := X.Bx.of_block A13 (Below.block hb _ (X.Bx.lt A13))
  replace A14 := X.Bx.of_block A14 (Below.block hb _ (X.Bx.lt A14))
  replace d21 := RdI.stays d21 hb
  replace r25 := RdI.stays r25 hb
  replace hB := Below.trans hB (Below.mono hb hB.size)
  clear hb C30
  clear r25
  obtain ⟨V31, hV, hvb, r32⟩ := X.newL w29 [0, 1, 4, 6]
  replace hV : w29.alloc (.cells #[.int .i64 0, .int .i64 1, .int .i64 4, .int .i64 6] 3) = V31 := hV
  replace A13 := X.Bx.of_block A13 (Below.block hvb _ (X.Bx.lt A13))
  replace A14 := X.Bx.of_block A14 (Below.block hvb _ (X.Bx.lt A14))
  replace d21 := RdI.stays d21 hvb
  replace d28 := RdI.stays d28 hvb
  replace hB := Below.trans hB (Below.mono hvb hB.size)
  go_wp2_with fail
  try rw [hV]
  clear hV hvb
  refine (list_any _ _ _ V31).mono ?_
  rintro e _ ⟨rfl, rfl⟩
  have C33 := hid (common_any _ 4 [0, 1, 4, 6] 3 _ (by decide) r32)
  rw [show X.comV [0, 1, 4, 6] 3 = 1 by kernel_rfl, show X.comE [0, 1, 4, 6] 3 = 0 by kernel_rfl] at C33
  go_wp2_with fail
  refine C33.out.mono ?_
  rintro e w34 ⟨rfl, rfl⟩
  clear C33
  clear r32
  obtain ⟨V35, hV, hvb, r36⟩ := X.newL w34 [0, 1, 4, 6]
  replace hV : w34.alloc (.cells #[.int .i64 0, .int .i64 1, .int .i64 4, .int .i64 6] 3) = V35 := hV
  replace A13 := X.Bx.of_block A13 (Below.block hvb _ (X.Bx.lt A13))
  replace A14 := X.Bx.of_block A14 (Below.block hvb _ (X.Bx.lt A14))
  replace d21 := RdI.stays d21 hvb
  replace d28 := RdI.stays d28 hvb
  replace hB := Below.trans hB (Below.mono hvb hB.size)
  go_wp2_with fail
  try rw [hV]
  clear hV hvb
  refine (list_any _ _ _ V35).mono ?_
  rintro e _ ⟨rfl, rfl⟩
  obtain ⟨V37, hV, hvb, r38⟩ := X.newL V35 [0, 3]
  replace hV : V35.alloc (.cells #[.int .i64 0, .int .i64 3] 3) = V37 := hV
  replace A13 := X.Bx.of_block A13 (Below.block hvb _ (X.Bx.lt A13))
  replace A14 := X.Bx.of_block A14 (Below.block hvb _ (X.Bx.lt A14))
  replace d21 := RdI.stays d21 hvb
  replace d28 := RdI.stays d28 hvb
  replace r36 := RdI.stays r36 hvb
  replace hB := Below.trans hB (Below.mono hvb hB.size)
  go_wp2_with fail
  try rw [hV]
  clear hV hvb
  refine (list_any _ _ _ V37).mono ?_
  rintro e _ ⟨rfl, rfl⟩
  have C43 := hid (locate_any _ _ 4 2 [0, 1, 4, 6] 3 [0, 3] _ (by decide) (by decide) r36 r38)
  rw [show X.loV [0, 1, 4, 6] 3 [0, 3] = [1] by kernel_rfl, show X.loE [0, 1, 4, 6] 3 [0, 3] = 0 by kernel_rfl] at C43
  go_wp2_with fail
  refine C43.out.mono ?_
  rintro e w42 ⟨x39, cx40, rfl, d41, hb⟩
  replace A13 := X.Bx.of_block A13 (Below.block hb _ (X.Bx.lt A13))
  replace A14 := X.Bx.of_block A14 (Below.block hb _ (X.Bx.lt A14))
  replace d21 := RdI.stays d21 hb
  replace d28 := RdI.stays d28 hb
  replace r36 := RdI.stays r36 hb
  replace r38 := RdI.stays r38 hb
  replace hB := Below.trans hB (Below.mono hb hB.size)
  clear hb C43
  clear r36 r38
  obtain ⟨V44, hV, hvb, r45⟩ := X.newL w42 [0, 1, 4]
  replace hV : w42.alloc (.cells #[.int .i64 0, .int .i64 1, .int .i64 4] 3) = V44 := hV
  replace A13 := X.Bx.of_block A13 (Below.block hvb _ (X.Bx.lt A13))
  replace A14 := X.Bx.of_block A14 (Below.block hvb _ (X.Bx.lt A14))
  replace d21 := RdI.stays d21 hvb
  replace d28 := RdI.stays d28 hvb
  replace d41 := RdI.stays d41 hvb
  replace hB := Below.trans hB (Below.mono hvb hB.size)
  go_wp2_with fail
  try rw [hV]
  clear hV hvb
  refine (list_any _ _ _ V44).mono ?_
  rintro e _ ⟨rfl, rfl⟩
  have C50 := hid (places_any _ 3 [0, 1, 4] 9 _ (by decide) (by decide) r45)
  rw [show X.plV [0, 1, 4] 9 = [6, 9] by kernel_rfl, show X.plE [0, 1, 4] 9 = 0 by kernel_rfl] at C50
  go_wp2_with fail
  refine C50.out.mono ?_
  rintro e w49 ⟨x46, cx47, rfl, d48, hb⟩
  replace A13 := X.Bx.of_block A13 (Below.block hb _ (X.Bx.lt A13))
  replace A14 := X.Bx.of_block A14 (Below.block hb _ (X.Bx.lt A14))
  replace d21 := RdI.stays d21 hb
  replace d28 := RdI.stays d28 hb
  replace d41 := RdI.stays d41 hb
  replace r45 := RdI.stays r45 hb
  replace hB := Below.trans hB (Below.mono hb hB.size)
  clear hb C50
  clear r45
  have C55 := hid (shortest_of 4 6 [0, 1, 4, 6] w49 (by decide) (by decide) (by decide) (by decide) (fun m h1 h2 => absurd h1 (by simp; omega)) (by kernel_rfl))
  go_wp2_with fail
  refine C55.out.mono ?_
  rintro e w54 ⟨x51, cx52, rfl, d53, hb⟩
  replace A13 := X.Bx.of_block A13 (Below.block hb _ (X.Bx.lt A13))
  replace A14 := X.Bx.of_block A14 (Below.block hb _ (X.Bx.lt A14))
  replace d21 := RdI.stays d21 hb
  replace d28 := RdI.stays d28 hb
  replace d41 := RdI.stays d41 hb
  replace d48 := RdI.stays d48 hb
  replace hB := Below.trans hB (Below.mono hb hB.size)
  clear hb C55
  obtain ⟨V56, hV, hvb, r57⟩ := X.newL w54 [0, 1, 3]
  replace hV : w54.alloc (.cells #[.int .i64 0, .int .i64 1, .int .i64 3] 3) = V56 := hV
  replace A13 := X.Bx.of_block A13 (Below.block hvb _ (X.Bx.lt A13))
  replace A14 := X.Bx.of_block A14 (Below.block hvb _ (X.Bx.lt A14))
  replace d21 := RdI.stays d21 hvb
  replace d28 := RdI.stays d28 hvb
  replace d41 := RdI.stays d41 hvb
  replace d48 := RdI.stays d48 hvb
  replace d53 := RdI.stays d53 hvb
  replace hB := Below.trans hB (Below.mono hvb hB.size)
  go_wp2_with fail
  try rw [hV]
  clear hV hvb
  refine (list_any _ _ _ V56).mono ?_
  rintro e _ ⟨rfl, rfl⟩
  have C59 := hid (around_any _ 3 [0, 1, 3] 7 _ (by decide) r57)
  rw [show X.arV [0, 1, 3] 7 = .tuple #[.agg #[.int .i64 0, .int .i64 0], .agg #[.int .i64 0, .int .i64 0], .int .i64 5] by kernel_rfl] at C59
  go_wp2_with fail
  refine C59.out.mono ?_
  rintro e w58 ⟨rfl, hb⟩
  replace A13 := X.Bx.of_block A13 (Below.block hb _ (X.Bx.lt A13))
  replace A14 := X.Bx.of_block A14 (Below.block hb _ (X.Bx.lt A14))
  replace d21 := RdI.stays d21 hb
  replace d28 := RdI.stays d28 hb
  replace d41 := RdI.stays d41 hb
  replace d48 := RdI.stays d48 hb
  replace d53 := RdI.stays d53 hb
  replace r57 := RdI.stays r57 hb
  replace hB := Below.trans hB (Below.mono hb hB.size)
  clear hb C59
  clear r57
  obtain ⟨W62, W63, hW4, hW5, hb, A60, A61, y0, y1, y2, y3, f0, f1, n1, n2, s45⟩ := X.put2 w58 (0, 0) (0, 0)
  replace hW5 : (((W62.setCell ⟨w58.heap.size, 0, none⟩ (.int .i64 0)).setCell ⟨w58.heap.size, 1, none⟩ (.int .i64 0)).setCell ⟨w58.heap.size + 1, 0, none⟩ (.int .i64 0)).setCell ⟨w58.heap.size + 1, 1, none⟩ (.int .i64 0) = W63 := hW5
  replace A13 := X.Bx.of_block A13 (Below.block hb _ (X.Bx.lt A13))
  replace A14 := X.Bx.of_block A14 (Below.block hb _ (X.Bx.lt A14))
  replace d21 := RdI.stays d21 hb
  replace d28 := RdI.stays d28 hb
  replace d41 := RdI.stays d41 hb
  replace d48 := RdI.stays d48 hb
  replace d53 := RdI.stays d53 hb
  replace hB := Below.trans hB (Below.mono hb hB.size)
  clear hb
  clear A60 A61
  obtain ⟨V64, hV, hvb, r65⟩ := X.newL W63 [0, 1, 4, 6]
  replace hV : W63.alloc (.cells #[.int .i64 0, .int .i64 1, .int .i64 4, .int .i64 6] 3) = V64 := hV
  replace A13 := X.Bx.of_block A13 (Below.block hvb _ (X.Bx.lt A13))
  replace A14 := X.Bx.of_block A14 (Below.block hvb _ (X.Bx.lt A14))
  replace d21 := RdI.stays d21 hvb
  replace d28 := RdI.stays d28 hvb
  replace d41 := RdI.stays d41 hvb
  replace d48 := RdI.stays d48 hvb
  replace d53 := RdI.stays d53 hvb
  replace hB := Below.trans hB (Below.mono hvb hB.size)
  rw [s45] at r65
  go_wp2_with fail
  try rw [hW4]
  try rw [hW5]
  try rw [hV]
  clear hV hvb hW4 hW5 y0 y1 y2 y3 f0 f1 n1 n2 s45
  refine (list_any _ _ _ V64).mono ?_
  rintro e _ ⟨rfl, rfl⟩
  have C67 := hid (around_any _ 4 [0, 1, 4, 6] 12 _ (by decide) r65)
  rw [show X.arV [0, 1, 4, 6] 12 = .tuple #[.agg #[.int .i64 0, .int .i64 3], .agg #[.int .i64 3, .int .i64 0], .int .i64 0] by kernel_rfl] at C67
  go_wp2_with fail
  refine C67.out.mono ?_
  rintro e w66 ⟨rfl, hb⟩
  replace A13 := X.Bx.of_block A13 (Below.block hb _ (X.Bx.lt A13))
  replace A14 := X.Bx.of_block A14 (Below.block hb _ (X.Bx.lt A14))
  replace d21 := RdI.stays d21 hb
  replace d28 := RdI.stays d28 hb
  replace d41 := RdI.stays d41 hb
  replace d48 := RdI.stays d48 hb
  replace d53 := RdI.stays d53 hb
  replace r65 := RdI.stays r65 hb
  replace hB := Below.trans hB (Below.mono hb hB.size)
  clear hb C67
  clear r65
  obtain ⟨W70, W71, hW4, hW5, hb, A68, A69, y0, y1, y2, y3, f0, f1, n1, n2, s45⟩ := X.put2 w66 (0, 3) (3, 0)
  replace hW5 : (((W70.setCell ⟨w66.heap.size, 0, none⟩ (.int .i64 0)).setCell ⟨w66.heap.size, 1, none⟩ (.int .i64 3)).setCell ⟨w66.heap.size + 1, 0, none⟩ (.int .i64 3)).setCell ⟨w66.heap.size + 1, 1, none⟩ (.int .i64 0) = W71 := hW5
  replace A13 := X.Bx.of_block A13 (Below.block hb _ (X.Bx.lt A13))
  replace A14 := X.Bx.of_block A14 (Below.block hb _ (X.Bx.lt A14))
  replace d21 := RdI.stays d21 hb
  replace d28 := RdI.stays d28 hb
  replace d41 := RdI.stays d41 hb
  replace d48 := RdI.stays d48 hb
  replace d53 := RdI.stays d53 hb
  replace hB := Below.trans hB (Below.mono hb hB.size)
  clear hb
  have C76 := hid (roller_any 4 13 W71 (by decide) (by decide) (by decide) (by decide))
  rw [show (X.rl 4 13).getD [] = [0, 1, 3, 9] by kernel_rfl, show (if (X.rl 4 13).isSome = true then (0 : Int) else 14) = 0 by kernel_rfl] at C76
  go_wp2_with fail
  try rw [hW4]
  try rw [hW5]
  clear hW4 hW5 y0 y1 y2 y3 f0 f1 n1 n2 s45
  refine C76.out.mono ?_
  rintro e w75 ⟨x72, cx73, rfl, d74, hb⟩
  replace A13 := X.Bx.of_block A13 (Below.block hb _ (X.Bx.lt A13))
  replace A14 := X.Bx.of_block A14 (Below.block hb _ (X.Bx.lt A14))
  replace d21 := RdI.stays d21 hb
  replace d28 := RdI.stays d28 hb
  replace d41 := RdI.stays d41 hb
  replace d48 := RdI.stays d48 hb
  replace d53 := RdI.stays d53 hb
  replace A68 := X.Bx.of_block A68 (Below.block hb _ (X.Bx.lt A68))
  replace A69 := X.Bx.of_block A69 (Below.block hb _ (X.Bx.lt A69))
  replace hB := Below.trans hB (Below.mono hb hB.size)
  clear hb C76
  have C81 := hid (roller_any 3 6 w75 (by decide) (by decide) (by decide) (by decide))
  rw [show (X.rl 3 6).getD [] = [] by kernel_rfl, show (if (X.rl 3 6).isSome = true then (0 : Int) else 14) = 14 by kernel_rfl] at C81
  go_wp2_with fail
  refine C81.out.mono ?_
  rintro e w80 ⟨x77, cx78, rfl, d79, hb⟩
  replace A13 := X.Bx.of_block A13 (Below.block hb _ (X.Bx.lt A13))
  replace A14 := X.Bx.of_block A14 (Below.block hb _ (X.Bx.lt A14))
  replace d21 := RdI.stays d21 hb
  replace d28 := RdI.stays d28 hb
  replace d41 := RdI.stays d41 hb
  replace d48 := RdI.stays d48 hb
  replace d53 := RdI.stays d53 hb
  replace A68 := X.Bx.of_block A68 (Below.block hb _ (X.Bx.lt A68))
  replace A69 := X.Bx.of_block A69 (Below.block hb _ (X.Bx.lt A69))
  replace d74 := RdI.stays d74 hb
  replace hB := Below.trans hB (Below.mono hb hB.size)
  clear hb C81
  clear d79
  have za0 := X.Bx.cell0 A13
  have za1 := X.Bx.cell1 A13
  have za2 := X.Bx.cell0 A14
  have za3 := X.Bx.cell1 A14
  have q1 := fun W' => X.eqIn 0 1 0 1 W'
  have q2 := fun W' => X.eqIn 1 2 1 2 W'
  have q3 := fun W' => X.eqIn 0 3 0 3 W'
  have q4 := fun W' => X.eqIn 3 0 3 0 W'
  simp only [BEq.rfl, Bool.and_true] at q1 q2 q3 q4
  obtain ⟨V82, hV, hvb, r83⟩ := X.newL w80 [1, 2, 3, 4, 5, 6]
  replace hV : w80.alloc (.cells #[.int .i64 1, .int .i64 2, .int .i64 3, .int .i64 4, .int .i64 5, .int .i64 6] 3) = V82 := hV
  replace A13 := X.Bx.of_block A13 (Below.block hvb _ (X.Bx.lt A13))
  replace A14 := X.Bx.of_block A14 (Below.block hvb _ (X.Bx.lt A14))
  replace d21 := RdI.stays d21 hvb
  replace d28 := RdI.stays d28 hvb
  replace d41 := RdI.stays d41 hvb
  replace d48 := RdI.stays d48 hvb
  replace d53 := RdI.stays d53 hvb
  replace A68 := X.Bx.of_block A68 (Below.block hvb _ (X.Bx.lt A68))
  replace A69 := X.Bx.of_block A69 (Below.block hvb _ (X.Bx.lt A69))
  replace d74 := RdI.stays d74 hvb
  replace hB := Below.trans hB (Below.mono hvb hB.size)
  go_wp2_with fail
  try rw [hV]
  clear hV hvb
  refine (list_any _ _ _ V82).mono ?_
  rintro e _ ⟨rfl, rfl⟩
  have C85 := hid (numbers_q _ _ cx20 6 [1, 2, 3, 4, 5, 6] [1, 2, 3, 4, 5, 6] _ (by decide) (by decide) d21 r83)
  rw [show decide (([1, 2, 3, 4, 5, 6] : List Int) = [1, 2, 3, 4, 5, 6]) = true by kernel_rfl] at C85
  go_wp2_with fail
  refine C85.out.mono ?_
  rintro e w84 ⟨rfl, nq, hnq⟩
  have hb : Below V82.heap.size V82 w84 := by rw [hnq]; exact below_drewN (Below.refl _ _) _
  clear hnq
  replace A13 := X.Bx.of_block A13 (Below.block hb _ (X.Bx.lt A13))
  replace A14 := X.Bx.of_block A14 (Below.block hb _ (X.Bx.lt A14))
  replace d21 := RdI.stays d21 hb
  replace d28 := RdI.stays d28 hb
  replace d41 := RdI.stays d41 hb
  replace d48 := RdI.stays d48 hb
  replace d53 := RdI.stays d53 hb
  replace A68 := X.Bx.of_block A68 (Below.block hb _ (X.Bx.lt A68))
  replace A69 := X.Bx.of_block A69 (Below.block hb _ (X.Bx.lt A69))
  replace d74 := RdI.stays d74 hb
  replace r83 := RdI.stays r83 hb
  replace hB := Below.trans hB (Below.mono hb hB.size)
  clear hb C85
  clear r83 d21
  clear za0 za1 za2 za3
  clear A13 A14
  obtain ⟨V86, hV, hvb, r87⟩ := X.newL w84 [6]
  replace hV : w84.alloc (.cells #[.int .i64 6] 3) = V86 := hV
  replace d28 := RdI.stays d28 hvb
  replace d41 := RdI.stays d41 hvb
  replace d48 := RdI.stays d48 hvb
  replace d53 := RdI.stays d53 hvb
  replace A68 := X.Bx.of_block A68 (Below.block hvb _ (X.Bx.lt A68))
  replace A69 := X.Bx.of_block A69 (Below.block hvb _ (X.Bx.lt A69))
  replace d74 := RdI.stays d74 hvb
  replace hB := Below.trans hB (Below.mono hvb hB.size)
  go_wp2_with fail
  try rw [hV]
  clear hV hvb
  refine (list_any _ _ _ V86).mono ?_
  rintro e _ ⟨rfl, rfl⟩
  have C89 := hid (numbers_q _ _ cx27 1 [6] [6] _ (by decide) (by decide) d28 r87)
  rw [show decide (([6] : List Int) = [6]) = true by kernel_rfl] at C89
  go_wp2_with fail
  refine C89.out.mono ?_
  rintro e w88 ⟨rfl, nq, hnq⟩
  have hb : Below V86.heap.size V86 w88 := by rw [hnq]; exact below_drewN (Below.refl _ _) _
  clear hnq
  replace d28 := RdI.stays d28 hb
  replace d41 := RdI.stays d41 hb
  replace d48 := RdI.stays d48 hb
  replace d53 := RdI.stays d53 hb
  replace A68 := X.Bx.of_block A68 (Below.block hb _ (X.Bx.lt A68))
  replace A69 := X.Bx.of_block A69 (Below.block hb _ (X.Bx.lt A69))
  replace d74 := RdI.stays d74 hb
  replace r87 := RdI.stays r87 hb
  replace hB := Below.trans hB (Below.mono hb hB.size)
  clear hb C89
  clear r87 d28
  obtain ⟨V90, hV, hvb, r91⟩ := X.newL w88 [1]
  replace hV : w88.alloc (.cells #[.int .i64 1] 3) = V90 := hV
  replace d41 := RdI.stays d41 hvb
  replace d48 := RdI.stays d48 hvb
  replace d53 := RdI.stays d53 hvb
  replace A68 := X.Bx.of_block A68 (Below.block hvb _ (X.Bx.lt A68))
  replace A69 := X.Bx.of_block A69 (Below.block hvb _ (X.Bx.lt A69))
  replace d74 := RdI.stays d74 hvb
  replace hB := Below.trans hB (Below.mono hvb hB.size)
  go_wp2_with fail
  try rw [hV]
  clear hV hvb
  refine (list_any _ _ _ V90).mono ?_
  rintro e _ ⟨rfl, rfl⟩
  have C93 := hid (numbers_q _ _ cx40 1 [1] [1] _ (by decide) (by decide) d41 r91)
  rw [show decide (([1] : List Int) = [1]) = true by kernel_rfl] at C93
  go_wp2_with fail
  refine C93.out.mono ?_
  rintro e w92 ⟨rfl, nq, hnq⟩
  have hb : Below V90.heap.size V90 w92 := by rw [hnq]; exact below_drewN (Below.refl _ _) _
  clear hnq
  replace d41 := RdI.stays d41 hb
  replace d48 := RdI.stays d48 hb
  replace d53 := RdI.stays d53 hb
  replace A68 := X.Bx.of_block A68 (Below.block hb _ (X.Bx.lt A68))
  replace A69 := X.Bx.of_block A69 (Below.block hb _ (X.Bx.lt A69))
  replace d74 := RdI.stays d74 hb
  replace r91 := RdI.stays r91 hb
  replace hB := Below.trans hB (Below.mono hb hB.size)
  clear hb C93
  clear r91 d41
  obtain ⟨V94, hV, hvb, r95⟩ := X.newL w92 [6, 9]
  replace hV : w92.alloc (.cells #[.int .i64 6, .int .i64 9] 3) = V94 := hV
  replace d48 := RdI.stays d48 hvb
  replace d53 := RdI.stays d53 hvb
  replace A68 := X.Bx.of_block A68 (Below.block hvb _ (X.Bx.lt A68))
  replace A69 := X.Bx.of_block A69 (Below.block hvb _ (X.Bx.lt A69))
  replace d74 := RdI.stays d74 hvb
  replace hB := Below.trans hB (Below.mono hvb hB.size)
  go_wp2_with fail
  try rw [hV]
  clear hV hvb
  refine (list_any _ _ _ V94).mono ?_
  rintro e _ ⟨rfl, rfl⟩
  have C97 := hid (numbers_q _ _ cx47 2 [6, 9] [6, 9] _ (by decide) (by decide) d48 r95)
  rw [show decide (([6, 9] : List Int) = [6, 9]) = true by kernel_rfl] at C97
  go_wp2_with fail
  refine C97.out.mono ?_
  rintro e w96 ⟨rfl, nq, hnq⟩
  have hb : Below V94.heap.size V94 w96 := by rw [hnq]; exact below_drewN (Below.refl _ _) _
  clear hnq
  replace d48 := RdI.stays d48 hb
  replace d53 := RdI.stays d53 hb
  replace A68 := X.Bx.of_block A68 (Below.block hb _ (X.Bx.lt A68))
  replace A69 := X.Bx.of_block A69 (Below.block hb _ (X.Bx.lt A69))
  replace d74 := RdI.stays d74 hb
  replace r95 := RdI.stays r95 hb
  replace hB := Below.trans hB (Below.mono hb hB.size)
  clear hb C97
  clear r95 d48
  obtain ⟨V98, hV, hvb, r99⟩ := X.newL w96 [0, 1, 4, 6]
  replace hV : w96.alloc (.cells #[.int .i64 0, .int .i64 1, .int .i64 4, .int .i64 6] 3) = V98 := hV
  replace d53 := RdI.stays d53 hvb
  replace A68 := X.Bx.of_block A68 (Below.block hvb _ (X.Bx.lt A68))
  replace A69 := X.Bx.of_block A69 (Below.block hvb _ (X.Bx.lt A69))
  replace d74 := RdI.stays d74 hvb
  replace hB := Below.trans hB (Below.mono hvb hB.size)
  go_wp2_with fail
  try rw [hV]
  clear hV hvb
  refine (list_any _ _ _ V98).mono ?_
  rintro e _ ⟨rfl, rfl⟩
  have C101 := hid (numbers_q _ _ cx52 4 [0, 1, 4, 6] [0, 1, 4, 6] _ (by decide) (by decide) d53 r99)
  rw [show decide (([0, 1, 4, 6] : List Int) = [0, 1, 4, 6]) = true by kernel_rfl] at C101
  go_wp2_with fail
  refine C101.out.mono ?_
  rintro e w100 ⟨rfl, nq, hnq⟩
  have hb : Below V98.heap.size V98 w100 := by rw [hnq]; exact below_drewN (Below.refl _ _) _
  clear hnq
  replace d53 := RdI.stays d53 hb
  replace A68 := X.Bx.of_block A68 (Below.block hb _ (X.Bx.lt A68))
  replace A69 := X.Bx.of_block A69 (Below.block hb _ (X.Bx.lt A69))
  replace d74 := RdI.stays d74 hb
  replace r99 := RdI.stays r99 hb
  replace hB := Below.trans hB (Below.mono hb hB.size)
  clear hb C101
  clear r99 d53
  have zb0 := X.Bx.cell0 A68
  have zb1 := X.Bx.cell1 A68
  have zb2 := X.Bx.cell0 A69
  have zb3 := X.Bx.cell1 A69
  obtain ⟨V102, hV, hvb, r103⟩ := X.newL w100 [0, 1, 3, 9]
  replace hV : w100.alloc (.cells #[.int .i64 0, .int .i64 1, .int .i64 3, .int .i64 9] 3) = V102 := hV
  replace A68 := X.Bx.of_block A68 (Below.block hvb _ (X.Bx.lt A68))
  replace A69 := X.Bx.of_block A69 (Below.block hvb _ (X.Bx.lt A69))
  replace d74 := RdI.stays d74 hvb
  replace hB := Below.trans hB (Below.mono hvb hB.size)
  go_wp2_with fail
  try rw [hV]
  clear hV hvb
  refine (list_any _ _ _ V102).mono ?_
  rintro e _ ⟨rfl, rfl⟩
  have C105 := hid (numbers_q _ _ cx73 4 [0, 1, 3, 9] [0, 1, 3, 9] _ (by decide) (by decide) d74 r103)
  rw [show decide (([0, 1, 3, 9] : List Int) = [0, 1, 3, 9]) = true by kernel_rfl] at C105
  go_wp2_with fail
  refine C105.out.mono ?_
  rintro e w104 ⟨rfl, nq, hnq⟩
  have hb : Below V102.heap.size V102 w104 := by rw [hnq]; exact below_drewN (Below.refl _ _) _
  clear hnq
  replace A68 := X.Bx.of_block A68 (Below.block hb _ (X.Bx.lt A68))
  replace A69 := X.Bx.of_block A69 (Below.block hb _ (X.Bx.lt A69))
  replace d74 := RdI.stays d74 hb
  replace r103 := RdI.stays r103 hb
  replace hB := Below.trans hB (Below.mono hb hB.size)
  clear hb C105
  clear r103 d74
  clear zb0 zb1 zb2 zb3
  clear A68 A69
  obtain ⟨V106, hV, hvb, r107⟩ := X.newL w104 [0, 1, 4, 6]
  replace hV : w104.alloc (.cells #[.int .i64 0, .int .i64 1, .int .i64 4, .int .i64 6] 3) = V106 := hV
  replace hB := Below.trans hB (Below.mono hvb hB.size)
  go_wp2_with fail
  try rw [hV]
  clear hV hvb
  refine (list_any _ _ _ V106).mono ?_
  rintro e _ ⟨rfl, rfl⟩
  have C109 := hid (best_any _ 4 [0, 1, 4, 6] _ (by decide) r107)
  rw [show X.best [0, 1, 4, 6] = 0 by kernel_rfl] at C109
  go_wp2_with fail
  refine C109.out.mono ?_
  rintro e w108 ⟨rfl, hb⟩
  replace r107 := RdI.stays r107 hb
  replace hB := Below.trans hB (Below.mono hb hB.size)
  clear hb C109
  clear r107
  obtain ⟨V110, hV, hvb, r111⟩ := X.newL w108 [0, 1, 4, 9]
  replace hV : w108.alloc (.cells #[.int .i64 0, .int .i64 1, .int .i64 4, .int .i64 9] 3) = V110 := hV
  replace hB := Below.trans hB (Below.mono hvb hB.size)
  go_wp2_with fail
  try rw [hV]
  clear hV hvb
  refine (list_any _ _ _ V110).mono ?_
  rintro e _ ⟨rfl, rfl⟩
  have C113 := hid (best_any _ 4 [0, 1, 4, 9] _ (by decide) r111)
  rw [show X.best [0, 1, 4, 9] = 14 by kernel_rfl] at C113
  go_wp2_with fail
  refine C113.out.mono ?_
  rintro e w112 ⟨rfl, hb⟩
  replace r111 := RdI.stays r111 hb
  replace hB := Below.trans hB (Below.mono hb hB.size)
  clear hb C113
  clear r111
  go_wp2
  go_ret
  exact ⟨rfl, hB⟩
end Go.Proofs.Ythaoacnaeafbeaa
