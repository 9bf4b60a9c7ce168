/- Package tuschelaw09: the walk of MarkKnown: the examples hold. -/
import Derived.Test.YthnklabdjaiplaaDoorMWorks
namespace Go.Proofs.YthnklabdjaiplaaDoor
open Go.RowKit

set_option maxHeartbeats 0 in
set_option maxRecDepth 100000 in
theorem markKnown_any (w : World) (htb : M.TB w) :
    Calls Tryd.prog 11 #[] w fun e w' => e = .returned (.bool true) ∧ Below w.heap.size w w' := by
  have KDi := hid (fun (a : Option Addr) (w : World) (r : RdM w a M.D) => Distance_any 2 a 4 M.D w (by decide) (by decide) (by decide) r)
  rw [show M.distV 2 M.D = (1, 0) by kernel_rfl] at KDi
  have KCp := hid (fun (a b : Option Addr) (w : World) (t : M.TB w) (r : RdM w a M.D) (l : RdI w b [0, 3]) => Copies_any 2 a 4 M.D b 2 [0, 3] w t (by decide) (by decide) (by decide) r l)
  rw [show M.cps 2 M.D [0, 3] = (4, 0) by kernel_rfl] at KCp
  have KCq := hid (fun (a b : Option Addr) (w : World) (t : M.TB w) (r : RdM w a M.D) (l : RdI w b [0, 1]) => Copies_any 2 a 4 M.D b 2 [0, 1] w t (by decide) (by decide) (by decide) r l)
  rw [show M.cps 2 M.D [0, 1] = (2, 0) by kernel_rfl] at KCq
  have KFw := hid (fun (a b : Option Addr) (w : World) (r : RdM w a M.D) (l : RdI w b [0, 1]) => (callsIn_wide (n := 6)).1 (Fewest_in 6 (Nat.le_refl _) 2 a 4 M.D b 2 [0, 1] w (by decide) (by decide) (by decide) r l))
  rw [show M.fewV 2 M.D [0, 1] = ([1], 0) by kernel_rfl] at KFw
  have KGu := hid (fun (a b : Option Addr) (w : World) (r : RdM w a M.D) (l : RdI w b [0, 1]) => Guilty_any 2 a 4 M.D b 2 [0, 1] 1 w (by decide) (by decide) (by decide) r l)
  rw [show M.guiV 2 M.D [0, 1] 1 = ([1], 0) by kernel_rfl] at KGu
  have KGv := hid (fun (a b : Option Addr) (w : World) (r : RdM w a M.C) (l : RdI w b [0, 1, 2]) => Guilty_any 3 a 3 M.C b 3 [0, 1, 2] 2 w (by decide) (by decide) (by decide) r l)
  rw [show M.guiV 3 M.C [0, 1, 2] 2 = ([], 14) by kernel_rfl] at KGv
  have KCh := hid (fun (a : Option Addr) (w : World) (r : RdM w a []) => check_any 2 a 0 [] w (by decide) (by decide) r)
  rw [show M.chk 2 [] = 1 by kernel_rfl] at KCh
  have HTB := hid htb
  clear htb
  go_enter Tryd.func11, Tryd.ntmps11
  go_wp2_with fail
  refine (D_any _).mono ?_
  rintro e w1 ⟨a1, rfl, r, b⟩
  have HB := hid b
  replace HTB := hid (HTB.out.stays b)
  clear b
  have R1 := hid r
  clear r
  go_wp2_with fail
  refine (KDi.out a1 _ R1.out).mono ?_
  rintro e w2 ⟨rfl, b⟩
  replace HB := hid (HB.out.trans (b.mono HB.out.size))
  replace HTB := hid (HTB.out.stays b)
  replace R1 := hid (R1.out.stays b)
  clear b
  clear R1
  go_wp2_with fail
  refine (D_any _).mono ?_
  rintro e w3 ⟨a3, rfl, r, b⟩
  replace HB := hid (HB.out.trans (b.mono HB.out.size))
  replace HTB := hid (HTB.out.stays b)
  clear b
  have R3 := hid r
  clear r
  go_wp2_with fail
  refine (list_any _ _ _ _).mono ?_
  rintro e w4 ⟨rfl, hx⟩
  have b : Below w3.heap.size w3 w4 := by rw [← hx]; exact M.alls_below [M.rwo [0, 3]] _ _ (Nat.le_refl _)
  have r : RdI w4 (some ⟨w3.heap.size + 0, 0, none⟩) [0, 3] := by rw [← hx]; exact M.alls_row w3 [M.rwo [0, 3]] 0 _ 3 rfl
  clear hx
  replace HB := hid (HB.out.trans (b.mono HB.out.size))
  replace HTB := hid (HTB.out.stays b)
  replace R3 := hid (R3.out.stays b)
  clear b
  have R4 := hid r
  clear r
  go_wp2_with fail
  refine (KCp.out a3 (some ⟨w3.heap.size + 0, 0, none⟩) _ HTB.out R3.out R4.out).mono ?_
  rintro e w5 ⟨rfl, b⟩
  replace HB := hid (HB.out.trans (b.mono HB.out.size))
  replace HTB := hid (HTB.out.stays b)
  replace R3 := hid (R3.out.stays b)
  replace R4 := hid (R4.out.stays b)
  clear b
  clear R3 R4
  go_wp2_with fail
  refine (D_any _).mono ?_
  rintro e w6 ⟨a6, rfl, r, b⟩
  replace HB := hid (HB.out.trans (b.mono HB.out.size))
  replace HTB := hid (HTB.out.stays b)
  clear b
  have R6 := hid r
  clear r
  go_wp2_with fail
  refine (list_any _ _ _ _).mono ?_
  rintro e w7 ⟨rfl, hx⟩
  have b : Below w6.heap.size w6 w7 := by rw [← hx]; exact M.alls_below [M.rwo [0, 1]] _ _ (Nat.le_refl _)
  have r : RdI w7 (some ⟨w6.heap.size + 0, 0, none⟩) [0, 1] := by rw [← hx]; exact M.alls_row w6 [M.rwo [0, 1]] 0 _ 3 rfl
  clear hx
  replace HB := hid (HB.out.trans (b.mono HB.out.size))
  replace HTB := hid (HTB.out.stays b)
  replace R6 := hid (R6.out.stays b)
  clear b
  have R7 := hid r
  clear r
  go_wp2_with fail
  refine (KCq.out a6 (some ⟨w6.heap.size + 0, 0, none⟩) _ HTB.out R6.out R7.out).mono ?_
  rintro e w8 ⟨rfl, b⟩
  replace HB := hid (HB.out.trans (b.mono HB.out.size))
  replace HTB := hid (HTB.out.stays b)
  replace R6 := hid (R6.out.stays b)
  replace R7 := hid (R7.out.stays b)
  clear b
  clear R6 R7
  go_wp2_with fail
  refine (D_any _).mono ?_
  rintro e w9 ⟨a9, rfl, r, b⟩
  replace HB := hid (HB.out.trans (b.mono HB.out.size))
  replace HTB := hid (HTB.out.stays b)
  clear b
  have R9 := hid r
  clear r
  go_wp2_with fail
  refine (list_any _ _ _ _).mono ?_
  rintro e w10 ⟨rfl, hx⟩
  have b : Below w9.heap.size w9 w10 := by rw [← hx]; exact M.alls_below [M.rwo [0, 1]] _ _ (Nat.le_refl _)
  have r : RdI w10 (some ⟨w9.heap.size + 0, 0, none⟩) [0, 1] := by rw [← hx]; exact M.alls_row w9 [M.rwo [0, 1]] 0 _ 3 rfl
  clear hx
  replace HB := hid (HB.out.trans (b.mono HB.out.size))
  replace HTB := hid (HTB.out.stays b)
  replace R9 := hid (R9.out.stays b)
  clear b
  have R10 := hid r
  clear r
  go_wp2_with fail
  refine (KFw.out a9 (some ⟨w9.heap.size + 0, 0, none⟩) _ R9.out R10.out).mono ?_
  rintro e w11 ⟨x11, c11, rfl, r11, b⟩
  replace HB := hid (HB.out.trans (b.mono HB.out.size))
  replace HTB := hid (HTB.out.stays b)
  replace R9 := hid (R9.out.stays b)
  replace R10 := hid (R10.out.stays b)
  clear b
  have Fr11 := hid r11
  clear r11
  clear R9 R10
  go_wp2_with fail
  refine (D_any _).mono ?_
  rintro e w12 ⟨a12, rfl, r, b⟩
  replace HB := hid (HB.out.trans (b.mono HB.out.size))
  replace HTB := hid (HTB.out.stays b)
  replace Fr11 := hid (Fr11.out.stays b)
  clear b
  have R12 := hid r
  clear r
  go_wp2_with fail
  refine (list_any _ _ _ _).mono ?_
  rintro e w13 ⟨rfl, hx⟩
  have b : Below w12.heap.size w12 w13 := by rw [← hx]; exact M.alls_below [M.rwo [0, 1]] _ _ (Nat.le_refl _)
  have r : RdI w13 (some ⟨w12.heap.size + 0, 0, none⟩) [0, 1] := by rw [← hx]; exact M.alls_row w12 [M.rwo [0, 1]] 0 _ 3 rfl
  clear hx
  replace HB := hid (HB.out.trans (b.mono HB.out.size))
  replace HTB := hid (HTB.out.stays b)
  replace Fr11 := hid (Fr11.out.stays b)
  replace R12 := hid (R12.out.stays b)
  clear b
  have R13 := hid r
  clear r
  go_wp2_with fail
  refine (KGu.out a12 (some ⟨w12.heap.size + 0, 0, none⟩) _ R12.out R13.out).mono ?_
  rintro e w14 ⟨x14, c14, rfl, r14, b⟩
  replace HB := hid (HB.out.trans (b.mono HB.out.size))
  replace HTB := hid (HTB.out.stays b)
  replace Fr11 := hid (Fr11.out.stays b)
  replace R12 := hid (R12.out.stays b)
  replace R13 := hid (R13.out.stays b)
  clear b
  have Fr14 := hid r14
  clear r14
  clear R12 R13
  go_wp2_with fail
  refine (C_any _).mono ?_
  rintro e w15 ⟨a15, rfl, r, b⟩
  replace HB := hid (HB.out.trans (b.mono HB.out.size))
  replace HTB := hid (HTB.out.stays b)
  replace Fr11 := hid (Fr11.out.stays b)
  replace Fr14 := hid (Fr14.out.stays b)
  clear b
  have R15 := hid r
  clear r
  go_wp2_with fail
  refine (list_any _ _ _ _).mono ?_
  rintro e w16 ⟨rfl, hx⟩
  have b : Below w15.heap.size w15 w16 := by rw [← hx]; exact M.alls_below [M.rwo [0, 1, 2]] _ _ (Nat.le_refl _)
  have r : RdI w16 (some ⟨w15.heap.size + 0, 0, none⟩) [0, 1, 2] := by rw [← hx]; exact M.alls_row w15 [M.rwo [0, 1, 2]] 0 _ 3 rfl
  clear hx
  replace HB := hid (HB.out.trans (b.mono HB.out.size))
  replace HTB := hid (HTB.out.stays b)
  replace Fr11 := hid (Fr11.out.stays b)
  replace Fr14 := hid (Fr14.out.stays b)
  replace R15 := hid (R15.out.stays b)
  clear b
  have R16 := hid r
  clear r
  go_wp2_with fail
  refine (KGv.out a15 (some ⟨w15.heap.size + 0, 0, none⟩) _ R15.out R16.out).mono ?_
  rintro e w17 ⟨x17, c17, rfl, r17, b⟩
  replace HB := hid (HB.out.trans (b.mono HB.out.size))
  replace HTB := hid (HTB.out.stays b)
  replace Fr11 := hid (Fr11.out.stays b)
  replace Fr14 := hid (Fr14.out.stays b)
  replace R15 := hid (R15.out.stays b)
  replace R16 := hid (R16.out.stays b)
  clear b
  have Fr17 := hid r17
  clear r17
  clear R15 R16
  clear Fr17
  go_wp2_with fail
  refine (list_any _ _ _ _).mono ?_
  rintro e w18 ⟨rfl, hx⟩
  have b : Below w17.heap.size w17 w18 := by rw [← hx]; exact M.alls_below [M.rwo [1]] _ _ (Nat.le_refl _)
  have r : RdI w18 (some ⟨w17.heap.size + 0, 0, none⟩) [1] := by rw [← hx]; exact M.alls_row w17 [M.rwo [1]] 0 _ 3 rfl
  clear hx
  replace HB := hid (HB.out.trans (b.mono HB.out.size))
  replace HTB := hid (HTB.out.stays b)
  replace Fr11 := hid (Fr11.out.stays b)
  replace Fr14 := hid (Fr14.out.stays b)
  clear b
  have R18 := hid r
  clear r
  go_wp2_with fail
  refine (numbers_eq x11 (some ⟨w17.heap.size + 0, 0, none⟩) c11 1 [1] _ (by decide) Fr11.out R18.out).mono ?_
  rintro e w19 ⟨rfl, nn, hn⟩
  have b : Below w18.heap.size w18 w19 := hn ▸ below_drewN (Below.refl _ _) nn
  clear hn
  replace HB := hid (HB.out.trans (b.mono HB.out.size))
  replace HTB := hid (HTB.out.stays b)
  replace Fr11 := hid (Fr11.out.stays b)
  replace Fr14 := hid (Fr14.out.stays b)
  replace R18 := hid (R18.out.stays b)
  clear b
  clear Fr11 R18
  go_wp2_with fail
  refine (list_any _ _ _ _).mono ?_
  rintro e w20 ⟨rfl, hx⟩
  have b : Below w19.heap.size w19 w20 := by rw [← hx]; exact M.alls_below [M.rwo [1]] _ _ (Nat.le_refl _)
  have r : RdI w20 (some ⟨w19.heap.size + 0, 0, none⟩) [1] := by rw [← hx]; exact M.alls_row w19 [M.rwo [1]] 0 _ 3 rfl
  clear hx
  replace HB := hid (HB.out.trans (b.mono HB.out.size))
  replace HTB := hid (HTB.out.stays b)
  replace Fr14 := hid (Fr14.out.stays b)
  clear b
  have R20 := hid r
  clear r
  go_wp2_with fail
  refine (numbers_eq x14 (some ⟨w19.heap.size + 0, 0, none⟩) c14 1 [1] _ (by decide) Fr14.out R20.out).mono ?_
  rintro e w21 ⟨rfl, nn, hn⟩
  have b : Below w20.heap.size w20 w21 := hn ▸ below_drewN (Below.refl _ _) nn
  clear hn
  replace HB := hid (HB.out.trans (b.mono HB.out.size))
  replace HTB := hid (HTB.out.stays b)
  replace Fr14 := hid (Fr14.out.stays b)
  replace R20 := hid (R20.out.stays b)
  clear b
  clear Fr14 R20
  go_wp2_with fail
  refine (KCh.out none _ (fun _ h => absurd h (Nat.not_lt_zero _))).mono ?_
  rintro e w22 ⟨rfl, b⟩
  replace HB := hid (HB.out.trans (b.mono HB.out.size))
  replace HTB := hid (HTB.out.stays b)
  clear b
  go_wp2_with fail
  refine (works_any _ HTB.out).mono ?_
  rintro e w23 ⟨rfl, b⟩
  replace HB := hid (HB.out.trans (b.mono HB.out.size))
  replace HTB := hid (HTB.out.stays b)
  clear b
  go_wp2
  go_ret
  exact ⟨rfl, HB.out⟩
end Go.Proofs.YthnklabdjaiplaaDoor
