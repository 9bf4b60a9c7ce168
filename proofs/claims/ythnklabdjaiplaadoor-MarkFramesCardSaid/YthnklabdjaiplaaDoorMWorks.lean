/- Package tuschelaw09: the walk of works: the chapter's examples hold. -/
import Derived.Test.YthnklabdjaiplaaDoorMKy
import Derived.Test.YthnklabdjaiplaaDoorMNum
import Derived.Test.YthnklabdjaiplaaDoorMDist
import Derived.Test.YthnklabdjaiplaaDoorMGui
import Derived.Test.YthnklabdjaiplaaDoorMNea
import Derived.Test.YthnklabdjaiplaaDoorMFra
import Derived.Test.YthnklabdjaiplaaDoorMVer
import Derived.Test.YthnklabdjaiplaaDoorMDbt
namespace Go.Proofs.YthnklabdjaiplaaDoor
open Go.RowKit

def M.wD (i : Nat) : Nat := if i = 81 then 0 else 136 + i
theorem M.wD_inj (i j : Nat) (hi : i < 82) (hj : j < 82) (h : M.wD i = M.wD j) : i = j := by
  unfold M.wD at h
  split at h <;> split at h <;> omega
theorem M.wD_lt (i : Nat) (hi : i < 82) : M.wD i < 217 := by
  unfold M.wD
  split <;> omega
def M.wK : List M.Ky := [.val (.int .i64 3), .val (.bool true), .val (.bool true), .val (.int .i64 8), .val (.bool true), .val (.bool true), .val (.bool true), .row [0, 1, 2], .row [0, 1, 2], .row [0, 1, 2], .val (.bool true), .val (.bool true), .val (.bool true), .mat [[0, 3], [1]], .row [0, 3], .row [1], .mat [[0, 3], [1]], .val (.bool true), .val (.bool true), .val (.bool true), .row [0, 1], .row [0, 1], .row [0, 1], .val (.bool true), .val (.bool true), .val (.bool true), .row [], .val (.int .i64 0), .val (.bool true), .val (.bool true), .val (.bool true), .row [1], .row [1], .row [1], .val (.bool true), .val (.bool true), .val (.bool true), .row [0, 3], .row [0, 3], .row [0, 3], .val (.bool true), .val (.bool true), .val (.bool true), .val (.int .i64 1), .val (.bool true), .val (.bool true), .val (.bool true), .code 2 M.D, .dou [0, 0] [[0], [1, 2]], .val (.int .i64 0), .val (.bool true), .val (.bool true), .val (.bool true), .code 2 M.D, .row [0, 1], .row [0, 1], .row [1], .row [0, 3], .mat [[1], [0, 3]], .dou [0, 1] [[1], [0, 3]], .val (.int .i64 0), .val (.bool true), .val (.bool true), .val (.bool true), .code 3 M.C, .row [0, 1], .row [0, 1], .row [0, 1, 1], .row [0, 1, 1], .val (.int .i64 0), .val (.bool true), .val (.bool true), .val (.bool true), .code 3 M.C, .row [0, 1], .row [0, 1], .row [0, 1, 2], .row [0, 1, 2], .val (.int .i64 13), .val (.bool true), .val (.bool true), .val (.bool true)]
set_option maxHeartbeats 0 in
set_option maxRecDepth 100000 in
theorem works_any (w : World) (htb : M.TB w) :
    Calls Tryd.prog 13 #[] w fun e w' => e = .returned (.bool true) ∧ Below w.heap.size w w' := by
  have KDi := hid (fun (a : Option Addr) (w : World) (r : RdM w a M.C) => Distance_any 3 a 3 M.C w (by decide) (by decide) (by decide) r)
  rw [show M.distV 3 M.C = (3, 0) by kernel_rfl] at KDi
  have KCp := hid (fun (a b : Option Addr) (w : World) (t : M.TB w) (r : RdM w a M.C) (l : RdI w b [0, 1]) => Copies_any 3 a 3 M.C b 2 [0, 1] w t (by decide) (by decide) (by decide) r l)
  rw [show M.cps 3 M.C [0, 1] = (8, 0) by kernel_rfl] at KCp
  have KFw := hid (fun (a b : Option Addr) (w : World) (r : RdM w a M.C) (l : RdI w b [0, 1, 2]) => (callsIn_wide (n := 6)).1 (Fewest_in 6 (Nat.le_refl _) 3 a 3 M.C b 3 [0, 1, 2] w (by decide) (by decide) (by decide) r l))
  rw [show M.fewV 3 M.C [0, 1, 2] = ([0, 1, 2], 0) by kernel_rfl] at KFw
  have KLe := hid (fun (a b : Option Addr) (w : World) (r : RdM w a M.D) (l : RdI w b [0, 1]) => (callsIn_wide (n := 6)).1 (Lean_in 6 (Nat.le_refl _) 2 a 4 M.D b 2 [0, 1] 2 w (by decide) (by decide) (by decide) r l))
  rw [show M.leaV 2 M.D [0, 1] 2 = ([[0, 3], [1]], 0) by kernel_rfl] at KLe
  have KGu := hid (fun (a b : Option Addr) (w : World) (r : RdM w a M.C) (l : RdI w b [0, 1, 1]) => Guilty_any 3 a 3 M.C b 3 [0, 1, 1] 2 w (by decide) (by decide) (by decide) r l)
  rw [show M.guiV 3 M.C [0, 1, 1] 2 = ([0, 1], 0) by kernel_rfl] at KGu
  have KGv := hid (fun (a b : Option Addr) (w : World) (r : RdM w a M.D) (l : RdI w b [0, 1]) => Guilty_any 2 a 4 M.D b 2 [0, 1] 2 w (by decide) (by decide) (by decide) r l)
  rw [show M.guiV 2 M.D [0, 1] 2 = ([], 0) by kernel_rfl] at KGv
  have KNe := hid (fun (a b : Option Addr) (w : World) (r : RdM w a M.C) (l : RdI w b [0, 1, 1]) => Nearest_any 3 a 3 M.C b 3 [0, 1, 1] w (by decide) (by decide) (by decide) r l)
  rw [show M.neaV 3 M.C [0, 1, 1] = ([1], 0) by kernel_rfl] at KNe
  have KFr := hid (fun (a : Option Addr) (w : World) (r : RdM w a M.C) => (callsIn_wide (n := 6)).1 (Frames_in 6 (Nat.le_refl _) 3 a 3 M.C 2 w (by decide) (by decide) r))
  rw [show M.fraV 3 M.C 2 = ([], 0, 5) by kernel_rfl] at KFr
  have KFs := hid (fun (a : Option Addr) (w : World) (r : RdM w a M.D) => (callsIn_wide (n := 6)).1 (Frames_in 6 (Nat.le_refl _) 2 a 4 M.D 2 w (by decide) (by decide) r))
  rw [show M.fraV 2 M.D 2 = ([0, 3], 1, 0) by kernel_rfl] at KFs
  have KDb := hid (fun (a : Option Addr) (w : World) (r : RdM w a M.C) => (callsIn_wide (n := 10)).1 (Doubtful_in 10 (Nat.le_refl _) 3 a 3 M.C w (by decide) (by decide) r))
  rw [show M.dbV 3 M.C = (([], []), 14) by kernel_rfl] at KDb
  have KDc := hid (fun (a : Option Addr) (w : World) (r : RdM w a M.D) => (callsIn_wide (n := 10)).1 (Doubtful_in 10 (Nat.le_refl _) 2 a 4 M.D w (by decide) (by decide) r))
  rw [show M.dbV 2 M.D = (([0, 0], [[0], [1, 2]]), 0) by kernel_rfl] at KDc
  have KVe := hid (fun (a b c : Option Addr) (i j : Nat) (w : World) (r : RdM w a M.D) (l : RdI w b [0, 0]) (k : RdM w c [[0], [1, 2]]) => Verify_any 2 a 4 M.D b i [0, 0] c j [[0], [1, 2]] w (by decide) (by decide) (by decide) (by decide) r l k)
  rw [show M.ver 2 M.D [0, 0] [[0], [1, 2]] = 0 by kernel_rfl] at KVe
  have KVf := hid (fun (a b c : Option Addr) (i j : Nat) (w : World) (r : RdM w a M.D) (l : RdI w b [0, 1]) (k : RdM w c [[1], [0, 3]]) => Verify_any 2 a 4 M.D b i [0, 1] c j [[1], [0, 3]] w (by decide) (by decide) (by decide) (by decide) r l k)
  rw [show M.ver 2 M.D [0, 1] [[1], [0, 3]] = 0 by kernel_rfl] at KVf
  have KMa := hid (fun (a b c : Option Addr) (i j : Nat) (w : World) (r : RdM w a M.C) (l : RdI w b [0, 1]) (k : RdI w c [0, 1, 1]) => Makes_any 3 a 3 M.C b i [0, 1] c j [0, 1, 1] w (by decide) (by decide) (by decide) (by decide) r l k)
  rw [show M.mks 3 M.C [0, 1] [0, 1, 1] = 0 by kernel_rfl] at KMa
  have KMb := hid (fun (a b c : Option Addr) (i j : Nat) (w : World) (r : RdM w a M.C) (l : RdI w b [0, 1]) (k : RdI w c [0, 1, 2]) => Makes_any 3 a 3 M.C b i [0, 1] c j [0, 1, 2] w (by decide) (by decide) (by decide) (by decide) r l k)
  rw [show M.mks 3 M.C [0, 1] [0, 1, 2] = 13 by kernel_rfl] at KMb
  have HTB := hid htb
  clear htb
  go_enter Tryd.func13, Tryd.ntmps13
  go_wp2_with fail
  refine (C_any _).mono ?_
  rintro e w1 ⟨a1, rfl, r, b⟩
  have HB := hid b
  replace HTB := hid (HTB.out.stays b)
  clear b
  have R1 := hid r
  clear r
  go_wp2_with fail
  refine (KDi.out a1 _ R1.out).mono ?_
  rintro e w2 ⟨rfl, b⟩
  replace HB := hid (HB.out.trans (b.mono HB.out.size))
  replace HTB := hid (HTB.out.stays b)
  replace R1 := hid (R1.out.stays b)
  clear b
  clear R1
  go_wp2_with fail
  refine (C_any _).mono ?_
  rintro e w3 ⟨a3, rfl, r, b⟩
  replace HB := hid (HB.out.trans (b.mono HB.out.size))
  replace HTB := hid (HTB.out.stays b)
  clear b
  have R3 := hid r
  clear r
  go_wp2_with fail
  refine (list_any _ _ _ _).mono ?_
  rintro e w4 ⟨rfl, hx⟩
  have b : Below w3.heap.size w3 w4 := by rw [← hx]; exact M.alls_below [M.rwo [0, 1]] _ _ (Nat.le_refl _)
  have r : RdI w4 (some ⟨w3.heap.size + 0, 0, none⟩) [0, 1] := by rw [← hx]; exact M.alls_row w3 [M.rwo [0, 1]] 0 _ 3 rfl
  clear hx
  replace HB := hid (HB.out.trans (b.mono HB.out.size))
  replace HTB := hid (HTB.out.stays b)
  replace R3 := hid (R3.out.stays b)
  clear b
  have R4 := hid r
  clear r
  go_wp2_with fail
  refine (KCp.out a3 (some ⟨w3.heap.size + 0, 0, none⟩) _ HTB.out R3.out R4.out).mono ?_
  rintro e w5 ⟨rfl, b⟩
  replace HB := hid (HB.out.trans (b.mono HB.out.size))
  replace HTB := hid (HTB.out.stays b)
  replace R3 := hid (R3.out.stays b)
  replace R4 := hid (R4.out.stays b)
  clear b
  clear R3 R4
  clear HTB
  go_wp2_with fail
  refine (C_any _).mono ?_
  rintro e w6 ⟨a6, rfl, r, b⟩
  replace HB := hid (HB.out.trans (b.mono HB.out.size))
  clear b
  have R6 := hid r
  clear r
  go_wp2_with fail
  refine (list_any _ _ _ _).mono ?_
  rintro e w7 ⟨rfl, hx⟩
  have b : Below w6.heap.size w6 w7 := by rw [← hx]; exact M.alls_below [M.rwo [0, 1, 2]] _ _ (Nat.le_refl _)
  have r : RdI w7 (some ⟨w6.heap.size + 0, 0, none⟩) [0, 1, 2] := by rw [← hx]; exact M.alls_row w6 [M.rwo [0, 1, 2]] 0 _ 3 rfl
  clear hx
  replace HB := hid (HB.out.trans (b.mono HB.out.size))
  replace R6 := hid (R6.out.stays b)
  clear b
  have R7 := hid r
  clear r
  go_wp2_with fail
  refine (KFw.out a6 (some ⟨w6.heap.size + 0, 0, none⟩) _ R6.out R7.out).mono ?_
  rintro e w8 ⟨x8, c8, rfl, r8, b⟩
  replace HB := hid (HB.out.trans (b.mono HB.out.size))
  replace R6 := hid (R6.out.stays b)
  replace R7 := hid (R7.out.stays b)
  clear b
  have Fr8 := hid r8
  clear r8
  clear R6 R7
  go_wp2_with fail
  refine (D_any _).mono ?_
  rintro e w9 ⟨a9, rfl, r, b⟩
  replace HB := hid (HB.out.trans (b.mono HB.out.size))
  replace Fr8 := hid (Fr8.out.stays b)
  clear b
  have R9 := hid r
  clear r
  go_wp2_with fail
  refine (list_any _ _ _ _).mono ?_
  rintro e w10 ⟨rfl, hx⟩
  have b : Below w9.heap.size w9 w10 := by rw [← hx]; exact M.alls_below [M.rwo [0, 1]] _ _ (Nat.le_refl _)
  have r : RdI w10 (some ⟨w9.heap.size + 0, 0, none⟩) [0, 1] := by rw [← hx]; exact M.alls_row w9 [M.rwo [0, 1]] 0 _ 3 rfl
  clear hx
  replace HB := hid (HB.out.trans (b.mono HB.out.size))
  replace Fr8 := hid (Fr8.out.stays b)
  replace R9 := hid (R9.out.stays b)
  clear b
  have R10 := hid r
  clear r
  go_wp2_with fail
  refine (KLe.out a9 (some ⟨w9.heap.size + 0, 0, none⟩) _ R9.out R10.out).mono ?_
  rintro e w11 ⟨x11, c11, rfl, r11, b⟩
  replace HB := hid (HB.out.trans (b.mono HB.out.size))
  replace Fr8 := hid (Fr8.out.stays b)
  replace R9 := hid (R9.out.stays b)
  replace R10 := hid (R10.out.stays b)
  clear b
  have Fr11 := hid r11
  clear r11
  clear R9 R10
  go_wp2_with fail
  refine (C_any _).mono ?_
  rintro e w12 ⟨a12, rfl, r, b⟩
  replace HB := hid (HB.out.trans (b.mono HB.out.size))
  replace Fr8 := hid (Fr8.out.stays b)
  replace Fr11 := hid (Fr11.out.stays b)
  clear b
  have R12 := hid r
  clear r
  go_wp2_with fail
  refine (list_any _ _ _ _).mono ?_
  rintro e w13 ⟨rfl, hx⟩
  have b : Below w12.heap.size w12 w13 := by rw [← hx]; exact M.alls_below [M.rwo [0, 1, 1]] _ _ (Nat.le_refl _)
  have r : RdI w13 (some ⟨w12.heap.size + 0, 0, none⟩) [0, 1, 1] := by rw [← hx]; exact M.alls_row w12 [M.rwo [0, 1, 1]] 0 _ 3 rfl
  clear hx
  replace HB := hid (HB.out.trans (b.mono HB.out.size))
  replace Fr8 := hid (Fr8.out.stays b)
  replace Fr11 := hid (Fr11.out.stays b)
  replace R12 := hid (R12.out.stays b)
  clear b
  have R13 := hid r
  clear r
  go_wp2_with fail
  refine (KGu.out a12 (some ⟨w12.heap.size + 0, 0, none⟩) _ R12.out R13.out).mono ?_
  rintro e w14 ⟨x14, c14, rfl, r14, b⟩
  replace HB := hid (HB.out.trans (b.mono HB.out.size))
  replace Fr8 := hid (Fr8.out.stays b)
  replace Fr11 := hid (Fr11.out.stays b)
  replace R12 := hid (R12.out.stays b)
  replace R13 := hid (R13.out.stays b)
  clear b
  have Fr14 := hid r14
  clear r14
  clear R12 R13
  go_wp2_with fail
  refine (D_any _).mono ?_
  rintro e w15 ⟨a15, rfl, r, b⟩
  replace HB := hid (HB.out.trans (b.mono HB.out.size))
  replace Fr8 := hid (Fr8.out.stays b)
  replace Fr11 := hid (Fr11.out.stays b)
  replace Fr14 := hid (Fr14.out.stays b)
  clear b
  have R15 := hid r
  clear r
  go_wp2_with fail
  refine (list_any _ _ _ _).mono ?_
  rintro e w16 ⟨rfl, hx⟩
  have b : Below w15.heap.size w15 w16 := by rw [← hx]; exact M.alls_below [M.rwo [0, 1]] _ _ (Nat.le_refl _)
  have r : RdI w16 (some ⟨w15.heap.size + 0, 0, none⟩) [0, 1] := by rw [← hx]; exact M.alls_row w15 [M.rwo [0, 1]] 0 _ 3 rfl
  clear hx
  replace HB := hid (HB.out.trans (b.mono HB.out.size))
  replace Fr8 := hid (Fr8.out.stays b)
  replace Fr11 := hid (Fr11.out.stays b)
  replace Fr14 := hid (Fr14.out.stays b)
  replace R15 := hid (R15.out.stays b)
  clear b
  have R16 := hid r
  clear r
  go_wp2_with fail
  refine (KGv.out a15 (some ⟨w15.heap.size + 0, 0, none⟩) _ R15.out R16.out).mono ?_
  rintro e w17 ⟨x17, c17, rfl, r17, b⟩
  replace HB := hid (HB.out.trans (b.mono HB.out.size))
  replace Fr8 := hid (Fr8.out.stays b)
  replace Fr11 := hid (Fr11.out.stays b)
  replace Fr14 := hid (Fr14.out.stays b)
  replace R15 := hid (R15.out.stays b)
  replace R16 := hid (R16.out.stays b)
  clear b
  have Fr17 := hid r17
  clear r17
  clear R15 R16
  go_wp2_with fail
  refine (C_any _).mono ?_
  rintro e w18 ⟨a18, rfl, r, b⟩
  replace HB := hid (HB.out.trans (b.mono HB.out.size))
  replace Fr8 := hid (Fr8.out.stays b)
  replace Fr11 := hid (Fr11.out.stays b)
  replace Fr14 := hid (Fr14.out.stays b)
  replace Fr17 := hid (Fr17.out.stays b)
  clear b
  have R18 := hid r
  clear r
  go_wp2_with fail
  refine (list_any _ _ _ _).mono ?_
  rintro e w19 ⟨rfl, hx⟩
  have b : Below w18.heap.size w18 w19 := by rw [← hx]; exact M.alls_below [M.rwo [0, 1, 1]] _ _ (Nat.le_refl _)
  have r : RdI w19 (some ⟨w18.heap.size + 0, 0, none⟩) [0, 1, 1] := by rw [← hx]; exact M.alls_row w18 [M.rwo [0, 1, 1]] 0 _ 3 rfl
  clear hx
  replace HB := hid (HB.out.trans (b.mono HB.out.size))
  replace Fr8 := hid (Fr8.out.stays b)
  replace Fr11 := hid (Fr11.out.stays b)
  replace Fr14 := hid (Fr14.out.stays b)
  replace Fr17 := hid (Fr17.out.stays b)
  replace R18 := hid (R18.out.stays b)
  clear b
  have R19 := hid r
  clear r
  go_wp2_with fail
  refine (KNe.out a18 (some ⟨w18.heap.size + 0, 0, none⟩) _ R18.out R19.out).mono ?_
  rintro e w20 ⟨x20, c20, rfl, r20, b⟩
  replace HB := hid (HB.out.trans (b.mono HB.out.size))
  replace Fr8 := hid (Fr8.out.stays b)
  replace Fr11 := hid (Fr11.out.stays b)
  replace Fr14 := hid (Fr14.out.stays b)
  replace Fr17 := hid (Fr17.out.stays b)
  replace R18 := hid (R18.out.stays b)
  replace R19 := hid (R19.out.stays b)
  clear b
  have Fr20 := hid r20
  clear r20
  clear R18 R19
  go_wp2_with fail
  refine (C_any _).mono ?_
  rintro e w21 ⟨a21, rfl, r, b⟩
  replace HB := hid (HB.out.trans (b.mono HB.out.size))
  replace Fr8 := hid (Fr8.out.stays b)
  replace Fr11 := hid (Fr11.out.stays b)
  replace Fr14 := hid (Fr14.out.stays b)
  replace Fr17 := hid (Fr17.out.stays b)
  replace Fr20 := hid (Fr20.out.stays b)
  clear b
  have R21 := hid r
  clear r
  go_wp2_with fail
  refine (KFr.out a21 _ R21.out).mono ?_
  rintro e w22 ⟨x22, c22, rfl, r22, b⟩
  replace HB := hid (HB.out.trans (b.mono HB.out.size))
  replace Fr8 := hid (Fr8.out.stays b)
  replace Fr11 := hid (Fr11.out.stays b)
  replace Fr14 := hid (Fr14.out.stays b)
  replace Fr17 := hid (Fr17.out.stays b)
  replace Fr20 := hid (Fr20.out.stays b)
  replace R21 := hid (R21.out.stays b)
  clear b
  have Fr22 := hid r22
  clear r22
  clear R21 Fr22
  go_wp2_with fail
  refine (D_any _).mono ?_
  rintro e w23 ⟨a23, rfl, r, b⟩
  replace HB := hid (HB.out.trans (b.mono HB.out.size))
  replace Fr8 := hid (Fr8.out.stays b)
  replace Fr11 := hid (Fr11.out.stays b)
  replace Fr14 := hid (Fr14.out.stays b)
  replace Fr17 := hid (Fr17.out.stays b)
  replace Fr20 := hid (Fr20.out.stays b)
  clear b
  have R23 := hid r
  clear r
  go_wp2_with fail
  refine (KFs.out a23 _ R23.out).mono ?_
  rintro e w24 ⟨x24, c24, rfl, r24, b⟩
  replace HB := hid (HB.out.trans (b.mono HB.out.size))
  replace Fr8 := hid (Fr8.out.stays b)
  replace Fr11 := hid (Fr11.out.stays b)
  replace Fr14 := hid (Fr14.out.stays b)
  replace Fr17 := hid (Fr17.out.stays b)
  replace Fr20 := hid (Fr20.out.stays b)
  replace R23 := hid (R23.out.stays b)
  clear b
  have Fr24 := hid r24
  clear r24
  clear R23
  go_wp2_with fail
  refine (C_any _).mono ?_
  rintro e w25 ⟨a25, rfl, r, b⟩
  replace HB := hid (HB.out.trans (b.mono HB.out.size))
  replace Fr8 := hid (Fr8.out.stays b)
  replace Fr11 := hid (Fr11.out.stays b)
  replace Fr14 := hid (Fr14.out.stays b)
  replace Fr17 := hid (Fr17.out.stays b)
  replace Fr20 := hid (Fr20.out.stays b)
  replace Fr24 := hid (Fr24.out.stays b)
  clear b
  have R25 := hid r
  clear r
  go_wp2_with fail
  refine (KDb.out a25 _ R25.out).mono ?_
  rintro e w26 ⟨x26, c26, y26, d26, rfl, r26, s26, b⟩
  replace HB := hid (HB.out.trans (b.mono HB.out.size))
  replace Fr8 := hid (Fr8.out.stays b)
  replace Fr11 := hid (Fr11.out.stays b)
  replace Fr14 := hid (Fr14.out.stays b)
  replace Fr17 := hid (Fr17.out.stays b)
  replace Fr20 := hid (Fr20.out.stays b)
  replace Fr24 := hid (Fr24.out.stays b)
  replace R25 := hid (R25.out.stays b)
  clear b
  have Fr26 := hid r26
  clear r26
  have Fs26 := hid s26
  clear s26
  clear R25 Fr26 Fs26
  go_wp2_with fail
  obtain ⟨w27, hx⟩ : ∃ x, M.alls w26 [Obj.cells #[.slice x26 0 c26, .slice y26 0 d26] 57] = x := ⟨_, rfl⟩
  change Calls _ _ _ (M.alls w26 [Obj.cells #[.slice x26 0 c26, .slice y26 0 d26] 57]) _
  rw [hx]
  have b : Below w26.heap.size w26 w27 := by rw [← hx]; exact M.alls_below [Obj.cells #[.slice x26 0 c26, .slice y26 0 d26] 57] _ _ (Nat.le_refl _)
  clear hx
  replace HB := hid (HB.out.trans (b.mono HB.out.size))
  replace Fr8 := hid (Fr8.out.stays b)
  replace Fr11 := hid (Fr11.out.stays b)
  replace Fr14 := hid (Fr14.out.stays b)
  replace Fr17 := hid (Fr17.out.stays b)
  replace Fr20 := hid (Fr20.out.stays b)
  replace Fr24 := hid (Fr24.out.stays b)
  clear b
  refine (D_any _).mono ?_
  rintro e w28 ⟨a28, rfl, r, b⟩
  replace HB := hid (HB.out.trans (b.mono HB.out.size))
  replace Fr8 := hid (Fr8.out.stays b)
  replace Fr11 := hid (Fr11.out.stays b)
  replace Fr14 := hid (Fr14.out.stays b)
  replace Fr17 := hid (Fr17.out.stays b)
  replace Fr20 := hid (Fr20.out.stays b)
  replace Fr24 := hid (Fr24.out.stays b)
  clear b
  have R28 := hid r
  clear r
  go_wp2_with fail
  refine (KDc.out a28 _ R28.out).mono ?_
  rintro e w29 ⟨x29, c29, y29, d29, rfl, r29, s29, b⟩
  replace HB := hid (HB.out.trans (b.mono HB.out.size))
  replace Fr8 := hid (Fr8.out.stays b)
  replace Fr11 := hid (Fr11.out.stays b)
  replace Fr14 := hid (Fr14.out.stays b)
  replace Fr17 := hid (Fr17.out.stays b)
  replace Fr20 := hid (Fr20.out.stays b)
  replace Fr24 := hid (Fr24.out.stays b)
  replace R28 := hid (R28.out.stays b)
  clear b
  have Fr29 := hid r29
  clear r29
  have Fs29 := hid s29
  clear s29
  clear R28
  go_wp2_with fail
  obtain ⟨w30, hx⟩ : ∃ x, M.alls w29 [Obj.cells #[.slice x29 2 c29, .slice y29 2 d29] 57] = x := ⟨_, rfl⟩
  change Code.wp _ _ _ _ (M.alls w29 [Obj.cells #[.slice x29 2 c29, .slice y29 2 d29] 57])
  rw [hx]
  have b : Below w29.heap.size w29 w30 := by rw [← hx]; exact M.alls_below [Obj.cells #[.slice x29 2 c29, .slice y29 2 d29] 57] _ _ (Nat.le_refl _)
  have q0 : w30.cell? ⟨w29.heap.size, 0, none⟩ = some (.slice x29 2 c29) := by rw [← hx]; exact M.alls_cell w29 [Obj.cells #[.slice x29 2 c29, .slice y29 2 d29] 57] 0 0 _ _ _ rfl rfl
  have q1 : w30.cell? ⟨w29.heap.size, 1, none⟩ = some (.slice y29 2 d29) := by rw [← hx]; exact M.alls_cell w29 [Obj.cells #[.slice x29 2 c29, .slice y29 2 d29] 57] 0 1 _ _ _ rfl rfl
  clear hx
  replace HB := hid (HB.out.trans (b.mono HB.out.size))
  replace Fr8 := hid (Fr8.out.stays b)
  replace Fr11 := hid (Fr11.out.stays b)
  replace Fr14 := hid (Fr14.out.stays b)
  replace Fr17 := hid (Fr17.out.stays b)
  replace Fr20 := hid (Fr20.out.stays b)
  replace Fr24 := hid (Fr24.out.stays b)
  replace Fr29 := hid (Fr29.out.stays b)
  replace Fs29 := hid (Fs29.out.stays b)
  clear b
  have b : Below w30.heap.size w30 w30.drew := (Below.refl _ _).drew
  replace HB := hid (HB.out.trans (b.mono HB.out.size))
  replace Fr8 := hid (Fr8.out.stays b)
  replace Fr11 := hid (Fr11.out.stays b)
  replace Fr14 := hid (Fr14.out.stays b)
  replace Fr17 := hid (Fr17.out.stays b)
  replace Fr20 := hid (Fr20.out.stays b)
  replace Fr24 := hid (Fr24.out.stays b)
  replace Fr29 := hid (Fr29.out.stays b)
  replace Fs29 := hid (Fs29.out.stays b)
  replace q0 := cell_stays b (Nat.le_refl _) q0
  replace q1 := cell_stays b (Nat.le_refl _) q1
  clear b
  refine M.region_inv 82 217 M.wD (M.kz M.wK) (by kernel_rfl) rfl rfl (fun _ _ _ _ hb h => M.Ky.Holds.stays hb h) M.wD_inj M.wD_lt ?_ ?_
  case refine_1 =>
    clear KDi KCp KFw KLe KGu KGv KNe KFr KFs KDb KDc HB
    intro T0 hT
    have s1 : T0 1 = .int .i64 3 := (hT 1).symm
    have s3 : T0 3 = .int .i64 8 := (hT 3).symm
    have s19 : T0 19 = .int .i64 1 := (hT 19).symm
    have s5 : T0 5 = .slice x8 3 c8 := (hT 5).symm
    have s7 : T0 7 = .slice x11 2 c11 := (hT 7).symm
    have s9 : T0 9 = .slice x14 2 c14 := (hT 9).symm
    have s11 : T0 11 = .slice x17 0 c17 := (hT 11).symm
    have s13 : T0 13 = .slice x20 1 c20 := (hT 13).symm
    have s18 : T0 18 = .slice x24 2 c24 := (hT 18).symm
    have s23 : T0 23 = .pointer (some ⟨w29.heap.size, 0, none⟩) := (hT 23).symm
    clear hT
    refine And.intro ?_ (And.intro ?_ (And.intro ?_ (And.intro ?_ (And.intro ?_ (And.intro ?_ (And.intro ?_ (And.intro ?_ (And.intro ?_ (And.intro ?_ (And.intro ?_ (And.intro ?_ (And.intro ?_ (And.intro ?_ (And.intro ?_ (And.intro ?_ (And.intro ?_ (And.intro ?_ (And.intro ?_ (And.intro ?_ (And.intro ?_ (And.intro ?_ (And.intro ?_ (And.intro ?_ (And.intro ?_ (And.intro ?_ (And.intro ?_ (And.intro ?_ (And.intro ?_ (And.intro ?_ (And.intro ?_ (And.intro ?_ (And.intro ?_ (And.intro ?_ (And.intro ?_ (And.intro ?_ (And.intro ?_ (And.intro ?_ (And.intro ?_ (And.intro ?_ (And.intro ?_ (And.intro ?_ (And.intro ?_ (And.intro ?_ (And.intro ?_ (And.intro ?_ (And.intro ?_ (And.intro ?_ (And.intro ?_ (And.intro ?_ (And.intro ?_ (And.intro ?_ (And.intro ?_ (And.intro ?_ (And.intro ?_ (And.intro ?_ (And.intro ?_ (And.intro ?_ (And.intro ?_ (And.intro ?_ (And.intro ?_ (And.intro ?_ (And.intro ?_ (And.intro ?_ (And.intro ?_ (And.intro ?_ (And.intro ?_ (And.intro ?_ (And.intro ?_ (And.intro ?_ (And.intro ?_ (And.intro ?_ (And.intro ?_ (And.intro ?_ (And.intro ?_ (And.intro ?_ (And.intro ?_ (And.intro ?_ (And.intro ?_ (And.intro ?_ (And.intro ?_ (And.intro ?_ (trivial))))))))))))))))))))))))))))))))))))))))))))))))))))))))))))))))))))))))))))))))))
    · refine M.R.of rfl (by kernel_rfl) (.inl rfl) (fun Q listed a w h hd => ?_)
      have b := h.base 1 (by intro j hj; unfold M.wD; split <;> omega)
      refine M.wp_pure (a.tmps.getD 1 undef) rfl rfl (M.kz_of (k := .val (.int .i64 3)) (by kernel_rfl) ?_)
      rw [b]
      exact M.Ky.Holds.stays h.below (s1)
    · refine M.R.of rfl (by kernel_rfl) (.inl rfl) (fun Q listed a w h hd => ?_)
      have e1 : a.tmps.getD 136 undef = .int .i64 3 := M.got h 0 (by decide) (.val (.int .i64 3)) (by kernel_rfl) (hd 0 (by kernel_rfl))
      exact M.wp_pure (.bool true) rfl (by rw [M.run_env [(136, .int .i64 3)] ⟨e1, trivial⟩ rfl (by kernel_rfl)]; kernel_rfl) (M.kz_of (k := .val (.bool true)) (by kernel_rfl) rfl)
    · refine M.R.of rfl (by kernel_rfl) (.inl rfl) (fun Q listed a w h hd => ?_)
      exact M.wp_pure _ rfl rfl (M.kz_of (k := .val (.bool true)) (by kernel_rfl) (M.got h 1 (by decide) (.val (.bool true)) (by kernel_rfl) (hd 1 (by kernel_rfl))))
    · refine M.R.of rfl (by kernel_rfl) (.inr ⟨2, true, rfl, by decide, by kernel_rfl, by kernel_rfl⟩) (fun Q listed a w h hd => ?_)
      have b := h.base 3 (by intro j hj; unfold M.wD; split <;> omega)
      refine M.wp_pure (a.tmps.getD 3 undef) rfl rfl (M.kz_of (k := .val (.int .i64 8)) (by kernel_rfl) ?_)
      rw [b]
      exact M.Ky.Holds.stays h.below (s3)
    · refine M.R.of rfl (by kernel_rfl) (.inr ⟨2, true, rfl, by decide, by kernel_rfl, by kernel_rfl⟩) (fun Q listed a w h hd => ?_)
      have e1 : a.tmps.getD 139 undef = .int .i64 8 := M.got h 3 (by decide) (.val (.int .i64 8)) (by kernel_rfl) (hd 3 (by kernel_rfl))
      exact M.wp_pure (.bool true) rfl (by rw [M.run_env [(139, .int .i64 8)] ⟨e1, trivial⟩ rfl (by kernel_rfl)]; kernel_rfl) (M.kz_of (k := .val (.bool true)) (by kernel_rfl) rfl)
    · refine M.R.of rfl (by kernel_rfl) (.inl rfl) (fun Q listed a w h hd => ?_)
      have e0 : a.tmps.getD 138 undef = .bool true := M.got h 2 (by decide) (.val (.bool true)) (by kernel_rfl) (hd 2 (by kernel_rfl))
      have e1 : a.tmps.getD 140 undef = .bool true := M.got h 4 (by decide) (.val (.bool true)) (by kernel_rfl) (hd 4 (by kernel_rfl))
      exact M.wp_pure (.bool true) rfl (by rw [M.run_env [(138, .bool true), (140, .bool true)] ⟨e0, e1, trivial⟩ rfl (by kernel_rfl)]; kernel_rfl) (M.kz_of (k := .val (.bool true)) (by kernel_rfl) rfl)
    · refine M.R.of rfl (by kernel_rfl) (.inl rfl) (fun Q listed a w h hd => ?_)
      exact M.wp_pure _ rfl rfl (M.kz_of (k := .val (.bool true)) (by kernel_rfl) (M.got h 5 (by decide) (.val (.bool true)) (by kernel_rfl) (hd 5 (by kernel_rfl))))
    · refine M.R.of rfl (by kernel_rfl) (.inr ⟨6, true, rfl, by decide, by kernel_rfl, by kernel_rfl⟩) (fun Q listed a w h hd => ?_)
      have b := h.base 5 (by intro j hj; unfold M.wD; split <;> omega)
      refine M.wp_pure (a.tmps.getD 5 undef) rfl rfl (M.kz_of (k := .row [0, 1, 2]) (by kernel_rfl) ?_)
      rw [b]
      exact M.Ky.Holds.stays h.below (⟨_, _, s5, Fr8.out⟩)
    · refine M.R.of rfl (by kernel_rfl) (.inr ⟨6, true, rfl, by decide, by kernel_rfl, by kernel_rfl⟩) (fun Q listed a w h hd => ?_)
      refine M.wp_new (.slice (some ⟨w.heap.size, 0, none⟩) 3 3) (M.rwo [0, 1, 2]) rfl (by rw [M.run_env [] trivial rfl (by kernel_rfl)]; kernel_rfl) (M.kz_of (k := .row [0, 1, 2]) rfl ?_)
      exact ⟨_, _, rfl, M.alls_row w [M.rwo [0, 1, 2]] 0 [0, 1, 2] _ rfl⟩
    · refine M.R.of rfl (by kernel_rfl) (.inr ⟨6, true, rfl, by decide, by kernel_rfl, by kernel_rfl⟩) (fun Q listed a w h hd => ?_)
      obtain ⟨xe0, ce0, e0, re0⟩ : ∃ x c, a.tmps.getD 144 undef = .slice x 3 c ∧ RdI w x [0, 1, 2] := M.got h 8 (by decide) (.row [0, 1, 2]) (by kernel_rfl) (hd 8 (by kernel_rfl))
      refine M.wp_call 42 #[.slice xe0 3 ce0] rfl (by rw [M.run_env [(144, .slice xe0 3 ce0)] ⟨e0, trivial⟩ rfl (by kernel_rfl)]; kernel_rfl) ?_
      exact (list_any xe0 3 ce0 w).mono fun e w' ⟨h1, h2⟩ => ⟨_, h1, M.kz_of (k := .row [0, 1, 2]) (by kernel_rfl) ⟨_, _, rfl, h2 ▸ re0⟩, h2 ▸ Below.refl _ _⟩
    · refine M.R.of rfl (by kernel_rfl) (.inr ⟨6, true, rfl, by decide, by kernel_rfl, by kernel_rfl⟩) (fun Q listed a w h hd => ?_)
      obtain ⟨xe0, ce0, e0, re0⟩ : ∃ x c, a.tmps.getD 143 undef = .slice x 3 c ∧ RdI w x [0, 1, 2] := M.got h 7 (by decide) (.row [0, 1, 2]) (by kernel_rfl) (hd 7 (by kernel_rfl))
      obtain ⟨xe1, ce1, e1, re1⟩ : ∃ x c, a.tmps.getD 145 undef = .slice x 3 c ∧ RdI w x [0, 1, 2] := M.got h 9 (by decide) (.row [0, 1, 2]) (by kernel_rfl) (hd 9 (by kernel_rfl))
      refine M.wp_call 24 #[.slice xe0 3 ce0, .slice xe1 3 ce1] rfl (by rw [M.run_env [(143, .slice xe0 3 ce0), (145, .slice xe1 3 ce1)] ⟨e0, e1, trivial⟩ rfl (by kernel_rfl)]; kernel_rfl) ?_
      exact (numbers_eq xe0 xe1 ce0 ce1 [0, 1, 2] w (by decide) re0 re1).mono fun e w' ⟨h1, nn, h2⟩ => ⟨_, h1, M.kz_of (k := .val (.bool true)) (by kernel_rfl) rfl, h2 ▸ below_drewN (Below.refl _ _) nn⟩
    · refine M.R.of rfl (by kernel_rfl) (.inl rfl) (fun Q listed a w h hd => ?_)
      have e0 : a.tmps.getD 142 undef = .bool true := M.got h 6 (by decide) (.val (.bool true)) (by kernel_rfl) (hd 6 (by kernel_rfl))
      have e1 : a.tmps.getD 146 undef = .bool true := M.got h 10 (by decide) (.val (.bool true)) (by kernel_rfl) (hd 10 (by kernel_rfl))
      exact M.wp_pure (.bool true) rfl (by rw [M.run_env [(142, .bool true), (146, .bool true)] ⟨e0, e1, trivial⟩ rfl (by kernel_rfl)]; kernel_rfl) (M.kz_of (k := .val (.bool true)) (by kernel_rfl) rfl)
    · refine M.R.of rfl (by kernel_rfl) (.inl rfl) (fun Q listed a w h hd => ?_)
      exact M.wp_pure _ rfl rfl (M.kz_of (k := .val (.bool true)) (by kernel_rfl) (M.got h 11 (by decide) (.val (.bool true)) (by kernel_rfl) (hd 11 (by kernel_rfl))))
    · refine M.R.of rfl (by kernel_rfl) (.inr ⟨12, true, rfl, by decide, by kernel_rfl, by kernel_rfl⟩) (fun Q listed a w h hd => ?_)
      have b := h.base 7 (by intro j hj; unfold M.wD; split <;> omega)
      refine M.wp_pure (a.tmps.getD 7 undef) rfl rfl (M.kz_of (k := .mat [[0, 3], [1]]) (by kernel_rfl) ?_)
      rw [b]
      exact M.Ky.Holds.stays h.below (⟨_, _, s7, Fr11.out⟩)
    · refine M.R.of rfl (by kernel_rfl) (.inr ⟨12, true, rfl, by decide, by kernel_rfl, by kernel_rfl⟩) (fun Q listed a w h hd => ?_)
      refine M.wp_new (.slice (some ⟨w.heap.size, 0, none⟩) 2 2) (M.rwo [0, 3]) rfl (by rw [M.run_env [] trivial rfl (by kernel_rfl)]; kernel_rfl) (M.kz_of (k := .row [0, 3]) rfl ?_)
      exact ⟨_, _, rfl, M.alls_row w [M.rwo [0, 3]] 0 [0, 3] _ rfl⟩
    · refine M.R.of rfl (by kernel_rfl) (.inr ⟨12, true, rfl, by decide, by kernel_rfl, by kernel_rfl⟩) (fun Q listed a w h hd => ?_)
      refine M.wp_new (.slice (some ⟨w.heap.size, 0, none⟩) 1 1) (M.rwo [1]) rfl (by rw [M.run_env [] trivial rfl (by kernel_rfl)]; kernel_rfl) (M.kz_of (k := .row [1]) rfl ?_)
      exact ⟨_, _, rfl, M.alls_row w [M.rwo [1]] 0 [1] _ rfl⟩
    · refine M.R.of rfl (by kernel_rfl) (.inr ⟨12, true, rfl, by decide, by kernel_rfl, by kernel_rfl⟩) (fun Q listed a w h hd => ?_)
      obtain ⟨xe0, ce0, e0, re0⟩ : ∃ x c, a.tmps.getD 150 undef = .slice x 2 c ∧ RdI w x [0, 3] := M.got h 14 (by decide) (.row [0, 3]) (by kernel_rfl) (hd 14 (by kernel_rfl))
      obtain ⟨xe1, ce1, e1, re1⟩ : ∃ x c, a.tmps.getD 151 undef = .slice x 1 c ∧ RdI w x [1] := M.got h 15 (by decide) (.row [1]) (by kernel_rfl) (hd 15 (by kernel_rfl))
      refine M.wp_new (.slice (some ⟨w.heap.size, 0, none⟩) 2 2) (.cells #[.slice xe0 2 ce0, .slice xe1 1 ce1] 25) rfl (by rw [M.run_env [(150, .slice xe0 2 ce0), (151, .slice xe1 1 ce1)] ⟨e0, e1, trivial⟩ rfl (by kernel_rfl)]; kernel_rfl) (M.kz_of (k := .mat [[0, 3], [1]]) rfl ?_)
      refine ⟨_, _, rfl, fun k hk => ?_⟩
      match k, hk with
      | 0, _ => exact ⟨_, 0, xe0, ce0, rfl, by rw [World.cell?_alloc_at _ _ _ _ rfl]; rfl, re0.stays ((Below.refl _ _).alloc (Nat.le_refl _) _)⟩
      | 1, _ => exact ⟨_, 0, xe1, ce1, rfl, by rw [World.cell?_alloc_at _ _ _ _ rfl]; rfl, re1.stays ((Below.refl _ _).alloc (Nat.le_refl _) _)⟩
    · refine M.R.of rfl (by kernel_rfl) (.inr ⟨12, true, rfl, by decide, by kernel_rfl, by kernel_rfl⟩) (fun Q listed a w h hd => ?_)
      obtain ⟨xe0, ce0, e0, re0⟩ : ∃ x c, a.tmps.getD 149 undef = .slice x 2 c ∧ RdM w x [[0, 3], [1]] := M.got h 13 (by decide) (.mat [[0, 3], [1]]) (by kernel_rfl) (hd 13 (by kernel_rfl))
      obtain ⟨xe1, ce1, e1, re1⟩ : ∃ x c, a.tmps.getD 152 undef = .slice x 2 c ∧ RdM w x [[0, 3], [1]] := M.got h 16 (by decide) (.mat [[0, 3], [1]]) (by kernel_rfl) (hd 16 (by kernel_rfl))
      refine M.wp_call 37 #[.slice xe0 2 ce0, .slice xe1 2 ce1] rfl (by rw [M.run_env [(149, .slice xe0 2 ce0), (152, .slice xe1 2 ce1)] ⟨e0, e1, trivial⟩ rfl (by kernel_rfl)]; kernel_rfl) ?_
      exact (lists_eq xe0 xe1 ce0 ce1 [[0, 3], [1]] w (by decide) (by decide) re0 re1).mono fun e w' ⟨h1, nn, h2⟩ => ⟨_, h1, M.kz_of (k := .val (.bool true)) (by kernel_rfl) rfl, h2 ▸ below_drewN (Below.refl _ _) nn⟩
    · refine M.R.of rfl (by kernel_rfl) (.inl rfl) (fun Q listed a w h hd => ?_)
      have e0 : a.tmps.getD 148 undef = .bool true := M.got h 12 (by decide) (.val (.bool true)) (by kernel_rfl) (hd 12 (by kernel_rfl))
      have e1 : a.tmps.getD 153 undef = .bool true := M.got h 17 (by decide) (.val (.bool true)) (by kernel_rfl) (hd 17 (by kernel_rfl))
      exact M.wp_pure (.bool true) rfl (by rw [M.run_env [(148, .bool true), (153, .bool true)] ⟨e0, e1, trivial⟩ rfl (by kernel_rfl)]; kernel_rfl) (M.kz_of (k := .val (.bool true)) (by kernel_rfl) rfl)
    · refine M.R.of rfl (by kernel_rfl) (.inl rfl) (fun Q listed a w h hd => ?_)
      exact M.wp_pure _ rfl rfl (M.kz_of (k := .val (.bool true)) (by kernel_rfl) (M.got h 18 (by decide) (.val (.bool true)) (by kernel_rfl) (hd 18 (by kernel_rfl))))
    · refine M.R.of rfl (by kernel_rfl) (.inr ⟨19, true, rfl, by decide, by kernel_rfl, by kernel_rfl⟩) (fun Q listed a w h hd => ?_)
      have b := h.base 9 (by intro j hj; unfold M.wD; split <;> omega)
      refine M.wp_pure (a.tmps.getD 9 undef) rfl rfl (M.kz_of (k := .row [0, 1]) (by kernel_rfl) ?_)
      rw [b]
      exact M.Ky.Holds.stays h.below (⟨_, _, s9, Fr14.out⟩)
    · refine M.R.of rfl (by kernel_rfl) (.inr ⟨19, true, rfl, by decide, by kernel_rfl, by kernel_rfl⟩) (fun Q listed a w h hd => ?_)
      refine M.wp_new (.slice (some ⟨w.heap.size, 0, none⟩) 2 2) (M.rwo [0, 1]) rfl (by rw [M.run_env [] trivial rfl (by kernel_rfl)]; kernel_rfl) (M.kz_of (k := .row [0, 1]) rfl ?_)
      exact ⟨_, _, rfl, M.alls_row w [M.rwo [0, 1]] 0 [0, 1] _ rfl⟩
    · refine M.R.of rfl (by kernel_rfl) (.inr ⟨19, true, rfl, by decide, by kernel_rfl, by kernel_rfl⟩) (fun Q listed a w h hd => ?_)
      obtain ⟨xe0, ce0, e0, re0⟩ : ∃ x c, a.tmps.getD 157 undef = .slice x 2 c ∧ RdI w x [0, 1] := M.got h 21 (by decide) (.row [0, 1]) (by kernel_rfl) (hd 21 (by kernel_rfl))
      refine M.wp_call 42 #[.slice xe0 2 ce0] rfl (by rw [M.run_env [(157, .slice xe0 2 ce0)] ⟨e0, trivial⟩ rfl (by kernel_rfl)]; kernel_rfl) ?_
      exact (list_any xe0 2 ce0 w).mono fun e w' ⟨h1, h2⟩ => ⟨_, h1, M.kz_of (k := .row [0, 1]) (by kernel_rfl) ⟨_, _, rfl, h2 ▸ re0⟩, h2 ▸ Below.refl _ _⟩
    · refine M.R.of rfl (by kernel_rfl) (.inr ⟨19, true, rfl, by decide, by kernel_rfl, by kernel_rfl⟩) (fun Q listed a w h hd => ?_)
      obtain ⟨xe0, ce0, e0, re0⟩ : ∃ x c, a.tmps.getD 156 undef = .slice x 2 c ∧ RdI w x [0, 1] := M.got h 20 (by decide) (.row [0, 1]) (by kernel_rfl) (hd 20 (by kernel_rfl))
      obtain ⟨xe1, ce1, e1, re1⟩ : ∃ x c, a.tmps.getD 158 undef = .slice x 2 c ∧ RdI w x [0, 1] := M.got h 22 (by decide) (.row [0, 1]) (by kernel_rfl) (hd 22 (by kernel_rfl))
      refine M.wp_call 24 #[.slice xe0 2 ce0, .slice xe1 2 ce1] rfl (by rw [M.run_env [(156, .slice xe0 2 ce0), (158, .slice xe1 2 ce1)] ⟨e0, e1, trivial⟩ rfl (by kernel_rfl)]; kernel_rfl) ?_
      exact (numbers_eq xe0 xe1 ce0 ce1 [0, 1] w (by decide) re0 re1).mono fun e w' ⟨h1, nn, h2⟩ => ⟨_, h1, M.kz_of (k := .val (.bool true)) (by kernel_rfl) rfl, h2 ▸ below_drewN (Below.refl _ _) nn⟩
    · refine M.R.of rfl (by kernel_rfl) (.inl rfl) (fun Q listed a w h hd => ?_)
      have e0 : a.tmps.getD 155 undef = .bool true := M.got h 19 (by decide) (.val (.bool true)) (by kernel_rfl) (hd 19 (by kernel_rfl))
      have e1 : a.tmps.getD 159 undef = .bool true := M.got h 23 (by decide) (.val (.bool true)) (by kernel_rfl) (hd 23 (by kernel_rfl))
      exact M.wp_pure (.bool true) rfl (by rw [M.run_env [(155, .bool true), (159, .bool true)] ⟨e0, e1, trivial⟩ rfl (by kernel_rfl)]; kernel_rfl) (M.kz_of (k := .val (.bool true)) (by kernel_rfl) rfl)
    · refine M.R.of rfl (by kernel_rfl) (.inl rfl) (fun Q listed a w h hd => ?_)
      exact M.wp_pure _ rfl rfl (M.kz_of (k := .val (.bool true)) (by kernel_rfl) (M.got h 24 (by decide) (.val (.bool true)) (by kernel_rfl) (hd 24 (by kernel_rfl))))
    · refine M.R.of rfl (by kernel_rfl) (.inr ⟨25, true, rfl, by decide, by kernel_rfl, by kernel_rfl⟩) (fun Q listed a w h hd => ?_)
      have b := h.base 11 (by intro j hj; unfold M.wD; split <;> omega)
      refine M.wp_pure (a.tmps.getD 11 undef) rfl rfl (M.kz_of (k := .row []) (by kernel_rfl) ?_)
      rw [b]
      exact M.Ky.Holds.stays h.below (⟨_, _, s11, Fr17.out⟩)
    · refine M.R.of rfl (by kernel_rfl) (.inr ⟨25, true, rfl, by decide, by kernel_rfl, by kernel_rfl⟩) (fun Q listed a w h hd => ?_)
      obtain ⟨xe0, ce0, e0, re0⟩ : ∃ x c, a.tmps.getD 162 undef = .slice x 0 c ∧ RdI w x [] := M.got h 26 (by decide) (.row []) (by kernel_rfl) (hd 26 (by kernel_rfl))
      exact M.wp_pure (.int .i64 0) rfl (by rw [M.run_env [(162, .slice xe0 0 ce0)] ⟨e0, trivial⟩ rfl (by kernel_rfl)]; kernel_rfl) (M.kz_of (k := .val (.int .i64 0)) (by kernel_rfl) rfl)
    · refine M.R.of rfl (by kernel_rfl) (.inr ⟨25, true, rfl, by decide, by kernel_rfl, by kernel_rfl⟩) (fun Q listed a w h hd => ?_)
      have e1 : a.tmps.getD 163 undef = .int .i64 0 := M.got h 27 (by decide) (.val (.int .i64 0)) (by kernel_rfl) (hd 27 (by kernel_rfl))
      exact M.wp_pure (.bool true) rfl (by rw [M.run_env [(163, .int .i64 0)] ⟨e1, trivial⟩ rfl (by kernel_rfl)]; kernel_rfl) (M.kz_of (k := .val (.bool true)) (by kernel_rfl) rfl)
    · refine M.R.of rfl (by kernel_rfl) (.inl rfl) (fun Q listed a w h hd => ?_)
      have e0 : a.tmps.getD 161 undef = .bool true := M.got h 25 (by decide) (.val (.bool true)) (by kernel_rfl) (hd 25 (by kernel_rfl))
      have e1 : a.tmps.getD 164 undef = .bool true := M.got h 28 (by decide) (.val (.bool true)) (by kernel_rfl) (hd 28 (by kernel_rfl))
      exact M.wp_pure (.bool true) rfl (by rw [M.run_env [(161, .bool true), (164, .bool true)] ⟨e0, e1, trivial⟩ rfl (by kernel_rfl)]; kernel_rfl) (M.kz_of (k := .val (.bool true)) (by kernel_rfl) rfl)
    · refine M.R.of rfl (by kernel_rfl) (.inl rfl) (fun Q listed a w h hd => ?_)
      exact M.wp_pure _ rfl rfl (M.kz_of (k := .val (.bool true)) (by kernel_rfl) (M.got h 29 (by decide) (.val (.bool true)) (by kernel_rfl) (hd 29 (by kernel_rfl))))
    · refine M.R.of rfl (by kernel_rfl) (.inr ⟨30, true, rfl, by decide, by kernel_rfl, by kernel_rfl⟩) (fun Q listed a w h hd => ?_)
      have b := h.base 13 (by intro j hj; unfold M.wD; split <;> omega)
      refine M.wp_pure (a.tmps.getD 13 undef) rfl rfl (M.kz_of (k := .row [1]) (by kernel_rfl) ?_)
      rw [b]
      exact M.Ky.Holds.stays h.below (⟨_, _, s13, Fr20.out⟩)
    · refine M.R.of rfl (by kernel_rfl) (.inr ⟨30, true, rfl, by decide, by kernel_rfl, by kernel_rfl⟩) (fun Q listed a w h hd => ?_)
      refine M.wp_new (.slice (some ⟨w.heap.size, 0, none⟩) 1 1) (M.rwo [1]) rfl (by rw [M.run_env [] trivial rfl (by kernel_rfl)]; kernel_rfl) (M.kz_of (k := .row [1]) rfl ?_)
      exact ⟨_, _, rfl, M.alls_row w [M.rwo [1]] 0 [1] _ rfl⟩
    · refine M.R.of rfl (by kernel_rfl) (.inr ⟨30, true, rfl, by decide, by kernel_rfl, by kernel_rfl⟩) (fun Q listed a w h hd => ?_)
      obtain ⟨xe0, ce0, e0, re0⟩ : ∃ x c, a.tmps.getD 168 undef = .slice x 1 c ∧ RdI w x [1] := M.got h 32 (by decide) (.row [1]) (by kernel_rfl) (hd 32 (by kernel_rfl))
      refine M.wp_call 42 #[.slice xe0 1 ce0] rfl (by rw [M.run_env [(168, .slice xe0 1 ce0)] ⟨e0, trivial⟩ rfl (by kernel_rfl)]; kernel_rfl) ?_
      exact (list_any xe0 1 ce0 w).mono fun e w' ⟨h1, h2⟩ => ⟨_, h1, M.kz_of (k := .row [1]) (by kernel_rfl) ⟨_, _, rfl, h2 ▸ re0⟩, h2 ▸ Below.refl _ _⟩
    · refine M.R.of rfl (by kernel_rfl) (.inr ⟨30, true, rfl, by decide, by kernel_rfl, by kernel_rfl⟩) (fun Q listed a w h hd => ?_)
      obtain ⟨xe0, ce0, e0, re0⟩ : ∃ x c, a.tmps.getD 167 undef = .slice x 1 c ∧ RdI w x [1] := M.got h 31 (by decide) (.row [1]) (by kernel_rfl) (hd 31 (by kernel_rfl))
      obtain ⟨xe1, ce1, e1, re1⟩ : ∃ x c, a.tmps.getD 169 undef = .slice x 1 c ∧ RdI w x [1] := M.got h 33 (by decide) (.row [1]) (by kernel_rfl) (hd 33 (by kernel_rfl))
      refine M.wp_call 24 #[.slice xe0 1 ce0, .slice xe1 1 ce1] rfl (by rw [M.run_env [(167, .slice xe0 1 ce0), (169, .slice xe1 1 ce1)] ⟨e0, e1, trivial⟩ rfl (by kernel_rfl)]; kernel_rfl) ?_
      exact (numbers_eq xe0 xe1 ce0 ce1 [1] w (by decide) re0 re1).mono fun e w' ⟨h1, nn, h2⟩ => ⟨_, h1, M.kz_of (k := .val (.bool true)) (by kernel_rfl) rfl, h2 ▸ below_drewN (Below.refl _ _) nn⟩
    · refine M.R.of rfl (by kernel_rfl) (.inl rfl) (fun Q listed a w h hd => ?_)
      have e0 : a.tmps.getD 166 undef = .bool true := M.got h 30 (by decide) (.val (.bool true)) (by kernel_rfl) (hd 30 (by kernel_rfl))
      have e1 : a.tmps.getD 170 undef = .bool true := M.got h 34 (by decide) (.val (.bool true)) (by kernel_rfl) (hd 34 (by kernel_rfl))
      exact M.wp_pure (.bool true) rfl (by rw [M.run_env [(166, .bool true), (170, .bool true)] ⟨e0, e1, trivial⟩ rfl (by kernel_rfl)]; kernel_rfl) (M.kz_of (k := .val (.bool true)) (by kernel_rfl) rfl)
    · refine M.R.of rfl (by kernel_rfl) (.inl rfl) (fun Q listed a w h hd => ?_)
      exact M.wp_pure _ rfl rfl (M.kz_of (k := .val (.bool true)) (by kernel_rfl) (M.got h 35 (by decide) (.val (.bool true)) (by kernel_rfl) (hd 35 (by kernel_rfl))))
    · refine M.R.of rfl (by kernel_rfl) (.inr ⟨36, true, rfl, by decide, by kernel_rfl, by kernel_rfl⟩) (fun Q listed a w h hd => ?_)
      have b := h.base 18 (by intro j hj; unfold M.wD; split <;> omega)
      refine M.wp_pure (a.tmps.getD 18 undef) rfl rfl (M.kz_of (k := .row [0, 3]) (by kernel_rfl) ?_)
      rw [b]
      exact M.Ky.Holds.stays h.below (⟨_, _, s18, Fr24.out⟩)
    · refine M.R.of rfl (by kernel_rfl) (.inr ⟨36, true, rfl, by decide, by kernel_rfl, by kernel_rfl⟩) (fun Q listed a w h hd => ?_)
      refine M.wp_new (.slice (some ⟨w.heap.size, 0, none⟩) 2 2) (M.rwo [0, 3]) rfl (by rw [M.run_env [] trivial rfl (by kernel_rfl)]; kernel_rfl) (M.kz_of (k := .row [0, 3]) rfl ?_)
      exact ⟨_, _, rfl, M.alls_row w [M.rwo [0, 3]] 0 [0, 3] _ rfl⟩
    · refine M.R.of rfl (by kernel_rfl) (.inr ⟨36, true, rfl, by decide, by kernel_rfl, by kernel_rfl⟩) (fun Q listed a w h hd => ?_)
      obtain ⟨xe0, ce0, e0, re0⟩ : ∃ x c, a.tmps.getD 174 undef = .slice x 2 c ∧ RdI w x [0, 3] := M.got h 38 (by decide) (.row [0, 3]) (by kernel_rfl) (hd 38 (by kernel_rfl))
      refine M.wp_call 42 #[.slice xe0 2 ce0] rfl (by rw [M.run_env [(174, .slice xe0 2 ce0)] ⟨e0, trivial⟩ rfl (by kernel_rfl)]; kernel_rfl) ?_
      exact (list_any xe0 2 ce0 w).mono fun e w' ⟨h1, h2⟩ => ⟨_, h1, M.kz_of (k := .row [0, 3]) (by kernel_rfl) ⟨_, _, rfl, h2 ▸ re0⟩, h2 ▸ Below.refl _ _⟩
    · refine M.R.of rfl (by kernel_rfl) (.inr ⟨36, true, rfl, by decide, by kernel_rfl, by kernel_rfl⟩) (fun Q listed a w h hd => ?_)
      obtain ⟨xe0, ce0, e0, re0⟩ : ∃ x c, a.tmps.getD 173 undef = .slice x 2 c ∧ RdI w x [0, 3] := M.got h 37 (by decide) (.row [0, 3]) (by kernel_rfl) (hd 37 (by kernel_rfl))
      obtain ⟨xe1, ce1, e1, re1⟩ : ∃ x c, a.tmps.getD 175 undef = .slice x 2 c ∧ RdI w x [0, 3] := M.got h 39 (by decide) (.row [0, 3]) (by kernel_rfl) (hd 39 (by kernel_rfl))
      refine M.wp_call 24 #[.slice xe0 2 ce0, .slice xe1 2 ce1] rfl (by rw [M.run_env [(173, .slice xe0 2 ce0), (175, .slice xe1 2 ce1)] ⟨e0, e1, trivial⟩ rfl (by kernel_rfl)]; kernel_rfl) ?_
      exact (numbers_eq xe0 xe1 ce0 ce1 [0, 3] w (by decide) re0 re1).mono fun e w' ⟨h1, nn, h2⟩ => ⟨_, h1, M.kz_of (k := .val (.bool true)) (by kernel_rfl) rfl, h2 ▸ below_drewN (Below.refl _ _) nn⟩
    · refine M.R.of rfl (by kernel_rfl) (.inl rfl) (fun Q listed a w h hd => ?_)
      have e0 : a.tmps.getD 172 undef = .bool true := M.got h 36 (by decide) (.val (.bool true)) (by kernel_rfl) (hd 36 (by kernel_rfl))
      have e1 : a.tmps.getD 176 undef = .bool true := M.got h 40 (by decide) (.val (.bool true)) (by kernel_rfl) (hd 40 (by kernel_rfl))
      exact M.wp_pure (.bool true) rfl (by rw [M.run_env [(172, .bool true), (176, .bool true)] ⟨e0, e1, trivial⟩ rfl (by kernel_rfl)]; kernel_rfl) (M.kz_of (k := .val (.bool true)) (by kernel_rfl) rfl)
    · refine M.R.of rfl (by kernel_rfl) (.inl rfl) (fun Q listed a w h hd => ?_)
      exact M.wp_pure _ rfl rfl (M.kz_of (k := .val (.bool true)) (by kernel_rfl) (M.got h 41 (by decide) (.val (.bool true)) (by kernel_rfl) (hd 41 (by kernel_rfl))))
    · refine M.R.of rfl (by kernel_rfl) (.inr ⟨42, true, rfl, by decide, by kernel_rfl, by kernel_rfl⟩) (fun Q listed a w h hd => ?_)
      have b := h.base 19 (by intro j hj; unfold M.wD; split <;> omega)
      refine M.wp_pure (a.tmps.getD 19 undef) rfl rfl (M.kz_of (k := .val (.int .i64 1)) (by kernel_rfl) ?_)
      rw [b]
      exact M.Ky.Holds.stays h.below (s19)
    · refine M.R.of rfl (by kernel_rfl) (.inr ⟨42, true, rfl, by decide, by kernel_rfl, by kernel_rfl⟩) (fun Q listed a w h hd => ?_)
      have e1 : a.tmps.getD 179 undef = .int .i64 1 := M.got h 43 (by decide) (.val (.int .i64 1)) (by kernel_rfl) (hd 43 (by kernel_rfl))
      exact M.wp_pure (.bool true) rfl (by rw [M.run_env [(179, .int .i64 1)] ⟨e1, trivial⟩ rfl (by kernel_rfl)]; kernel_rfl) (M.kz_of (k := .val (.bool true)) (by kernel_rfl) rfl)
    · refine M.R.of rfl (by kernel_rfl) (.inl rfl) (fun Q listed a w h hd => ?_)
      have e0 : a.tmps.getD 178 undef = .bool true := M.got h 42 (by decide) (.val (.bool true)) (by kernel_rfl) (hd 42 (by kernel_rfl))
      have e1 : a.tmps.getD 180 undef = .bool true := M.got h 44 (by decide) (.val (.bool true)) (by kernel_rfl) (hd 44 (by kernel_rfl))
      exact M.wp_pure (.bool true) rfl (by rw [M.run_env [(178, .bool true), (180, .bool true)] ⟨e0, e1, trivial⟩ rfl (by kernel_rfl)]; kernel_rfl) (M.kz_of (k := .val (.bool true)) (by kernel_rfl) rfl)
    · refine M.R.of rfl (by kernel_rfl) (.inl rfl) (fun Q listed a w h hd => ?_)
      exact M.wp_pure _ rfl rfl (M.kz_of (k := .val (.bool true)) (by kernel_rfl) (M.got h 45 (by decide) (.val (.bool true)) (by kernel_rfl) (hd 45 (by kernel_rfl))))
    · refine M.R.of rfl (by kernel_rfl) (.inr ⟨46, true, rfl, by decide, by kernel_rfl, by kernel_rfl⟩) (fun Q listed a w h hd => ?_)
      refine M.wp_call 41 #[] rfl (by rw [M.run_env [] trivial rfl (by kernel_rfl)]; kernel_rfl) ?_
      exact (D_any w).mono fun e w' ⟨x, h1, h2, h3⟩ => ⟨_, h1, M.kz_of (k := .code 2 M.D) (by kernel_rfl) ⟨x, rfl, h2⟩, h3⟩
    · refine M.R.of rfl (by kernel_rfl) (.inr ⟨46, true, rfl, by decide, by kernel_rfl, by kernel_rfl⟩) (fun Q listed a w h hd => ?_)
      have b := h.base 23 (by intro j hj; unfold M.wD; split <;> omega)
      replace b := b.trans s23
      have k0 := cell_stays h.below (Nat.le_refl _) q0
      have k1 := cell_stays h.below (Nat.le_refl _) q1
      refine M.wp_pure (.agg #[.slice x29 2 c29, .slice y29 2 d29]) rfl (by rw [M.run_env [(23, .pointer (some ⟨w29.heap.size, 0, none⟩))] ⟨b, trivial⟩ rfl (by kernel_rfl)]; go_simp; simp [M.env, k0, k1]) (M.kz_of (k := .dou [0, 0] [[0], [1, 2]]) (by kernel_rfl) ⟨_, _, _, _, rfl, (Fr29.out.stays h.below), (Fs29.out.stays h.below)⟩)
    · refine M.R.of rfl (by kernel_rfl) (.inr ⟨46, true, rfl, by decide, by kernel_rfl, by kernel_rfl⟩) (fun Q listed a w h hd => ?_)
      obtain ⟨xe0, e0, re0⟩ : ∃ x, a.tmps.getD 183 undef = M.cv 2 x 4 4 ∧ RdM w x M.D := M.got h 47 (by decide) (.code 2 M.D) (by kernel_rfl) (hd 47 (by kernel_rfl))
      obtain ⟨xe1, ce1, ye1, de1, e1, re1, ue1⟩ : ∃ x c y d, a.tmps.getD 184 undef = .agg #[.slice x 2 c, .slice y 2 d] ∧ RdI w x [0, 0] ∧ RdM w y [[0], [1, 2]] := M.got h 48 (by decide) (.dou [0, 0] [[0], [1, 2]]) (by kernel_rfl) (hd 48 (by kernel_rfl))
      refine M.wp_call 32 #[M.cv 2 xe0 4 4, .agg #[.slice xe1 2 ce1, .slice ye1 2 de1]] rfl (by rw [M.run_env [(183, M.cv 2 xe0 4 4), (184, .agg #[.slice xe1 2 ce1, .slice ye1 2 de1])] ⟨e0, e1, trivial⟩ rfl (by kernel_rfl)]; kernel_rfl) ?_
      exact (KVe.out xe0 xe1 ye1 ce1 de1 w re0 re1 ue1).mono fun e w' ⟨h1, h2⟩ => ⟨_, h1, M.kz_of (k := .val (.int .i64 0)) (by kernel_rfl) rfl, h2⟩
    · refine M.R.of rfl (by kernel_rfl) (.inr ⟨46, true, rfl, by decide, by kernel_rfl, by kernel_rfl⟩) (fun Q listed a w h hd => ?_)
      have e1 : a.tmps.getD 185 undef = .int .i64 0 := M.got h 49 (by decide) (.val (.int .i64 0)) (by kernel_rfl) (hd 49 (by kernel_rfl))
      exact M.wp_pure (.bool true) rfl (by rw [M.run_env [(185, .int .i64 0)] ⟨e1, trivial⟩ rfl (by kernel_rfl)]; kernel_rfl) (M.kz_of (k := .val (.bool true)) (by kernel_rfl) rfl)
    · refine M.R.of rfl (by kernel_rfl) (.inl rfl) (fun Q listed a w h hd => ?_)
      have e0 : a.tmps.getD 182 undef = .bool true := M.got h 46 (by decide) (.val (.bool true)) (by kernel_rfl) (hd 46 (by kernel_rfl))
      have e1 : a.tmps.getD 186 undef = .bool true := M.got h 50 (by decide) (.val (.bool true)) (by kernel_rfl) (hd 50 (by kernel_rfl))
      exact M.wp_pure (.bool true) rfl (by rw [M.run_env [(182, .bool true), (186, .bool true)] ⟨e0, e1, trivial⟩ rfl (by kernel_rfl)]; kernel_rfl) (M.kz_of (k := .val (.bool true)) (by kernel_rfl) rfl)
    · refine M.R.of rfl (by kernel_rfl) (.inl rfl) (fun Q listed a w h hd => ?_)
      exact M.wp_pure _ rfl rfl (M.kz_of (k := .val (.bool true)) (by kernel_rfl) (M.got h 51 (by decide) (.val (.bool true)) (by kernel_rfl) (hd 51 (by kernel_rfl))))
    · refine M.R.of rfl (by kernel_rfl) (.inr ⟨52, true, rfl, by decide, by kernel_rfl, by kernel_rfl⟩) (fun Q listed a w h hd => ?_)
      refine M.wp_call 41 #[] rfl (by rw [M.run_env [] trivial rfl (by kernel_rfl)]; kernel_rfl) ?_
      exact (D_any w).mono fun e w' ⟨x, h1, h2, h3⟩ => ⟨_, h1, M.kz_of (k := .code 2 M.D) (by kernel_rfl) ⟨x, rfl, h2⟩, h3⟩
    · refine M.R.of rfl (by kernel_rfl) (.inr ⟨52, true, rfl, by decide, by kernel_rfl, by kernel_rfl⟩) (fun Q listed a w h hd => ?_)
      refine M.wp_new (.slice (some ⟨w.heap.size, 0, none⟩) 2 2) (M.rwo [0, 1]) rfl (by rw [M.run_env [] trivial rfl (by kernel_rfl)]; kernel_rfl) (M.kz_of (k := .row [0, 1]) rfl ?_)
      exact ⟨_, _, rfl, M.alls_row w [M.rwo [0, 1]] 0 [0, 1] _ rfl⟩
    · refine M.R.of rfl (by kernel_rfl) (.inr ⟨52, true, rfl, by decide, by kernel_rfl, by kernel_rfl⟩) (fun Q listed a w h hd => ?_)
      obtain ⟨xe0, ce0, e0, re0⟩ : ∃ x c, a.tmps.getD 190 undef = .slice x 2 c ∧ RdI w x [0, 1] := M.got h 54 (by decide) (.row [0, 1]) (by kernel_rfl) (hd 54 (by kernel_rfl))
      refine M.wp_call 42 #[.slice xe0 2 ce0] rfl (by rw [M.run_env [(190, .slice xe0 2 ce0)] ⟨e0, trivial⟩ rfl (by kernel_rfl)]; kernel_rfl) ?_
      exact (list_any xe0 2 ce0 w).mono fun e w' ⟨h1, h2⟩ => ⟨_, h1, M.kz_of (k := .row [0, 1]) (by kernel_rfl) ⟨_, _, rfl, h2 ▸ re0⟩, h2 ▸ Below.refl _ _⟩
    · refine M.R.of rfl (by kernel_rfl) (.inr ⟨52, true, rfl, by decide, by kernel_rfl, by kernel_rfl⟩) (fun Q listed a w h hd => ?_)
      refine M.wp_new (.slice (some ⟨w.heap.size, 0, none⟩) 1 1) (M.rwo [1]) rfl (by rw [M.run_env [] trivial rfl (by kernel_rfl)]; kernel_rfl) (M.kz_of (k := .row [1]) rfl ?_)
      exact ⟨_, _, rfl, M.alls_row w [M.rwo [1]] 0 [1] _ rfl⟩
    · refine M.R.of rfl (by kernel_rfl) (.inr ⟨52, true, rfl, by decide, by kernel_rfl, by kernel_rfl⟩) (fun Q listed a w h hd => ?_)
      refine M.wp_new (.slice (some ⟨w.heap.size, 0, none⟩) 2 2) (M.rwo [0, 3]) rfl (by rw [M.run_env [] trivial rfl (by kernel_rfl)]; kernel_rfl) (M.kz_of (k := .row [0, 3]) rfl ?_)
      exact ⟨_, _, rfl, M.alls_row w [M.rwo [0, 3]] 0 [0, 3] _ rfl⟩
    · refine M.R.of rfl (by kernel_rfl) (.inr ⟨52, true, rfl, by decide, by kernel_rfl, by kernel_rfl⟩) (fun Q listed a w h hd => ?_)
      obtain ⟨xe0, ce0, e0, re0⟩ : ∃ x c, a.tmps.getD 192 undef = .slice x 1 c ∧ RdI w x [1] := M.got h 56 (by decide) (.row [1]) (by kernel_rfl) (hd 56 (by kernel_rfl))
      obtain ⟨xe1, ce1, e1, re1⟩ : ∃ x c, a.tmps.getD 193 undef = .slice x 2 c ∧ RdI w x [0, 3] := M.got h 57 (by decide) (.row [0, 3]) (by kernel_rfl) (hd 57 (by kernel_rfl))
      refine M.wp_new (.slice (some ⟨w.heap.size, 0, none⟩) 2 2) (.cells #[.slice xe0 1 ce0, .slice xe1 2 ce1] 25) rfl (by rw [M.run_env [(192, .slice xe0 1 ce0), (193, .slice xe1 2 ce1)] ⟨e0, e1, trivial⟩ rfl (by kernel_rfl)]; kernel_rfl) (M.kz_of (k := .mat [[1], [0, 3]]) rfl ?_)
      refine ⟨_, _, rfl, fun k hk => ?_⟩
      match k, hk with
      | 0, _ => exact ⟨_, 0, xe0, ce0, rfl, by rw [World.cell?_alloc_at _ _ _ _ rfl]; rfl, re0.stays ((Below.refl _ _).alloc (Nat.le_refl _) _)⟩
      | 1, _ => exact ⟨_, 0, xe1, ce1, rfl, by rw [World.cell?_alloc_at _ _ _ _ rfl]; rfl, re1.stays ((Below.refl _ _).alloc (Nat.le_refl _) _)⟩
    · refine M.R.of rfl (by kernel_rfl) (.inr ⟨52, true, rfl, by decide, by kernel_rfl, by kernel_rfl⟩) (fun Q listed a w h hd => ?_)
      obtain ⟨xe0, ce0, e0, re0⟩ : ∃ x c, a.tmps.getD 191 undef = .slice x 2 c ∧ RdI w x [0, 1] := M.got h 55 (by decide) (.row [0, 1]) (by kernel_rfl) (hd 55 (by kernel_rfl))
      obtain ⟨xe1, ce1, e1, re1⟩ : ∃ x c, a.tmps.getD 194 undef = .slice x 2 c ∧ RdM w x [[1], [0, 3]] := M.got h 58 (by decide) (.mat [[1], [0, 3]]) (by kernel_rfl) (hd 58 (by kernel_rfl))
      exact M.wp_pure (.agg #[.slice xe0 2 ce0, .slice xe1 2 ce1]) rfl (by rw [M.run_env [(191, .slice xe0 2 ce0), (194, .slice xe1 2 ce1)] ⟨e0, e1, trivial⟩ rfl (by kernel_rfl)]; kernel_rfl) (M.kz_of (k := .dou [0, 1] [[1], [0, 3]]) (by kernel_rfl) ⟨_, _, _, _, rfl, re0, re1⟩)
    · refine M.R.of rfl (by kernel_rfl) (.inr ⟨52, true, rfl, by decide, by kernel_rfl, by kernel_rfl⟩) (fun Q listed a w h hd => ?_)
      obtain ⟨xe0, e0, re0⟩ : ∃ x, a.tmps.getD 189 undef = M.cv 2 x 4 4 ∧ RdM w x M.D := M.got h 53 (by decide) (.code 2 M.D) (by kernel_rfl) (hd 53 (by kernel_rfl))
      obtain ⟨xe1, ce1, ye1, de1, e1, re1, ue1⟩ : ∃ x c y d, a.tmps.getD 195 undef = .agg #[.slice x 2 c, .slice y 2 d] ∧ RdI w x [0, 1] ∧ RdM w y [[1], [0, 3]] := M.got h 59 (by decide) (.dou [0, 1] [[1], [0, 3]]) (by kernel_rfl) (hd 59 (by kernel_rfl))
      refine M.wp_call 32 #[M.cv 2 xe0 4 4, .agg #[.slice xe1 2 ce1, .slice ye1 2 de1]] rfl (by rw [M.run_env [(189, M.cv 2 xe0 4 4), (195, .agg #[.slice xe1 2 ce1, .slice ye1 2 de1])] ⟨e0, e1, trivial⟩ rfl (by kernel_rfl)]; kernel_rfl) ?_
      exact (KVf.out xe0 xe1 ye1 ce1 de1 w re0 re1 ue1).mono fun e w' ⟨h1, h2⟩ => ⟨_, h1, M.kz_of (k := .val (.int .i64 0)) (by kernel_rfl) rfl, h2⟩
    · refine M.R.of rfl (by kernel_rfl) (.inr ⟨52, true, rfl, by decide, by kernel_rfl, by kernel_rfl⟩) (fun Q listed a w h hd => ?_)
      have e1 : a.tmps.getD 196 undef = .int .i64 0 := M.got h 60 (by decide) (.val (.int .i64 0)) (by kernel_rfl) (hd 60 (by kernel_rfl))
      exact M.wp_pure (.bool true) rfl (by rw [M.run_env [(196, .int .i64 0)] ⟨e1, trivial⟩ rfl (by kernel_rfl)]; kernel_rfl) (M.kz_of (k := .val (.bool true)) (by kernel_rfl) rfl)
    · refine M.R.of rfl (by kernel_rfl) (.inl rfl) (fun Q listed a w h hd => ?_)
      have e0 : a.tmps.getD 188 undef = .bool true := M.got h 52 (by decide) (.val (.bool true)) (by kernel_rfl) (hd 52 (by kernel_rfl))
      have e1 : a.tmps.getD 197 undef = .bool true := M.got h 61 (by decide) (.val (.bool true)) (by kernel_rfl) (hd 61 (by kernel_rfl))
      exact M.wp_pure (.bool true) rfl (by rw [M.run_env [(188, .bool true), (197, .bool true)] ⟨e0, e1, trivial⟩ rfl (by kernel_rfl)]; kernel_rfl) (M.kz_of (k := .val (.bool true)) (by kernel_rfl) rfl)
    · refine M.R.of rfl (by kernel_rfl) (.inl rfl) (fun Q listed a w h hd => ?_)
      exact M.wp_pure _ rfl rfl (M.kz_of (k := .val (.bool true)) (by kernel_rfl) (M.got h 62 (by decide) (.val (.bool true)) (by kernel_rfl) (hd 62 (by kernel_rfl))))
    · refine M.R.of rfl (by kernel_rfl) (.inr ⟨63, true, rfl, by decide, by kernel_rfl, by kernel_rfl⟩) (fun Q listed a w h hd => ?_)
      refine M.wp_call 43 #[] rfl (by rw [M.run_env [] trivial rfl (by kernel_rfl)]; kernel_rfl) ?_
      exact (C_any w).mono fun e w' ⟨x, h1, h2, h3⟩ => ⟨_, h1, M.kz_of (k := .code 3 M.C) (by kernel_rfl) ⟨x, rfl, h2⟩, h3⟩
    · refine M.R.of rfl (by kernel_rfl) (.inr ⟨63, true, rfl, by decide, by kernel_rfl, by kernel_rfl⟩) (fun Q listed a w h hd => ?_)
      refine M.wp_new (.slice (some ⟨w.heap.size, 0, none⟩) 2 2) (M.rwo [0, 1]) rfl (by rw [M.run_env [] trivial rfl (by kernel_rfl)]; kernel_rfl) (M.kz_of (k := .row [0, 1]) rfl ?_)
      exact ⟨_, _, rfl, M.alls_row w [M.rwo [0, 1]] 0 [0, 1] _ rfl⟩
    · refine M.R.of rfl (by kernel_rfl) (.inr ⟨63, true, rfl, by decide, by kernel_rfl, by kernel_rfl⟩) (fun Q listed a w h hd => ?_)
      obtain ⟨xe0, ce0, e0, re0⟩ : ∃ x c, a.tmps.getD 201 undef = .slice x 2 c ∧ RdI w x [0, 1] := M.got h 65 (by decide) (.row [0, 1]) (by kernel_rfl) (hd 65 (by kernel_rfl))
      refine M.wp_call 42 #[.slice xe0 2 ce0] rfl (by rw [M.run_env [(201, .slice xe0 2 ce0)] ⟨e0, trivial⟩ rfl (by kernel_rfl)]; kernel_rfl) ?_
      exact (list_any xe0 2 ce0 w).mono fun e w' ⟨h1, h2⟩ => ⟨_, h1, M.kz_of (k := .row [0, 1]) (by kernel_rfl) ⟨_, _, rfl, h2 ▸ re0⟩, h2 ▸ Below.refl _ _⟩
    · refine M.R.of rfl (by kernel_rfl) (.inr ⟨63, true, rfl, by decide, by kernel_rfl, by kernel_rfl⟩) (fun Q listed a w h hd => ?_)
      refine M.wp_new (.slice (some ⟨w.heap.size, 0, none⟩) 3 3) (M.rwo [0, 1, 1]) rfl (by rw [M.run_env [] trivial rfl (by kernel_rfl)]; kernel_rfl) (M.kz_of (k := .row [0, 1, 1]) rfl ?_)
      exact ⟨_, _, rfl, M.alls_row w [M.rwo [0, 1, 1]] 0 [0, 1, 1] _ rfl⟩
    · refine M.R.of rfl (by kernel_rfl) (.inr ⟨63, true, rfl, by decide, by kernel_rfl, by kernel_rfl⟩) (fun Q listed a w h hd => ?_)
      obtain ⟨xe0, ce0, e0, re0⟩ : ∃ x c, a.tmps.getD 203 undef = .slice x 3 c ∧ RdI w x [0, 1, 1] := M.got h 67 (by decide) (.row [0, 1, 1]) (by kernel_rfl) (hd 67 (by kernel_rfl))
      refine M.wp_call 42 #[.slice xe0 3 ce0] rfl (by rw [M.run_env [(203, .slice xe0 3 ce0)] ⟨e0, trivial⟩ rfl (by kernel_rfl)]; kernel_rfl) ?_
      exact (list_any xe0 3 ce0 w).mono fun e w' ⟨h1, h2⟩ => ⟨_, h1, M.kz_of (k := .row [0, 1, 1]) (by kernel_rfl) ⟨_, _, rfl, h2 ▸ re0⟩, h2 ▸ Below.refl _ _⟩
    · refine M.R.of rfl (by kernel_rfl) (.inr ⟨63, true, rfl, by decide, by kernel_rfl, by kernel_rfl⟩) (fun Q listed a w h hd => ?_)
      obtain ⟨xe0, e0, re0⟩ : ∃ x, a.tmps.getD 200 undef = M.cv 3 x 3 3 ∧ RdM w x M.C := M.got h 64 (by decide) (.code 3 M.C) (by kernel_rfl) (hd 64 (by kernel_rfl))
      obtain ⟨xe1, ce1, e1, re1⟩ : ∃ x c, a.tmps.getD 202 undef = .slice x 2 c ∧ RdI w x [0, 1] := M.got h 66 (by decide) (.row [0, 1]) (by kernel_rfl) (hd 66 (by kernel_rfl))
      obtain ⟨xe2, ce2, e2, re2⟩ : ∃ x c, a.tmps.getD 204 undef = .slice x 3 c ∧ RdI w x [0, 1, 1] := M.got h 68 (by decide) (.row [0, 1, 1]) (by kernel_rfl) (hd 68 (by kernel_rfl))
      refine M.wp_call 18 #[M.cv 3 xe0 3 3, .slice xe1 2 ce1, .slice xe2 3 ce2] rfl (by rw [M.run_env [(200, M.cv 3 xe0 3 3), (202, .slice xe1 2 ce1), (204, .slice xe2 3 ce2)] ⟨e0, e1, e2, trivial⟩ rfl (by kernel_rfl)]; kernel_rfl) ?_
      exact (KMa.out xe0 xe1 xe2 ce1 ce2 w re0 re1 re2).mono fun e w' ⟨h1, h2⟩ => ⟨_, h1, M.kz_of (k := .val (.int .i64 0)) (by kernel_rfl) rfl, h2⟩
    · refine M.R.of rfl (by kernel_rfl) (.inr ⟨63, true, rfl, by decide, by kernel_rfl, by kernel_rfl⟩) (fun Q listed a w h hd => ?_)
      have e1 : a.tmps.getD 205 undef = .int .i64 0 := M.got h 69 (by decide) (.val (.int .i64 0)) (by kernel_rfl) (hd 69 (by kernel_rfl))
      exact M.wp_pure (.bool true) rfl (by rw [M.run_env [(205, .int .i64 0)] ⟨e1, trivial⟩ rfl (by kernel_rfl)]; kernel_rfl) (M.kz_of (k := .val (.bool true)) (by kernel_rfl) rfl)
    · refine M.R.of rfl (by kernel_rfl) (.inl rfl) (fun Q listed a w h hd => ?_)
      have e0 : a.tmps.getD 199 undef = .bool true := M.got h 63 (by decide) (.val (.bool true)) (by kernel_rfl) (hd 63 (by kernel_rfl))
      have e1 : a.tmps.getD 206 undef = .bool true := M.got h 70 (by decide) (.val (.bool true)) (by kernel_rfl) (hd 70 (by kernel_rfl))
      exact M.wp_pure (.bool true) rfl (by rw [M.run_env [(199, .bool true), (206, .bool true)] ⟨e0, e1, trivial⟩ rfl (by kernel_rfl)]; kernel_rfl) (M.kz_of (k := .val (.bool true)) (by kernel_rfl) rfl)
    · refine M.R.of rfl (by kernel_rfl) (.inl rfl) (fun Q listed a w h hd => ?_)
      exact M.wp_pure _ rfl rfl (M.kz_of (k := .val (.bool true)) (by kernel_rfl) (M.got h 71 (by decide) (.val (.bool true)) (by kernel_rfl) (hd 71 (by kernel_rfl))))
    · refine M.R.of rfl (by kernel_rfl) (.inr ⟨72, true, rfl, by decide, by kernel_rfl, by kernel_rfl⟩) (fun Q listed a w h hd => ?_)
      refine M.wp_call 43 #[] rfl (by rw [M.run_env [] trivial rfl (by kernel_rfl)]; kernel_rfl) ?_
      exact (C_any w).mono fun e w' ⟨x, h1, h2, h3⟩ => ⟨_, h1, M.kz_of (k := .code 3 M.C) (by kernel_rfl) ⟨x, rfl, h2⟩, h3⟩
    · refine M.R.of rfl (by kernel_rfl) (.inr ⟨72, true, rfl, by decide, by kernel_rfl, by kernel_rfl⟩) (fun Q listed a w h hd => ?_)
      refine M.wp_new (.slice (some ⟨w.heap.size, 0, none⟩) 2 2) (M.rwo [0, 1]) rfl (by rw [M.run_env [] trivial rfl (by kernel_rfl)]; kernel_rfl) (M.kz_of (k := .row [0, 1]) rfl ?_)
      exact ⟨_, _, rfl, M.alls_row w [M.rwo [0, 1]] 0 [0, 1] _ rfl⟩
    · refine M.R.of rfl (by kernel_rfl) (.inr ⟨72, true, rfl, by decide, by kernel_rfl, by kernel_rfl⟩) (fun Q listed a w h hd => ?_)
      obtain ⟨xe0, ce0, e0, re0⟩ : ∃ x c, a.tmps.getD 210 undef = .slice x 2 c ∧ RdI w x [0, 1] := M.got h 74 (by decide) (.row [0, 1]) (by kernel_rfl) (hd 74 (by kernel_rfl))
      refine M.wp_call 42 #[.slice xe0 2 ce0] rfl (by rw [M.run_env [(210, .slice xe0 2 ce0)] ⟨e0, trivial⟩ rfl (by kernel_rfl)]; kernel_rfl) ?_
      exact (list_any xe0 2 ce0 w).mono fun e w' ⟨h1, h2⟩ => ⟨_, h1, M.kz_of (k := .row [0, 1]) (by kernel_rfl) ⟨_, _, rfl, h2 ▸ re0⟩, h2 ▸ Below.refl _ _⟩
    · refine M.R.of rfl (by kernel_rfl) (.inr ⟨72, true, rfl, by decide, by kernel_rfl, by kernel_rfl⟩) (fun Q listed a w h hd => ?_)
      refine M.wp_new (.slice (some ⟨w.heap.size, 0, none⟩) 3 3) (M.rwo [0, 1, 2]) rfl (by rw [M.run_env [] trivial rfl (by kernel_rfl)]; kernel_rfl) (M.kz_of (k := .row [0, 1, 2]) rfl ?_)
      exact ⟨_, _, rfl, M.alls_row w [M.rwo [0, 1, 2]] 0 [0, 1, 2] _ rfl⟩
    · refine M.R.of rfl (by kernel_rfl) (.inr ⟨72, true, rfl, by decide, by kernel_rfl, by kernel_rfl⟩) (fun Q listed a w h hd => ?_)
      obtain ⟨xe0, ce0, e0, re0⟩ : ∃ x c, a.tmps.getD 212 undef = .slice x 3 c ∧ RdI w x [0, 1, 2] := M.got h 76 (by decide) (.row [0, 1, 2]) (by kernel_rfl) (hd 76 (by kernel_rfl))
      refine M.wp_call 42 #[.slice xe0 3 ce0] rfl (by rw [M.run_env [(212, .slice xe0 3 ce0)] ⟨e0, trivial⟩ rfl (by kernel_rfl)]; kernel_rfl) ?_
      exact (list_any xe0 3 ce0 w).mono fun e w' ⟨h1, h2⟩ => ⟨_, h1, M.kz_of (k := .row [0, 1, 2]) (by kernel_rfl) ⟨_, _, rfl, h2 ▸ re0⟩, h2 ▸ Below.refl _ _⟩
    · refine M.R.of rfl (by kernel_rfl) (.inr ⟨72, true, rfl, by decide, by kernel_rfl, by kernel_rfl⟩) (fun Q listed a w h hd => ?_)
      obtain ⟨xe0, e0, re0⟩ : ∃ x, a.tmps.getD 209 undef = M.cv 3 x 3 3 ∧ RdM w x M.C := M.got h 73 (by decide) (.code 3 M.C) (by kernel_rfl) (hd 73 (by kernel_rfl))
      obtain ⟨xe1, ce1, e1, re1⟩ : ∃ x c, a.tmps.getD 211 undef = .slice x 2 c ∧ RdI w x [0, 1] := M.got h 75 (by decide) (.row [0, 1]) (by kernel_rfl) (hd 75 (by kernel_rfl))
      obtain ⟨xe2, ce2, e2, re2⟩ : ∃ x c, a.tmps.getD 213 undef = .slice x 3 c ∧ RdI w x [0, 1, 2] := M.got h 77 (by decide) (.row [0, 1, 2]) (by kernel_rfl) (hd 77 (by kernel_rfl))
      refine M.wp_call 18 #[M.cv 3 xe0 3 3, .slice xe1 2 ce1, .slice xe2 3 ce2] rfl (by rw [M.run_env [(209, M.cv 3 xe0 3 3), (211, .slice xe1 2 ce1), (213, .slice xe2 3 ce2)] ⟨e0, e1, e2, trivial⟩ rfl (by kernel_rfl)]; kernel_rfl) ?_
      exact (KMb.out xe0 xe1 xe2 ce1 ce2 w re0 re1 re2).mono fun e w' ⟨h1, h2⟩ => ⟨_, h1, M.kz_of (k := .val (.int .i64 13)) (by kernel_rfl) rfl, h2⟩
    · refine M.R.of rfl (by kernel_rfl) (.inr ⟨72, true, rfl, by decide, by kernel_rfl, by kernel_rfl⟩) (fun Q listed a w h hd => ?_)
      have e1 : a.tmps.getD 214 undef = .int .i64 13 := M.got h 78 (by decide) (.val (.int .i64 13)) (by kernel_rfl) (hd 78 (by kernel_rfl))
      exact M.wp_pure (.bool true) rfl (by rw [M.run_env [(214, .int .i64 13)] ⟨e1, trivial⟩ rfl (by kernel_rfl)]; kernel_rfl) (M.kz_of (k := .val (.bool true)) (by kernel_rfl) rfl)
    · refine M.R.of rfl (by kernel_rfl) (.inl rfl) (fun Q listed a w h hd => ?_)
      have e0 : a.tmps.getD 208 undef = .bool true := M.got h 72 (by decide) (.val (.bool true)) (by kernel_rfl) (hd 72 (by kernel_rfl))
      have e1 : a.tmps.getD 215 undef = .bool true := M.got h 79 (by decide) (.val (.bool true)) (by kernel_rfl) (hd 79 (by kernel_rfl))
      exact M.wp_pure (.bool true) rfl (by rw [M.run_env [(208, .bool true), (215, .bool true)] ⟨e0, e1, trivial⟩ rfl (by kernel_rfl)]; kernel_rfl) (M.kz_of (k := .val (.bool true)) (by kernel_rfl) rfl)
    · refine M.R.of rfl (by kernel_rfl) (.inl rfl) (fun Q listed a w h hd => ?_)
      exact M.wp_pure _ rfl rfl (M.kz_of (k := .val (.bool true)) (by kernel_rfl) (M.got h 80 (by decide) (.val (.bool true)) (by kernel_rfl) (hd 80 (by kernel_rfl))))
  case refine_2 =>
    intro a w' hd hb hbs hk
    have e0 : a.tmps.getD 0 undef = .bool true := hk 81 (by decide)
    have HBE := hid (HB.out.trans (hb.mono HB.out.size))
    obtain ⟨tmps, defers⟩ := a
    go_wp2
    go_ret
    exact ⟨congrArg Ending.returned e0, HBE.out⟩
end Go.Proofs.YthnklabdjaiplaaDoor
