/- The walk of RepeatPeriods. -/
import Derived.Test.YtiodcgdjphmffaaBWorks
import Derived.Test.YtiodcgdjphmffaaBRef4
namespace Go.Proofs.Ytiodcgdjphmffaa
open Go.RowKit

set_option maxHeartbeats 4000000 in
set_option maxRecDepth 100000 in
theorem repeatPeriods_any (s : ByteArray) (w : World) (hm : MaxL w) (hs : s.size ≤ maxLen) :
    Calls Try.prog 3 #[.string s] w fun e w' => e = .returned (.bool true) ∧ Below w.heap.size w w' := by
  have HM := hid hm
  have KW := hid (fun w (h : MaxL w) => works_any w h)
  by_cases h1 : s.size ≤ 100
  · have K1 := hid (fun w => periods_any s w hs)
    have K2 := hid (fun w => refPeriods_any s w hs)
    have K3 := hid (fun w => root_any s w hs)
    have K4 := hid (fun w => refRoot_any s w hs)
    have K5 := hid (fun w => coversL_any s w hs)
    have K6 := hid (fun w => refCovers_any s w hs)
    have K7 := hid (fun w => check_any s w hs)
    have K8 := hid (fun w => refCheck_any s w hs)
    have HL1 : Hid ((B.periodsV s).1.length ≤ 1000) := hid (by
      unfold B.periodsV
      split
      · have := B.sel_len (B.per s.data.toList) s.size; show (B.sel (B.per s.data.toList) s.size).length ≤ 1000; omega
      · exact Nat.zero_le _)
    have HL2 : Hid ((B.coversV s).1.length ≤ 1000) := hid (by
      unfold B.coversV
      split
      · have := B.sel_len (B.cov s.data.toList) s.size; show (B.sel (B.cov s.data.toList) s.size).length ≤ 1000; omega
      · exact Nat.zero_le _)
    generalize (B.periodsV s).1 = p1 at *
    generalize (B.periodsV s).2 = p2 at *
    generalize (B.rootV s).1 = r1 at *
    generalize (B.rootV s).2.1 = r2 at *
    generalize (B.rootV s).2.2 = r3 at *
    generalize (B.coversV s).1 = c1 at *
    generalize (B.coversV s).2 = c2 at *
    generalize B.chk s = ck at *
    have e1 : (r1.toList == r1.toList) = true := by simp
    clear hs hm
    go_enter Try.func3, Try.ntmps3
    go_wp2_with fail
    refine (K1.out _).mono ?_
    rintro e w1 ⟨a1, k1, rfl, rd1, b1⟩
    have HR1 := hid rd1
    have HB1 := hid b1
    clear b1 rd1
    go_wp2_with fail
    refine (K2.out _).mono ?_
    rintro e w2 ⟨a2, k2, rfl, rd2, b2⟩
    have HR2 := hid rd2
    have HB2 := hid (HB1.out.trans (b2.mono HB1.out.size))
    have H12 := hid b2
    clear b2 rd2
    go_wp2_with fail
    refine (K3.out _).mono ?_
    rintro e w3 ⟨rfl, b3⟩
    have HB3 := hid (HB2.out.trans (b3.mono HB2.out.size))
    have H23 := hid b3
    clear b3
    go_wp2_with fail
    refine (K4.out _).mono ?_
    rintro e w4 ⟨rfl, b4⟩
    have HB4 := hid (HB3.out.trans (b4.mono HB3.out.size))
    have H24 := hid (H23.out.trans (b4.mono H23.out.size))
    clear b4
    go_wp2_with fail
    refine (K5.out _).mono ?_
    rintro e w5 ⟨a5, k5, rfl, rd5, b5⟩
    have HR5 := hid rd5
    have HB5 := hid (HB4.out.trans (b5.mono HB4.out.size))
    have H25 := hid (H24.out.trans (b5.mono H24.out.size))
    clear b5 rd5
    go_wp2_with fail
    refine (K6.out _).mono ?_
    rintro e w6 ⟨a6, k6, rfl, rd6, b6⟩
    have HR6 := hid rd6
    have HB6 := hid (HB5.out.trans (b6.mono HB5.out.size))
    have H56 := hid b6
    have H26 := hid (H25.out.trans (b6.mono H25.out.size))
    have H16 := hid (H12.out.trans (H26.out.mono H12.out.size))
    clear b6 rd6
    have KN1 := hid (numbers_any a1 a2 k1 k2 p1 p1 w6 HL1.out HL1.out (HR1.out.stays H16.out) (HR2.out.stays H26.out))
    rw [show decide (p1 = p1) = true by simp] at KN1
    go_wp2_with fail
    refine KN1.out.mono ?_
    rintro e w7 ⟨rfl, b7⟩
    have HB7 := hid (HB6.out.trans (b7.mono HB6.out.size))
    have H57 := hid (H56.out.trans (b7.mono H56.out.size))
    have H67 := hid b7
    clear b7 KN1
    have KN2 := hid (numbers_any a5 a6 k5 k6 c1 c1 w7 HL2.out HL2.out (HR5.out.stays H57.out) (HR6.out.stays H67.out))
    rw [show decide (c1 = c1) = true by simp] at KN2
    go_wp2_with fail
    refine KN2.out.mono ?_
    rintro e w8 ⟨rfl, b8⟩
    have HB8 := hid (HB7.out.trans (b8.mono HB7.out.size))
    clear b8 KN2
    go_wp2_with fail
    refine (K7.out _).mono ?_
    rintro e w9 ⟨rfl, b9⟩
    have HB9 := hid (HB8.out.trans (b9.mono HB8.out.size))
    clear b9
    go_wp2_with fail
    refine (K8.out _).mono ?_
    rintro e w10 ⟨rfl, rfl⟩
    go_wp2_with fail
    refine (KW.out _ (HM.out.stays HB9.out)).mono ?_
    rintro e w11 ⟨rfl, b11⟩
    have HB11 := hid (HB9.out.trans (b11.mono HB9.out.size))
    clear b11
    go_wp2
    go_ret
    exact ⟨rfl, HB11.out⟩
  · have h1' : (100 : Int) < (s.size : Int) := by omega
    clear h1 hs hm
    go_enter Try.func3, Try.ntmps3
    go_wp2_with fail
    refine (KW.out _ HM.out).mono ?_
    rintro e w7 ⟨rfl, b7⟩
    have HB7 := hid b7
    clear b7
    go_wp2
    go_ret
    exact ⟨rfl, HB7.out⟩
end Go.Proofs.Ytiodcgdjphmffaa
