/- The walk of RepeatRings. -/
import Derived.Test.YtiodcgdjphmffaaBWorks
import Derived.Test.YtiodcgdjphmffaaBRef2
namespace Go.Proofs.Ytiodcgdjphmffaa
open Go.RowKit

set_option maxHeartbeats 4000000 in
set_option maxRecDepth 100000 in
theorem repeatRings_any (x y : ByteArray) (n k : Int) (w : World) (hm : MaxL w) (hx : x.size ≤ maxLen) (hy : y.size ≤ maxLen) :
    Calls Try.prog 5 #[.string x, .string y, .int .i64 n, .int .i64 k] w fun e w' => e = .returned (.bool true) ∧ Below w.heap.size w w' := by
  have HM := hid hm
  have HX := hid hx
  have HY := hid hy
  have KW := hid (fun w (h : MaxL w) => works_any w h)
  by_cases h1 : x.size ≤ 100
  · by_cases h2 : y.size ≤ 100
    · have K1 := hid (fun w => first_any x w hx)
      have K2 := hid (fun w => refFirst_any x w hx)
      have K3 := hid (fun w => same_any x y w hx hy)
      have K4 := hid (fun w => refSame_any x y w hx hy)
      have K5 := hid (fun w => rings_any n k w)
      have K6 := hid (fun w => refRings_any n k w)
      generalize (B.firstV x).1 = f1 at *
      generalize (B.firstV x).2 = f2 at *
      generalize (B.sameV x y).1 = s1 at *
      generalize (B.sameV x y).2 = s2 at *
      generalize (B.ringsV n k).1 = r1 at *
      generalize (B.ringsV n k).2 = r2 at *
      have e1 : (f1.toList == f1.toList) = true := by simp
      clear hx hy hm
      go_enter Try.func5, Try.ntmps5
      go_wp2_with fail
      refine (K1.out _).mono ?_
      rintro e w1 ⟨rfl, b1⟩
      have HB1 := hid b1
      clear b1
      go_wp2_with fail
      refine (K2.out _).mono ?_
      rintro e w2 ⟨rfl, b2⟩
      have HB2 := hid (HB1.out.trans (b2.mono HB1.out.size))
      clear b2
      go_wp2_with fail
      refine (K3.out _).mono ?_
      rintro e w3 ⟨rfl, b3⟩
      have HB3 := hid (HB2.out.trans (b3.mono HB2.out.size))
      clear b3
      go_wp2_with fail
      refine (K4.out _).mono ?_
      rintro e w4 ⟨rfl, b4⟩
      have HB4 := hid (HB3.out.trans (b4.mono HB3.out.size))
      clear b4
      go_wp2_with fail
      refine (K5.out _).mono ?_
      rintro e w5 ⟨rfl, b5⟩
      have HB5 := hid (HB4.out.trans (b5.mono HB4.out.size))
      clear b5
      go_wp2_with fail
      refine (K6.out _).mono ?_
      rintro e w6 ⟨rfl, b6⟩
      have HB6 := hid (HB5.out.trans (b6.mono HB5.out.size))
      clear b6
      go_wp2_with fail
      refine (KW.out _ (HM.out.stays HB6.out)).mono ?_
      rintro e w7 ⟨rfl, b7⟩
      have HB7 := hid (HB6.out.trans (b7.mono HB6.out.size))
      clear b7
      go_wp2
      go_ret
      exact ⟨rfl, HB7.out⟩
    · have h2' : (100 : Int) < (y.size : Int) := by omega
      have h1' : ¬ (100 : Int) < (x.size : Int) := by omega
      clear h1 h2 hx hy hm
      go_enter Try.func5, Try.ntmps5
      go_wp2_with fail
      refine (KW.out _ HM.out).mono ?_
      rintro e w7 ⟨rfl, b7⟩
      have HB7 := hid b7
      clear b7
      go_wp2
      go_ret
      exact ⟨rfl, HB7.out⟩
  · have h1' : (100 : Int) < (x.size : Int) := by omega
    clear h1 hx hy hm
    go_enter Try.func5, Try.ntmps5
    go_wp2_with fail
    refine (KW.out _ HM.out).mono ?_
    rintro e w7 ⟨rfl, b7⟩
    have HB7 := hid b7
    clear b7
    go_wp2
    go_ret
    exact ⟨rfl, HB7.out⟩
end Go.Proofs.Ytiodcgdjphmffaa
