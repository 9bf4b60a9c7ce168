/- The walk of RepeatKnown. -/
import Derived.Test.YtiodcgdjphmffaaBWorks
namespace Go.Proofs.Ytiodcgdjphmffaa
open Go.RowKit

set_option maxHeartbeats 4000000 in
set_option maxRecDepth 100000 in
theorem repeatKnown_any (w : World) (hm : MaxL w) :
    Calls Try.prog 14 #[] w fun e w' => e = .returned (.bool true) ∧ Below w.heap.size w w' := by
  have HM := hid hm
  have K1 := hid (fun w => wide_any 3 5 7 w)
  rw [show B.wideV 3 5 7 = (⟨#[97, 97, 97, 97, 97, 97, 97]⟩, 0) by kernel_rfl] at K1
  have K2 := hid (fun w => wide_any 4 6 8 w)
  rw [show B.wideV 4 6 8 = (⟨#[97, 98, 97, 98, 97, 98, 97, 98]⟩, 0) by kernel_rfl] at K2
  have K3 := hid (fun w => coversL_any ⟨#[97, 98, 97, 97, 98, 97, 98, 97, 97, 98, 97]⟩ w (by decide))
  rw [show B.coversV ⟨#[97, 98, 97, 97, 98, 97, 98, 97, 97, 98, 97]⟩ = ([3, 6, 11], 0) by kernel_rfl] at K3
  have K4 := hid (fun w => root_any ⟨#[97, 98, 97]⟩ w (by decide))
  rw [show B.rootV ⟨#[97, 98, 97]⟩ = (⟨#[97, 98, 97]⟩, 1, 0) by kernel_rfl] at K4
  have K5 := hid (fun w => rings_any 4 2 w)
  rw [show B.ringsV 4 2 = (6, 0) by kernel_rfl] at K5
  have K6 := hid (fun a w hm hr => join_any a 1 [⟨#[97, 98, 99, 100, 101, 102, 103, 104, 105]⟩] w (by decide) (by decide) (by
    intro k h
    match k, h with
    | 0, _ => show 9 ≤ maxLen; decide) hm hr)
  rw [show B.joinV [⟨#[97, 98, 99, 100, 101, 102, 103, 104, 105]⟩] = (⟨#[]⟩, 19) by kernel_rfl] at K6
  have K7 := hid (fun w => wide_any 3 0 5 w)
  rw [show B.wideV 3 0 5 = (⟨#[]⟩, 3) by kernel_rfl] at K7
  have KW := hid (fun w (h : MaxL w) => works_any w h)
  go_enter Try.func14, Try.ntmps14
  go_wp2_with fail
  refine (K1.out _).mono ?_
  rintro e w1 ⟨rfl, b1⟩
  have HB1 := hid b1
  clear b1
  go_wp2_with fail
  refine (K2.out _).mono ?_
  rintro e w2 ⟨rfl, b2⟩
  have HB2 := hid (HB1.out.trans (b2.mono HB1.out.size))
  clear b2
  go_wp2_with fail
  refine (K3.out _).mono ?_
  rintro e w3 ⟨a3, c3, rfl, r3, b3⟩
  have HR3 := hid r3
  have HB3 := hid (HB2.out.trans (b3.mono HB2.out.size))
  clear r3 b3
  go_wp2_with fail
  refine (K4.out _).mono ?_
  rintro e w4 ⟨rfl, b4⟩
  have H34 := hid b4
  clear b4
  go_wp2_with fail
  refine (K5.out _).mono ?_
  rintro e w5 ⟨rfl, b5⟩
  have H35 := hid (H34.out.trans (b5.mono H34.out.size))
  have HB5 := hid (HB3.out.trans (H35.out.mono HB3.out.size))
  clear b5
  go_wp2_with fail
  have ha5 : Below w5.heap.size w5 (w5.alloc (.cells #[.string ⟨#[97, 98, 99, 100, 101, 102, 103, 104, 105]⟩] 9)) := (Below.refl _ _).alloc (Nat.le_refl _) _
  refine (K6.out (some ⟨w5.heap.size, 0, none⟩) _ ((HM.out.stays HB5.out).stays ha5) (fun k h => ⟨w5.heap.size, 0, rfl, by
    match k, h with
    | 0, _ => rw [World.cell?_alloc_at _ _ _ _ rfl]; rfl⟩)).mono ?_
  rintro e w6 ⟨rfl, b6⟩
  have A6 := hid (ha5.trans (b6.mono ha5.size))
  have H36 := hid (H35.out.trans (A6.out.mono H35.out.size))
  clear b6 ha5
  go_wp2_with fail
  refine (K7.out _).mono ?_
  rintro e w7 ⟨rfl, b7⟩
  have H37 := hid (H36.out.trans (b7.mono H36.out.size))
  clear b7
  go_wp2_with fail
  refine (list_any _ _ _ _).mono ?_
  rintro e wx ⟨rfl, hwx⟩
  subst hwx
  have aa : Below w7.heap.size w7 (w7.alloc (.cells #[.int .i64 3, .int .i64 6, .int .i64 11] 3)) := (Below.refl _ _).alloc (Nat.le_refl _) _
  have H3a := hid (H37.out.trans (aa.mono H37.out.size))
  have KN := hid (numbers_any a3 (some ⟨w7.heap.size, 0, none⟩) c3 3 [3, 6, 11] [3, 6, 11] (w7.alloc (.cells #[.int .i64 3, .int .i64 6, .int .i64 11] 3)) (by decide) (by decide) (HR3.out.stays H3a.out) (fun k h => ⟨w7.heap.size, 0, rfl, by
    match k, h with
    | 0, _ => rw [World.cell?_alloc_at _ _ _ _ rfl]; rfl
    | 1, _ => rw [World.cell?_alloc_at _ _ _ _ rfl]; rfl
    | 2, _ => rw [World.cell?_alloc_at _ _ _ _ rfl]; rfl⟩))
  rw [show decide (([3, 6, 11] : List Int) = [3, 6, 11]) = true by decide] at KN
  go_wp2_with fail
  refine KN.out.mono ?_
  rintro e w8 ⟨rfl, b8⟩
  have H38 := hid (H3a.out.trans (b8.mono H3a.out.size))
  have HB8 := hid (HB3.out.trans (H38.out.mono HB3.out.size))
  clear b8 aa KN H3a
  go_wp2_with fail
  refine (KW.out _ (HM.out.stays HB8.out)).mono ?_
  rintro e w9 ⟨rfl, b9⟩
  have HB9 := hid (HB8.out.trans (b9.mono HB8.out.size))
  clear b9
  go_wp2
  go_ret
  exact ⟨rfl, HB9.out⟩
end Go.Proofs.Ytiodcgdjphmffaa
