/- Package tuscheref07: the walk of Bound. -/
import Derived.Test.YthlcnklbeolhpaaHRef3
import Derived.Test.YthlcnklbeolhpaaHBnd
namespace Go.Proofs.Ythlcnklbeolhpaa
open Go.RowKit

theorem H.isb_inn (y : Int) (n : Nat) : H.isb y 0 ((n : Int) - 1) = H.inn y n := by
  unfold H.isb H.inn
  rw [decide_eq_decide]
  omega
theorem H.bnd_row {T : List (List Int)} {s : Int} {i : Nat} (h : i < (H.rows T).length) : H.bnd T s 0 i = (H.rows T)[i] := by
  have h' : i < T.length := by unfold H.rows at h; simpa using h
  unfold H.bnd
  rw [if_pos rfl, H.getD_row h']
  simp [H.rows]
theorem H.bnd_col {T : List (List Int)} {s : Int} {i : Nat} (h : i < (H.cols T).length) : H.bnd T s 1 i = (H.cols T)[i] := by
  unfold H.bnd
  rw [if_neg (by decide), if_pos rfl]
  simp [H.cols]

set_option maxHeartbeats 2000000 in
set_option maxRecDepth 100000 in
theorem refBound_any (a : Option Addr) (c : Nat) (T : List (List Int)) (s x y : Int) (w : World) (hm : T.length ≤ maxLen) (hl : ∀ i (h : i < T.length), T[i].length ≤ maxLen) (hx : RdM w a T) :
    Calls Try.prog 24 #[.slice a T.length c, .int .i64 s, .agg #[.int .i64 x, .int .i64 y]] w fun e w' => e = .returned (.tuple #[.int .i64 (H.bdE T s x y), .int .i64 (H.bdX T s x y)]) ∧ Below w.heap.size w w' := by
  have hb0 : Below w.heap.size w (w.alloc (.cells #[.int .i64 x, .int .i64 y] 35)) := (Below.refl _ _).alloc (Nat.le_refl _) _
  have k0 : (w.alloc (.cells #[.int .i64 x, .int .i64 y] 35)).cell? ⟨w.heap.size, 0, none⟩ = some (.int .i64 x) := by rw [World.cell?_alloc_at _ _ _ _ rfl]; rfl
  have k1 : (w.alloc (.cells #[.int .i64 x, .int .i64 y] 35)).cell? ⟨w.heap.size, 1, none⟩ = some (.int .i64 y) := by rw [World.cell?_alloc_at _ _ _ _ rfl]; rfl
  have HB0 := hid hb0
  have hx0 := hx.stays hb0
  generalize hw0 : w.alloc (.cells #[.int .i64 x, .int .i64 y] 35) = w0 at *
  have HW0 := hid hw0
  clear hw0
  have HC := hid (checked_any a c T s w0 hm hl hx0)
  by_cases h : H.chks T s = 0
  case neg =>
    have hne : (H.chks T s != 0) = true := by simpa using h
    have HE : Hid (H.bdE T s x y = 0 ∧ H.bdX T s x y = H.chks T s) := hid ⟨by unfold H.bdE; rw [if_neg (fun e => h e.1)], by unfold H.bdX; rw [if_neg h]⟩
    rw [HE.out.1, HE.out.2]
    clear HE
    generalize H.chks T s = ec at *
    clear h hx hx0 hb0 k0 k1
    go_enter Try.func24, Try.ntmps24
    go_wp2_with fail
    rw [HW0.out]
    refine HC.out.mono ?_
    rintro e w' ⟨rfl, q, rfl⟩
    go_wp2
    go_ret2
    exact ⟨rfl, below_drewN HB0.out _⟩
  case pos =>
  obtain ⟨hok, hs, hs6⟩ := H.chks_ok h
  have h6 := hok.m6
  have h1 := hok.m1
  have n6 := hok.n6
  have HCL := hid (fun W (h : Below w0.heap.size w0 W) => show W.cell? ⟨w.heap.size, 0, none⟩ = some (.int .i64 x) ∧ W.cell? ⟨w.heap.size, 1, none⟩ = some (.int .i64 y) from ⟨cell_stays h (Nat.le_refl _) k0, cell_stays h (Nat.le_refl _) k1⟩)
  have HS := hid (fun q => refsums_any a c T (w0.drewN q) hok (hx0.drewN q))
  have HL1 : Hid ((H.rows T).length = T.length) := hid (by unfold H.rows; simp)
  have HL2 : Hid ((H.cols T).length = H.wid T) := hid (by unfold H.cols; simp)
  have HIS := hid is_any
  have HE : Hid (H.bdE T s x y = (if H.isR T x y = true then H.bnd T s x.toNat y.toNat else 0) ∧ H.bdX T s x y = if H.isR T x y = true then 0 else 5) := hid ⟨by unfold H.bdE; simp [h], by unfold H.bdX; rw [if_pos h]⟩
  have hT := hok.tot_bd
  have hcb := H.ceil_bd hT.1 hs
  have HQ : Hid (H.bnd T s 2 0 = H.ceil (H.tot T) s) := hid rfl
  have HRW := hid (fun i h => H.bnd_row (T := T) (s := s) (i := i) h)
  have HCW := hid (fun i h => H.bnd_col (T := T) (s := s) (i := i) h)
  rw [HE.out.1, HE.out.2]
  rw [h] at HC
  unfold H.Sm3 at HS
  clear HE h hx hx0 hb0 k0 k1 hok
  by_cases hx3 : x = 0 ∨ x = 1 ∨ x = 2
  case neg =>
    have HI : Hid (H.isR T x y = false) := hid (by unfold H.isR; rw [if_neg (by omega), if_neg (by omega), if_neg (by omega)])
    rw [HI.out]
    simp only [Bool.false_eq_true, if_false]
    have x0 : (x == 0) = false := by simp; omega
    have x1 : (x == 1) = false := by simp; omega
    have x2 : (x == 2) = false := by simp; omega
    clear hx3 HI
    go_enter Try.func24, Try.ntmps24
    go_wp2_with fail
    rw [HW0.out]
    refine HC.out.mono ?_
    rintro e w' ⟨rfl, q, rfl⟩
    go_wp2_with fail
    refine (HS.out q).mono ?_
    rintro e w1 ⟨a1, c1, a2, c2, rfl, r1, r2, hb⟩
    have HB := hid (below_of_drewN hb)
    obtain ⟨p0, p1⟩ := HCL.out _ HB.out
    have HBE := hid (HB0.out.trans (HB.out.mono HB0.out.size))
    clear hb
    go_wp2
    go_ret2
    exact ⟨rfl, HBE.out⟩
  case pos =>
  rcases hx3 with rfl | rfl | rfl
  · have HI : Hid (H.isR T 0 y = H.inn y T.length) := hid rfl
    rw [HI.out]
    clear HI
    have hib := H.isb_inn y T.length
    have hw1 : IntKind.i64.wrap (((T.length : Nat) : Int) - 1) = ((T.length : Nat) : Int) - 1 := IntWalk.i64_in _ (by omega)
    cases hin : H.inn y T.length with
    | false =>
      rw [hin] at hib
      simp only [Bool.false_eq_true, if_false]
      clear hin
      rw [← HL1.out] at hib hw1
      generalize H.rows T = L at *
      go_enter Try.func24, Try.ntmps24
      go_wp2_with fail
      rw [HW0.out]
      refine HC.out.mono ?_
      rintro e w' ⟨rfl, q, rfl⟩
      go_wp2_with fail
      refine (HS.out q).mono ?_
      rintro e w1 ⟨a1, c1, a2, c2, rfl, r1, r2, hb⟩
      have HB := hid (below_of_drewN hb)
      obtain ⟨p0, p1⟩ := HCL.out _ HB.out
      have HBE := hid (HB0.out.trans (HB.out.mono HB0.out.size))
      clear hb
      go_wp2_with fail
      refine (HIS.out _ _ _ _).mono ?_
      rintro e w2 ⟨rfl, rfl⟩
      go_wp2
      go_ret2
      exact ⟨rfl, HBE.out⟩
    | true =>
      rw [hin] at hib
      simp only [if_true]
      obtain ⟨i, rfl, hi⟩ : ∃ i : Nat, y = (i : Int) ∧ i < T.length := by
        unfold H.inn at hin
        have := of_decide_eq_true hin
        exact ⟨y.toNat, by omega, by omega⟩
      have HV := hid (HRW.out i (by rw [HL1.out]; exact hi))
      have hiL : i < (H.rows T).length := by rw [HL1.out]; exact hi
      clear hin
      rw [← HL1.out] at hib hw1
      simp only [Int.toNat_natCast, Int.toNat_zero]
      rw [HV.out]
      generalize H.rows T = L at *
      have hix : (0 : Int) ≤ (i : Int) ∧ (i : Int) < (L.length : Int) := by omega
      obtain ⟨v, hv⟩ : ∃ v, L[i] = v := ⟨_, rfl⟩
      rw [hv]
      have HVV := hid hv
      clear hv
      go_enter Try.func24, Try.ntmps24
      go_wp2_with fail
      rw [HW0.out]
      refine HC.out.mono ?_
      rintro e w' ⟨rfl, q, rfl⟩
      go_wp2_with fail
      refine (HS.out q).mono ?_
      rintro e w1 ⟨a1, c1, a2, c2, rfl, r1, r2, hb⟩
      have HB := hid (below_of_drewN hb)
      obtain ⟨p0, p1⟩ := HCL.out _ HB.out
      have HBE := hid (HB0.out.trans (HB.out.mono HB0.out.size))
      clear hb
      obtain ⟨bb, oo, rfl, cc⟩ := r1 i hiL
      rw [HVV.out] at cc
      go_wp2_with fail
      refine (HIS.out _ _ _ _).mono ?_
      rintro e w2 ⟨rfl, rfl⟩
      go_wp2
      go_ret2
      exact ⟨rfl, HBE.out⟩
  · have HI : Hid (H.isR T 1 y = H.inn y (H.wid T)) := hid rfl
    rw [HI.out]
    clear HI
    have hib := H.isb_inn y (H.wid T)
    have hw1 : IntKind.i64.wrap ((((H.wid T) : Nat) : Int) - 1) = (((H.wid T) : Nat) : Int) - 1 := IntWalk.i64_in _ (by omega)
    cases hin : H.inn y (H.wid T) with
    | false =>
      rw [hin] at hib
      simp only [Bool.false_eq_true, if_false]
      clear hin
      rw [← HL2.out] at hib hw1
      generalize H.cols T = L at *
      go_enter Try.func24, Try.ntmps24
      go_wp2_with fail
      rw [HW0.out]
      refine HC.out.mono ?_
      rintro e w' ⟨rfl, q, rfl⟩
      go_wp2_with fail
      refine (HS.out q).mono ?_
      rintro e w1 ⟨a1, c1, a2, c2, rfl, r1, r2, hb⟩
      have HB := hid (below_of_drewN hb)
      obtain ⟨p0, p1⟩ := HCL.out _ HB.out
      have HBE := hid (HB0.out.trans (HB.out.mono HB0.out.size))
      clear hb
      go_wp2_with fail
      refine (HIS.out _ _ _ _).mono ?_
      rintro e w2 ⟨rfl, rfl⟩
      go_wp2
      go_ret2
      exact ⟨rfl, HBE.out⟩
    | true =>
      rw [hin] at hib
      simp only [if_true]
      obtain ⟨i, rfl, hi⟩ : ∃ i : Nat, y = (i : Int) ∧ i < (H.wid T) := by
        unfold H.inn at hin
        have := of_decide_eq_true hin
        exact ⟨y.toNat, by omega, by omega⟩
      have HV := hid (HCW.out i (by rw [HL2.out]; exact hi))
      have hiL : i < (H.cols T).length := by rw [HL2.out]; exact hi
      clear hin
      rw [← HL2.out] at hib hw1
      simp only [Int.toNat_natCast, Int.toNat_one]
      rw [HV.out]
      generalize H.cols T = L at *
      have hix : (0 : Int) ≤ (i : Int) ∧ (i : Int) < (L.length : Int) := by omega
      obtain ⟨v, hv⟩ : ∃ v, L[i] = v := ⟨_, rfl⟩
      rw [hv]
      have HVV := hid hv
      clear hv
      go_enter Try.func24, Try.ntmps24
      go_wp2_with fail
      rw [HW0.out]
      refine HC.out.mono ?_
      rintro e w' ⟨rfl, q, rfl⟩
      go_wp2_with fail
      refine (HS.out q).mono ?_
      rintro e w1 ⟨a1, c1, a2, c2, rfl, r1, r2, hb⟩
      have HB := hid (below_of_drewN hb)
      obtain ⟨p0, p1⟩ := HCL.out _ HB.out
      have HBE := hid (HB0.out.trans (HB.out.mono HB0.out.size))
      clear hb
      obtain ⟨bb, oo, rfl, cc⟩ := r2 i hiL
      rw [HVV.out] at cc
      go_wp2_with fail
      refine (HIS.out _ _ _ _).mono ?_
      rintro e w2 ⟨rfl, rfl⟩
      go_wp2
      go_ret2
      exact ⟨rfl, HBE.out⟩
  · have HI : Hid (H.isR T 2 y = H.inn y 1) := hid rfl
    rw [HI.out]
    clear HI
    have hw1 : IntKind.i64.wrap (H.tot T + s) = H.tot T + s := IntWalk.i64_in _ (by omega)
    have hw2 : IntKind.i64.wrap (H.tot T + s - 1) = H.tot T + s - 1 := IntWalk.i64_in _ (by omega)
    have hw3 : IntKind.i64.wrap (H.ceil (H.tot T) s) = H.ceil (H.tot T) s := IntWalk.i64_in _ (by omega)
    have hq1 : (H.tot T + s - 1).tdiv s = H.ceil (H.tot T) s := Int.tdiv_eq_ediv_of_nonneg (by omega)
    have hq2 : (H.tot T + s - 1) / s = H.ceil (H.tot T) s := rfl
    have hs0 : ¬ s = 0 := by omega
    by_cases hy : y = 0
    · subst hy
      have HI2 : Hid (H.inn 0 1 = true) := hid rfl
      rw [HI2.out]
      simp only [if_true, show (2 : Int).toNat = 2 from rfl, Int.toNat_zero]
      rw [HQ.out]
      generalize H.ceil (H.tot T) s = q3 at *
      generalize H.tot T = t at *
      go_enter Try.func24, Try.ntmps24
      go_wp2_with fail
      rw [HW0.out]
      refine HC.out.mono ?_
      rintro e w' ⟨rfl, q, rfl⟩
      go_wp2_with fail
      refine (HS.out q).mono ?_
      rintro e w1 ⟨a1, c1, a2, c2, rfl, r1, r2, hb⟩
      have HB := hid (below_of_drewN hb)
      obtain ⟨p0, p1⟩ := HCL.out _ HB.out
      have HBE := hid (HB0.out.trans (HB.out.mono HB0.out.size))
      clear hb
      go_wp2
      go_ret2
      exact ⟨rfl, HBE.out⟩
    · have HI2 : Hid (H.inn y 1 = false) := hid (decide_eq_false (by omega))
      rw [HI2.out]
      simp only [Bool.false_eq_true, if_false]
      have y0 : (y == 0) = false := by simpa using hy
      clear HI2 hy
      go_enter Try.func24, Try.ntmps24
      go_wp2_with fail
      rw [HW0.out]
      refine HC.out.mono ?_
      rintro e w' ⟨rfl, q, rfl⟩
      go_wp2_with fail
      refine (HS.out q).mono ?_
      rintro e w1 ⟨a1, c1, a2, c2, rfl, r1, r2, hb⟩
      have HB := hid (below_of_drewN hb)
      obtain ⟨p0, p1⟩ := HCL.out _ HB.out
      have HBE := hid (HB0.out.trans (HB.out.mono HB0.out.size))
      clear hb
      go_wp2
      go_ret2
      exact ⟨rfl, HBE.out⟩
end Go.Proofs.Ythlcnklbeolhpaa
