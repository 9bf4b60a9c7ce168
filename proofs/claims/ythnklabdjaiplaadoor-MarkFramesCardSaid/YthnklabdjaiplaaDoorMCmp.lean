/- Package mark: the walks of cmp.Compare and slices.Compare at []int. -/
import Derived.Test.YthnklabdjaiplaaDoorMIter
import Derived.Test.YthnklabdjaiplaaDoorMLex
namespace Go.Proofs.YthnklabdjaiplaaDoor
open Go.RowKit

theorem isNaN_any (x : Int) (w : World) : Calls Tryd.prog 103 #[.int .i64 x] w fun e w' => e = .returned (.bool false) ∧ w' = w := by
  go_enter Tryd.func103, Tryd.ntmps103
  go_wp2
  go_ret
  exact ⟨ret_bool (by simp), rfl⟩
theorem cmpI_any (x y : Int) (w : World) : Calls Tryd.prog 85 #[.int .i64 x, .int .i64 y] w fun e w' => e = .returned (.int .i64 (if x < y then -1 else if y < x then 1 else 0)) ∧ w' = w := by
  have HX := hid (isNaN_any x w)
  have HY := hid (isNaN_any y w)
  by_cases h1 : x < y
  · rw [if_pos h1]
    go_enter Tryd.func85, Tryd.ntmps85
    go_wp2_with fail
    refine HX.out.mono ?_
    rintro e w' ⟨rfl, rfl⟩
    go_wp2_with fail
    refine HY.out.mono ?_
    rintro e w' ⟨rfl, rfl⟩
    go_wp2
    go_ret
    exact ⟨rfl, rfl⟩
  · have h1' : decide (x < y) = false := decide_eq_false h1
    by_cases h2 : y < x
    · rw [if_neg h1, if_pos h2]
      go_enter Tryd.func85, Tryd.ntmps85
      go_wp2_with fail
      refine HX.out.mono ?_
      rintro e w' ⟨rfl, rfl⟩
      go_wp2_with fail
      refine HY.out.mono ?_
      rintro e w' ⟨rfl, rfl⟩
      go_wp2
      go_ret
      exact ⟨rfl, rfl⟩
    · have h2' : decide (y < x) = false := decide_eq_false h2
      rw [if_neg h1, if_neg h2]
      go_enter Tryd.func85, Tryd.ntmps85
      go_wp2_with fail
      refine HX.out.mono ?_
      rintro e w' ⟨rfl, rfl⟩
      go_wp2_with fail
      refine HY.out.mono ?_
      rintro e w' ⟨rfl, rfl⟩
      go_wp2
      go_ret
      exact ⟨rfl, rfl⟩

theorem M.toI_get {w : World} {a : Option Addr} {l : List Nat} (h : RdI w a (M.toI l)) {i : Nat} (hi : i < l.length) : ∃ b off, a = some ⟨b, off, none⟩ ∧ w.cell? ⟨b, off + i, none⟩ = some (.int .i64 ((l.getD i 0 : Nat) : Int)) := by
  obtain ⟨b, off, h1, h2⟩ := h i (by rw [M.toI_len]; exact hi)
  refine ⟨b, off, h1, ?_⟩
  have e : (M.toI l)[i]'(by rw [M.toI_len]; exact hi) = ((l.getD i 0 : Nat) : Int) := by
    rw [List.getD_eq_getElem?_getD, List.getElem?_eq_getElem hi]
    exact List.getElem_map ..
  rw [h2, e]

set_option maxHeartbeats 2000000 in
theorem compare_any (a b : Option Addr) (ca cb : Nat) (x y : List Nat) (w : World) (hx9 : x.length ≤ 1000) (_ : y.length ≤ 1000) (hx : RdI w a (M.toI x)) (hy : RdI w b (M.toI y)) :
    Calls Tryd.prog 67 #[.slice a x.length ca, .slice b y.length cb] w fun e w' => e = .returned (.int .i64 (M.cmpL x y)) ∧ w' = w := by
  have HX := hid hx
  have HY := hid hy
  have HL := hid (fun k h1 h2 h3 => M.cmpL_len (a := x) (b := y) (k := k) h1 h2 h3)
  have HS := hid (fun k h1 h2 h3 => M.cmpL_short (a := x) (b := y) (k := k) h1 h2 h3)
  have HA := hid (fun k h1 h2 h3 h4 => M.cmpL_at (a := x) (b := y) (k := k) h1 h2 h3 h4)
  have HN := hid (fun k h1 h2 h3 h4 => M.take_next (a := x) (b := y) (k := k) h1 h2 h3 h4)
  generalize M.cmpL x y = r at *
  clear hx hy
  go_enter Tryd.func67, Tryd.ntmps67
  go_wp2
  go_loop [11] (fun i => ∃ k : Nat, k ≤ x.length ∧ k ≤ y.length ∧ i = .int .i64 k ∧ x.take k = y.take k) (fun i => x.length - (intOf i).toNat)
  case atStart => exact ⟨0, Nat.zero_le _, Nat.zero_le _, rfl, by simp⟩
  case round =>
    obtain ⟨k, hk, hky, rfl, ht⟩ := hrel
    have HT := hid ht
    clear ht
    by_cases hlt : k < x.length
    · obtain ⟨b1, o1, rfl, hc1⟩ := M.toI_get HX.out hlt
      by_cases hly : k < y.length
      · obtain ⟨b2, o2, rfl, hc2⟩ := M.toI_get HY.out hly
        have HA1 := hid (HA.out k HT.out hlt hly)
        have HN1 := hid (HN.out k HT.out hlt hly)
        generalize x.getD k 0 = u at *
        generalize y.getD k 0 = v at *
        have HC := hid (cmpI_any (u : Int) (v : Int) w)
        by_cases h1 : u < v
        · have HR : Hid (r = -1) := hid (by rw [HA1.out (by omega), if_pos h1])
          rw [if_pos (show (u : Int) < (v : Int) by omega)] at HC
          go_wp2_with (refine HC.out.mono ?_; rintro e w' ⟨rfl, rfl⟩)
          go_ret
          exact ⟨ret_int HR.out.symm, rfl⟩
        · by_cases h2 : v < u
          · have HR : Hid (r = 1) := hid (by rw [HA1.out (by omega), if_neg h1])
            rw [if_neg (show ¬ (u : Int) < (v : Int) by omega), if_pos (show (v : Int) < (u : Int) by omega)] at HC
            go_wp2_with (refine HC.out.mono ?_; rintro e w' ⟨rfl, rfl⟩)
            go_ret
            exact ⟨ret_int HR.out.symm, rfl⟩
          · have HR := hid (HN1.out (by omega))
            rw [if_neg (show ¬ (u : Int) < (v : Int) by omega), if_neg (show ¬ (v : Int) < (u : Int) by omega)] at HC
            go_wp2_with (refine HC.out.mono ?_; rintro e w' ⟨rfl, rfl⟩)
            go_round
            case rel => exact ⟨k + 1, by omega, by omega, by go_num, HR.out⟩
            case measure => simp [intOf]; omega
      · have HR : Hid (r = 1) := hid (HS.out k HT.out (by omega) hlt)
        have hky' : k = y.length := by omega
        subst hky'
        go_wp2
        go_ret
        exact ⟨ret_int HR.out.symm, rfl⟩
    · have hke : k = x.length := by omega
      subst hke
      have HR := hid (HL.out x.length HT.out rfl hky)
      by_cases h1 : x.length < y.length
      · rw [if_pos h1] at HR
        go_wp2
        go_ret
        exact ⟨ret_int HR.out.symm, rfl⟩
      · rw [if_neg h1] at HR
        go_wp2
        go_ret
        exact ⟨ret_int HR.out.symm, rfl⟩
end Go.Proofs.YthnklabdjaiplaaDoor
