/- Package tuscheref03: the walks of is and Check. -/
import Derived.Test.YtapndndbibgjoaaIAsc
namespace Go.Proofs.Ytapndndbibgjoaa
open Go.RowKit

/-- The world turned in nothing but its draws. -/
def Quiet (w w' : World) : Prop := ∃ n, w' = w.drewN n
theorem Quiet.refl (w : World) : Quiet w w := ⟨0, rfl⟩
theorem Quiet.drewN {w w' : World} (h : Quiet w w') (q : Nat) : Quiet w (w'.drewN q) := by
  obtain ⟨n, rfl⟩ := h
  exact ⟨n + q, by rw [World.drewN_drewN]⟩
theorem below_drewN {B : Nat} {w a : World} (h : Below B w a) (n : Nat) : Below B w (a.drewN n) := h.trans ⟨rfl, rfl, rfl, Nat.le_refl _, fun _ _ => rfl⟩
theorem Quiet.below {w w' : World} (h : Quiet w w') : Below w.heap.size w w' := by
  obtain ⟨n, rfl⟩ := h
  exact below_drewN (Below.refl _ _) n

theorem isOne_any (n lo hi : Int) (w : World) :
    Calls Try.prog 86 #[.int .i64 n, .int .i64 lo, .int .i64 hi] w fun e w' => e = .returned (.bool (decide (lo ≤ n ∧ n ≤ hi))) ∧ w' = w := by
  by_cases h1 : lo ≤ n
  · by_cases h2 : n ≤ hi
    · rw [decide_eq_true ⟨h1, h2⟩]
      go_enter Try.func86, Try.ntmps86
      go_wp2
      go_ret
      exact ⟨rfl, rfl⟩
    · rw [decide_eq_false (show ¬ (lo ≤ n ∧ n ≤ hi) by omega)]
      go_enter Try.func86, Try.ntmps86
      go_wp2
      go_ret
      exact ⟨rfl, rfl⟩
  · rw [decide_eq_false (show ¬ (lo ≤ n ∧ n ≤ hi) by omega)]
    go_enter Try.func86, Try.ntmps86
    go_wp2
    go_ret
    exact ⟨rfl, rfl⟩

theorem is_any (n lo hi : Int) (w : World) :
    Calls Try.prog 64 #[.int .i64 n, .int .i64 lo, .int .i64 hi] w fun e w' => e = .returned (.bool (decide (lo ≤ n ∧ n ≤ hi))) ∧ w' = w := by
  have HI := hid (isOne_any n lo hi w)
  generalize decide (lo ≤ n ∧ n ≤ hi) = b at *
  go_enter Try.func64, Try.ntmps64
  go_wp2_with fail
  refine HI.out.mono ?_
  rintro e w' ⟨rfl, rfl⟩
  go_wp2
  go_ret
  exact ⟨rfl, rfl⟩

theorem is_b (n lo hi : Int) (b : Bool) (hb : decide (lo ≤ n ∧ n ≤ hi) = b) (w : World) :
    Calls Try.prog 64 #[.int .i64 n, .int .i64 lo, .int .i64 hi] w fun e w' => e = .returned (.bool b) ∧ w' = w := by
  have := is_any n lo hi w
  rwa [hb] at this

/-- Below n. -/
theorem is_in (x n : Int) (w : World) : Calls Try.prog 64 #[.int .i64 x, .int .i64 0, .int .i64 (n - 1)] w fun e w' => e = .returned (.bool (!K.out n x)) ∧ w' = w := by
  refine is_b x 0 (n - 1) _ ?_ w
  unfold K.out
  rw [Bool.eq_iff_iff]
  simp
  omega

set_option maxHeartbeats 4000000 in
set_option maxRecDepth 100000 in
theorem refCheck_any (n : Int) (a : Option Addr) (c : Nat) (T : List (List Int)) (w : World) (hm : T.length ≤ maxLen) (hT : RdM w a T) :
    Calls Try.prog 25 #[K.pal n a T.length c] w fun e w' => e = .returned (.int .i64 (K.check n T)) ∧ Below w.heap.size w w' := by
  have hb0 : Below w.heap.size w (w.alloc (.cells #[.int .i64 n, .slice a T.length c] 29)) := (Below.refl _ _).alloc (Nat.le_refl _) _
  have k0 : (w.alloc (.cells #[.int .i64 n, .slice a T.length c] 29)).cell? ⟨w.heap.size, 0, none⟩ = some (.int .i64 n) := by rw [World.cell?_alloc_at _ _ _ _ rfl]; rfl
  have k1 : (w.alloc (.cells #[.int .i64 n, .slice a T.length c] 29)).cell? ⟨w.heap.size, 1, none⟩ = some (.slice a T.length c) := by rw [World.cell?_alloc_at _ _ _ _ rfl]; rfl
  have HB0 := hid hb0
  have HK0 := hid k0
  have HK1 := hid k1
  have HT := hid (hT.stays hb0)
  clear hb0 hT
  unfold maxLen at hm
  unfold K.pal
  by_cases h1 : ¬ (2 ≤ n ∧ n ≤ 7)
  · have HR : Hid (K.check n T = 4) := hid (by unfold K.check; rw [if_pos (by omega)])
    have HI := hid (fun W => is_b n 2 7 false (decide_eq_false h1) W)
    clear h1
    go_enter Try.func25, Try.ntmps25
    go_wp2_with fail
    refine (HI.out _).mono ?_
    rintro e w' ⟨rfl, rfl⟩
    go_wp2
    go_ret
    exact ⟨ret_int HR.out.symm, HB0.out⟩
  have h1' : 2 ≤ n ∧ n ≤ 7 := by omega
  clear h1
  have HI := hid (fun W => is_b n 2 7 true (decide_eq_true h1') W)
  obtain ⟨h1, h2⟩ := h1'
  by_cases h3 : T.length = 0
  · have HR : Hid (K.check n T = 1) := hid (by unfold K.check; rw [if_neg (by omega), if_pos h3])
    rw [h3] at k1 HB0 ⊢
    go_enter Try.func25, Try.ntmps25
    go_wp2_with fail
    refine (HI.out _).mono ?_
    rintro e w' ⟨rfl, rfl⟩
    go_wp2
    go_ret
    exact ⟨ret_int HR.out.symm, HB0.out⟩
  by_cases h4 : 6 < T.length
  · have HR : Hid (K.check n T = 2) := hid (by unfold K.check; rw [if_neg (by omega), if_neg h3, if_pos h4])
    go_enter Try.func25, Try.ntmps25
    go_wp2_with fail
    refine (HI.out _).mono ?_
    rintro e w' ⟨rfl, rfl⟩
    go_wp2
    go_ret
    exact ⟨ret_int HR.out.symm, HB0.out⟩
  have HR := hid (K.check_rows (n := n) (T := T) (by omega) h3 h4)
  go_enter Try.func25, Try.ntmps25
  go_wp2_with fail
  generalize w.alloc (.cells #[.int .i64 n, .slice a T.length c] 29) = w1 at *
  refine (HI.out _).mono ?_
  rintro e w' ⟨rfl, rfl⟩
  go_wp2
  clear k0 k1
  go_loopw [3] (fun i wr => ∃ k : Nat, k ≤ T.length ∧ i = .int .i64 k ∧ K.rows n T = K.rows n (T.drop k) ∧ Quiet w' wr) (fun i _ => T.length - (intOf i).toNat)
  case atStart => exact ⟨0, Nat.zero_le _, rfl, rfl, Quiet.refl _⟩
  case round =>
    obtain ⟨k, hk, rfl, hrow, hq⟩ := hrel
    have HW := hid hrow
    have HQ := hid hq
    have q0 := cell_stays hq.below (Nat.le_refl _) HK0.out
    have q1 := cell_stays hq.below (Nat.le_refl _) HK1.out
    clear hrow hq
    by_cases hlt : k < T.length
    · obtain ⟨b, off, r, cr, rfl, hc, hr⟩ := HT.out k hlt
      have qc := cell_stays HQ.out.below (Nat.le_refl _) hc
      have HS := hid (K.rows_drop (n := n) hlt)
      have hix : (0 : Int) ≤ (k : Int) ∧ (k : Int) < (T.length : Int) := by omega
      generalize T[k] = row at *
      have HRR := hid hr
      have HCC := hid hc
      clear hr hc
      by_cases hl : (row.length : Int) = n
      · subst hl
        have hnn : ((row.length : Int) != (row.length : Int)) = false := by simp
        go_wp2
        go_quiet (fail)
        go_wp2
        clear q0 q1 qc
        go_loopw [4] (fun i wr2 => ∃ j : Nat, j ≤ row.length ∧ i = .int .i64 j ∧ row.any (K.out row.length) = (row.drop j).any (K.out row.length) ∧ Quiet w' wr2) (fun i _ => row.length - (intOf i).toNat)
        case atStart => exact ⟨0, Nat.zero_le _, rfl, rfl, HQ.out.drewN _⟩
        case round =>
          obtain ⟨j, hj, rfl, hany, hq⟩ := hrel
          have HA := hid hany
          have HQ2 := hid hq
          have q0 := cell_stays hq.below (Nat.le_refl _) HK0.out
          have q1 := cell_stays hq.below (Nat.le_refl _) HK1.out
          have qc := cell_stays hq.below (Nat.le_refl _) HCC.out
          clear hany hq
          by_cases hjl : j < row.length
          · obtain ⟨b', off', rfl, hcx⟩ := HRR.out j hjl
            have qx := cell_stays HQ2.out.below (Nat.le_refl _) hcx
            have HD := hid (K.any_drop (p := K.out row.length) hjl)
            have hjx : (0 : Int) ≤ (j : Int) ∧ (j : Int) < (row.length : Int) := by omega
            generalize row[j] = x at *
            clear hcx
            by_cases hx : K.out row.length x = true
            · have HR2 : Hid (K.check row.length T = 4) := hid (by
                rw [HR.out, HW.out, HS.out, K.row_out (by rw [HA.out, HD.out, hx]; rfl)]
                rfl)
              have HC := hid (fun W => is_in x row.length W)
              rw [hx] at HC
              clear hx
              go_wp2
              go_quiet ((go_at_call 64; exact Calls.quiet_of_same (HC.out _)))
              go_wp2
              go_ret
              exact ⟨ret_int HR2.out.symm, HB0.out.trans (below_drewN (HQ2.out.below.mono HB0.out.size) _)⟩
            · have hx' : K.out row.length x = false := by simpa using hx
              have HC := hid (fun W => is_in x row.length W)
              rw [hx'] at HC
              have HN : Hid (row.any (K.out row.length) = (row.drop (j + 1)).any (K.out row.length)) := hid (by rw [HA.out, HD.out, hx']; rfl)
              clear hx hx'
              go_wp2
              go_quiet ((go_at_call 64; exact Calls.quiet_of_same (HC.out _)))
              go_wp2
              go_roundw
              case rel => exact ⟨j + 1, by omega, by go_num, HN.out, HQ2.out.drewN _⟩
              case measure => simp [intOf]; omega
          · have hje : j = row.length := by omega
            subst hje
            have HN : Hid (K.rows row.length T = K.rows row.length (T.drop (k + 1))) := hid (by
              rw [HW.out, HS.out, K.row_good (by rw [HA.out, List.drop_length]; rfl)]
              rfl)
            clear q1 qc
            go_wp2
            go_roundw
            case rel => exact ⟨k + 1, by omega, by go_num, HN.out, HQ2.out⟩
            case measure => simp [intOf]; omega
      · have HR2 : Hid (K.check n T = 3) := hid (by rw [HR.out, HW.out, HS.out, K.row_size hl]; rfl)
        have hne : ((row.length : Int) != n) = true := by simpa using hl
        go_wp2
        go_quiet (fail)
        go_wp2
        go_ret
        exact ⟨ret_int HR2.out.symm, HB0.out.trans (below_drewN (HQ.out.below.mono HB0.out.size) _)⟩
    · have hke : k = T.length := by omega
      subst hke
      have HR2 : Hid (K.check n T = 0) := hid (by rw [HR.out, HW.out, List.drop_length]; rfl)
      go_wp2
      go_ret
      exact ⟨ret_int HR2.out.symm, HB0.out.trans (HQ.out.below.mono HB0.out.size)⟩
end Go.Proofs.Ytapndndbibgjoaa
