/- Package rack: the walks of isSide, within, Check, isStiff, Stiff, Groups. -/
import Derived.Test.YtmbfpekcfeeifaaKGroupsOf
namespace Go.Proofs.Ytmbfpekcfeeifaa
open Go.RowKit

def K.side (x : Int) : Bool := decide (1 ≤ x ∧ x ≤ 6)
def K.inn (x n : Int) : Bool := decide (0 ≤ x ∧ x < n)
def K.kind (z : Int) : Bool := decide (z = 0 ∨ z = 1 ∨ z = 2)
/-- The error of the first brace with one. -/
def K.chkL (m n : Int) : List Br → Int
  | [] => 0
  | b :: bs => if (K.inn b.1 m && K.inn b.2.1 n) = true then (if K.kind b.2.2 = true then K.chkL m n bs else 10) else 5
/-- The error of a rack. -/
def K.chk (m n : Int) (bs : List Br) : Int := if (K.side m && K.side n) = true then (if bs.length ≤ 24 then K.chkL m n bs else 2) else 4

theorem isSide_any (x : Int) (w : World) : Calls Try.prog 59 #[.int .i64 x] w fun e w' => e = .returned (.bool (K.side x)) ∧ w' = w := by
  by_cases h1 : 1 ≤ x
  · by_cases h2 : x ≤ 6
    · have HR : Hid (K.side x = true) := hid (decide_eq_true ⟨h1, h2⟩)
      go_enter Try.func59, Try.ntmps59
      go_wp2
      go_ret
      exact ⟨ret_bool HR.out.symm, rfl⟩
    · have HR : Hid (K.side x = false) := hid (decide_eq_false (by omega))
      go_enter Try.func59, Try.ntmps59
      go_wp2
      go_ret
      exact ⟨ret_bool HR.out.symm, rfl⟩
  · have HR : Hid (K.side x = false) := hid (decide_eq_false (by omega))
    go_enter Try.func59, Try.ntmps59
    go_wp2
    go_ret
    exact ⟨ret_bool HR.out.symm, rfl⟩
theorem within_any (x n : Int) (w : World) : Calls Try.prog 60 #[.int .i64 x, .int .i64 n] w fun e w' => e = .returned (.bool (K.inn x n)) ∧ w' = w := by
  by_cases h1 : 0 ≤ x
  · by_cases h2 : x < n
    · have HR : Hid (K.inn x n = true) := hid (decide_eq_true ⟨h1, h2⟩)
      go_enter Try.func60, Try.ntmps60
      go_wp2
      go_ret
      exact ⟨ret_bool HR.out.symm, rfl⟩
    · have HR : Hid (K.inn x n = false) := hid (decide_eq_false (by omega))
      go_enter Try.func60, Try.ntmps60
      go_wp2
      go_ret
      exact ⟨ret_bool HR.out.symm, rfl⟩
  · have HR : Hid (K.inn x n = false) := hid (decide_eq_false (by omega))
    go_enter Try.func60, Try.ntmps60
    go_wp2
    go_ret
    exact ⟨ret_bool HR.out.symm, rfl⟩
theorem K.chkL_drop {m n : Int} {bs : List Br} {k : Nat} (h : k < bs.length) : K.chkL m n (bs.drop k) = if (K.inn bs[k].1 m && K.inn bs[k].2.1 n) = true then (if K.kind bs[k].2.2 = true then K.chkL m n (bs.drop (k + 1)) else 10) else 5 := by
  rw [List.drop_eq_getElem_cons h, K.chkL]

set_option maxHeartbeats 4000000 in
set_option maxRecDepth 100000 in
theorem check_any (m n : Int) (a : Option Addr) (c : Nat) (bs : List Br) (w : World) (hm : bs.length ≤ maxLen) (hR : RdB w a bs) :
    Calls Try.prog 25 #[K.rk m n a bs.length c] w fun e w' => e = .returned (.int .i64 (K.chk m n bs)) ∧ Below w.heap.size w w' := by
  have hb0 : Below w.heap.size w (w.alloc (.cells #[.int .i64 m, .int .i64 n, .slice a bs.length c] 24)) := (Below.refl _ _).alloc (Nat.le_refl _) _
  have k0 : (w.alloc (.cells #[.int .i64 m, .int .i64 n, .slice a bs.length c] 24)).cell? ⟨w.heap.size, 0, none⟩ = some (.int .i64 m) := by rw [World.cell?_alloc_at _ _ _ _ rfl]; rfl
  have k1 : (w.alloc (.cells #[.int .i64 m, .int .i64 n, .slice a bs.length c] 24)).cell? ⟨w.heap.size, 1, none⟩ = some (.int .i64 n) := by rw [World.cell?_alloc_at _ _ _ _ rfl]; rfl
  have k2 : (w.alloc (.cells #[.int .i64 m, .int .i64 n, .slice a bs.length c] 24)).cell? ⟨w.heap.size, 2, none⟩ = some (.slice a bs.length c) := by rw [World.cell?_alloc_at _ _ _ _ rfl]; rfl
  have HB0 := hid hb0
  have HK0 := hid k0
  have HK1 := hid k1
  have HT := hid (hR.stays hb0)
  have HSZ : Hid (w.heap.size < (w.alloc (.cells #[.int .i64 m, .int .i64 n, .slice a bs.length c] 24)).heap.size) := hid (World.block_lt_of_cell? _ _ k0)
  clear hb0 hR
  unfold maxLen at hm
  unfold K.rk
  have HS1 := hid (isSide_any m)
  have HS2 := hid (isSide_any n)
  cases hs1 : K.side m with
  | false =>
    have HRS : Hid (K.chk m n bs = 4) := hid (by unfold K.chk; rw [hs1]; rfl)
    rw [hs1] at HS1
    clear hs1
    go_enter Try.func25, Try.ntmps25
    go_wp2_with fail
    refine (HS1.out _).mono ?_
    rintro e w' ⟨rfl, rfl⟩
    go_wp2
    go_ret
    exact ⟨ret_int HRS.out.symm, HB0.out⟩
  | true =>
  rw [hs1] at HS1
  cases hs2 : K.side n with
  | false =>
    have HRS : Hid (K.chk m n bs = 4) := hid (by unfold K.chk; rw [hs1, hs2]; rfl)
    rw [hs2] at HS2
    clear hs1 hs2
    go_enter Try.func25, Try.ntmps25
    go_wp2_with fail
    refine (HS1.out _).mono ?_
    rintro e w' ⟨rfl, rfl⟩
    go_wp2_with fail
    refine (HS2.out _).mono ?_
    rintro e w' ⟨rfl, rfl⟩
    go_wp2
    go_ret
    exact ⟨ret_int HRS.out.symm, HB0.out⟩
  | true =>
  rw [hs2] at HS2
  by_cases h24 : 24 < bs.length
  · have HRS : Hid (K.chk m n bs = 2) := hid (by unfold K.chk; rw [hs1, hs2, if_pos (by rfl), if_neg (by omega)])
    clear hs1 hs2
    go_enter Try.func25, Try.ntmps25
    go_wp2_with fail
    refine (HS1.out _).mono ?_
    rintro e w' ⟨rfl, rfl⟩
    go_wp2_with fail
    refine (HS2.out _).mono ?_
    rintro e w' ⟨rfl, rfl⟩
    go_wp2
    go_ret
    exact ⟨ret_int HRS.out.symm, HB0.out⟩
  have HRS : Hid (K.chk m n bs = K.chkL m n (bs.drop 0)) := hid (by unfold K.chk; rw [hs1, hs2, if_pos (by rfl), if_pos (by omega), List.drop_zero])
  clear hs1 hs2
  go_enter Try.func25, Try.ntmps25
  go_wp2_with fail
  generalize hw1 : w.alloc (.cells #[.int .i64 m, .int .i64 n, .slice a bs.length c] 24) = w1 at *
  clear hw1
  refine (HS1.out _).mono ?_
  rintro e w' ⟨rfl, rfl⟩
  go_wp2_with fail
  refine (HS2.out _).mono ?_
  rintro e w' ⟨rfl, rfl⟩
  go_wp2
  clear k0 k1 k2
  go_loopw [24] (fun i wr => ∃ k : Nat, k ≤ bs.length ∧ i = .int .i64 k ∧ K.chk m n bs = K.chkL m n (bs.drop k) ∧ Below w'.heap.size w' wr) (fun i _ => bs.length - (intOf i).toNat)
  case atStart => exact ⟨0, Nat.zero_le _, rfl, HRS.out, Below.refl _ _⟩
  case round =>
    clear HRS
    obtain ⟨k, hk, rfl, hrs, hq⟩ := hrel
    have HRS := hid hrs
    have HQ := hid hq
    have q0 := cell_stays hq (Nat.le_refl _) HK0.out
    have q1 := cell_stays hq (Nat.le_refl _) HK1.out
    have hsz : w.heap.size < wr.heap.size := Nat.lt_of_lt_of_le HSZ.out hq.size
    clear hrs hq
    by_cases hlt : k < bs.length
    · obtain ⟨b, off, rfl, c1, c2, c3⟩ := (HT.out.stays HQ.out) k hlt
      have HD := hid (K.chkL_drop (m := m) (n := n) hlt)
      have HQ2 := hid (HQ.out.alloc HQ.out.size (.cells #[.int .i64 bs[k].1, .int .i64 bs[k].2.1, .int .i64 bs[k].2.2] 63))
      generalize bs[k] = br at *
      obtain ⟨x, y, z⟩ := br
      simp only at c1 c2 c3 HD HQ2
      have HI1 := hid (within_any x m)
      have HI2 := hid (within_any y n)
      have hix : (0 : Int) ≤ (k : Int) ∧ (k : Int) < (bs.length : Int) := by omega
      cases hi1 : K.inn x m with
      | false =>
        have HR2 : Hid (K.chk m n bs = 5) := hid (by rw [HRS.out, HD.out, hi1]; rfl)
        rw [hi1] at HI1
        clear hi1
        go_wp2_with fail
        refine (HI1.out _).mono ?_
        rintro e w2 ⟨rfl, rfl⟩
        go_wp2
        go_ret
        exact ⟨ret_int HR2.out.symm, HB0.out.trans (HQ2.out.mono HB0.out.size)⟩
      | true =>
      rw [hi1] at HI1
      cases hi2 : K.inn y n with
      | false =>
        have HR2 : Hid (K.chk m n bs = 5) := hid (by rw [HRS.out, HD.out, hi1, hi2]; rfl)
        rw [hi2] at HI2
        clear hi1 hi2
        go_wp2_with fail
        refine (HI1.out _).mono ?_
        rintro e w2 ⟨rfl, rfl⟩
        go_wp2_with fail
        refine (HI2.out _).mono ?_
        rintro e w2 ⟨rfl, rfl⟩
        go_wp2
        go_ret
        exact ⟨ret_int HR2.out.symm, HB0.out.trans (HQ2.out.mono HB0.out.size)⟩
      | true =>
      rw [hi2] at HI2
      have HD2 : Hid (K.chk m n bs = if K.kind z = true then K.chkL m n (bs.drop (k + 1)) else 10) := hid (by rw [HRS.out, HD.out, hi1, hi2]; rfl)
      clear hi1 hi2
      by_cases hz : z = 0 ∨ z = 1 ∨ z = 2
      · have HR2 : Hid (K.chk m n bs = K.chkL m n (bs.drop (k + 1))) := hid (by rw [HD2.out, if_pos (show K.kind z = true from decide_eq_true hz)])
        rcases hz with rfl | rfl | rfl
        all_goals
          go_wp2_with fail
          refine (HI1.out _).mono ?_
          rintro e w2 ⟨rfl, rfl⟩
          go_wp2_with fail
          refine (HI2.out _).mono ?_
          rintro e w2 ⟨rfl, rfl⟩
          go_wp2
          go_roundw
          case rel => exact ⟨k + 1, by omega, by go_num, HR2.out, HQ2.out⟩
          case measure => simp [intOf]; omega
      · have HR2 : Hid (K.chk m n bs = 10) := hid (by rw [HD2.out, if_neg (by unfold K.kind; simpa using hz)])
        have z0 : (z != 0) = true := by simp; omega
        have z1 : (z != 1) = true := by simp; omega
        have z2 : (z != 2) = true := by simp; omega
        clear hz
        go_wp2_with fail
        refine (HI1.out _).mono ?_
        rintro e w2 ⟨rfl, rfl⟩
        go_wp2_with fail
        refine (HI2.out _).mono ?_
        rintro e w2 ⟨rfl, rfl⟩
        go_wp2
        go_ret
        exact ⟨ret_int HR2.out.symm, HB0.out.trans (HQ2.out.mono HB0.out.size)⟩
    · have hke : k = bs.length := by omega
      subst hke
      have HR2 : Hid (K.chk m n bs = 0) := hid (by rw [HRS.out, List.drop_length]; rfl)
      go_wp2
      go_ret
      exact ⟨ret_int HR2.out.symm, HB0.out.trans (HQ.out.mono HB0.out.size)⟩
end Go.Proofs.Ytmbfpekcfeeifaa
