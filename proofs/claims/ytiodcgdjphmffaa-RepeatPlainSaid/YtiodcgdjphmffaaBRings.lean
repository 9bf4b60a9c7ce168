/- Package repeat: Rings. -/
import Derived.Test.YtiodcgdjphmffaaBNum
namespace Go.Proofs.Ytiodcgdjphmffaa
open Go.RowKit

/-- The number of rings, and the error. -/
def B.ringsV (n k : Int) : Int × Int := if 1 ≤ n ∧ n ≤ 16 ∧ 1 ≤ k ∧ k ≤ 9 then ((B.rings n.toNat k.toNat : Nat), 0) else (0, 3)

theorem B.keptTo_le {n k : Nat} (hk : k ≤ 9) (hn : n ≤ 16) (h0 : 1 ≤ n) : ∀ m, B.keptTo n k m ≤ m * 1853020188851841 := by
  intro m
  induction m with
  | zero => simp [B.keptTo]
  | succ m ih =>
    rw [B.keptTo_succ]
    have : Nat.gcd n m ≤ n := Nat.gcd_le_left m (by omega)
    have := B.pow_lt hk (n := Nat.gcd n m) (by omega)
    omega

set_option maxHeartbeats 400000 in
set_option maxRecDepth 100000 in
theorem rings_any (n k : Int) (w : World) :
    Calls Try.prog 33 #[.int .i64 n, .int .i64 k] w fun e w' => e = .returned (.tuple #[.int .i64 (B.ringsV n k).1, .int .i64 (B.ringsV n k).2]) ∧ Below w.heap.size w w' := by
  obtain ⟨b1, hb1⟩ : ∃ b, decide (1 ≤ n ∧ n ≤ 16) = b := ⟨_, rfl⟩
  obtain ⟨b2, hb2⟩ : ∃ b, decide (1 ≤ k ∧ k ≤ 9) = b := ⟨_, rfl⟩
  have U1 := hid (fun w => upTo_any n 16 b1 w hb1)
  have U2 := hid (fun w => upTo_any k 9 b2 w hb2)
  cases b1 with
  | false =>
    have HV : Hid (B.ringsV n k = (0, 3)) := hid (by unfold B.ringsV; rw [if_neg]; rw [decide_eq_false_iff_not] at hb1; omega)
    clear hb1 hb2
    go_enter Try.func33, Try.ntmps33
    go_wp2_with (refine (U1.out _).mono ?_; rintro e w' ⟨rfl, rfl⟩)
    go_ret2
    exact ⟨by rw [HV.out]; rfl, Below.refl _ _⟩
  | true =>
    cases b2 with
    | false =>
      have HV : Hid (B.ringsV n k = (0, 3)) := hid (by unfold B.ringsV; rw [if_neg]; rw [decide_eq_false_iff_not] at hb2; omega)
      clear hb1 hb2
      go_enter Try.func33, Try.ntmps33
      go_wp2_with (first | (go_at_call_of 53 (Value.int .i64 n); refine (U1.out _).mono ?_; rintro e w' ⟨rfl, rfl⟩) | (go_at_call_of 53 (Value.int .i64 k); refine (U2.out _).mono ?_; rintro e w' ⟨rfl, rfl⟩))
      go_ret2
      exact ⟨by rw [HV.out]; rfl, Below.refl _ _⟩
    | true =>
      have HV : Hid (B.ringsV n k = (((B.keptTo n.toNat k.toNat n.toNat / n.toNat : Nat) : Int), 0)) := hid (by unfold B.ringsV; rw [if_pos (by rw [decide_eq_true_eq] at hb1 hb2; omega)]; rfl)
      rw [decide_eq_true_eq] at hb1 hb2
      obtain ⟨m, rfl⟩ : ∃ m : Nat, n = m := ⟨n.toNat, by omega⟩
      obtain ⟨q, rfl⟩ : ∃ q : Nat, k = q := ⟨k.toNat, by omega⟩
      simp only [Int.toNat_natCast] at HV
      have hm0 : 1 ≤ m := by omega
      have hm1 : m ≤ 16 := by omega
      have hq1 : q ≤ 9 := by omega
      clear hb1 hb2
      have HL := hid (B.keptTo_le hq1 hm1 hm0)
      have HS := hid (B.keptTo_succ m q)
      go_enter Try.func33, Try.ntmps33
      go_wp2_with (first | (go_at_call_of 53 (Value.int .i64 (m : Int)); refine (U1.out _).mono ?_; rintro e w' ⟨rfl, rfl⟩) | (go_at_call_of 53 (Value.int .i64 (q : Int)); refine (U2.out _).mono ?_; rintro e w' ⟨rfl, rfl⟩))
      go_loopw [6, 17] (fun x y wr => ∃ j : Nat, j ≤ m ∧ y = .int .i64 j ∧ x = .int .i64 (B.keptTo m q j : Nat) ∧ Below w.heap.size w wr) (fun _ y _ => m - (intOf y).toNat)
      case atStart => exact ⟨0, Nat.zero_le _, rfl, rfl, Below.refl _ _⟩
      case round =>
        obtain ⟨j, hj, rfl, rfl, hbel⟩ := hrel
        have HB := hid hbel; clear hbel
        by_cases hlt : j < m
        · have h1 := HL.out j
          have h2 := HL.out (j + 1)
          have HS1 := hid (HS.out j)
          have hg : Nat.gcd m j ≤ 16 := Nat.le_trans (Nat.gcd_le_left j (by omega)) hm1
          have hc : j ≤ 1000 := by omega
          have hd : m ≤ 1000 := by omega
          have CD := hid (fun w => cd_any m j w hd hc)
          have PW := hid (fun w => power_any q (Nat.gcd m j) w hq1 hg)
          have hp := B.pow_lt hq1 hg
          generalize hG : Nat.gcd m j = G at *
          generalize hx : (q ^ G : Nat) = x at *
          generalize hy : B.keptTo m q j = y at *
          generalize hz : B.keptTo m q (j + 1) = z at *
          have HZ := hid hz
          clear hx hy hz hG hg hc hd
          have hz1 : z ≤ 40000000000000000 := by omega
          have hw : IntKind.i64.wrap ((y : Int) + (x : Int)) = (z : Int) := by
            rw [HS1.out, IntWalk.i64_in _ ⟨by omega, by have := HS1.out; omega⟩]; simp
          go_wp2_with (first | (go_at_call 61; refine (CD.out _).mono ?_; rintro e w' ⟨rfl, hb2⟩; have HB2 := hid hb2; clear hb2) | (go_at_call 60; refine (PW.out _).mono ?_; rintro e w' ⟨rfl, rfl⟩))
          go_roundw
          case rel => exact ⟨j + 1, by omega, by go_num, by rw [HZ.out], HB.out.trans (HB2.out.mono HB.out.size)⟩
          case measure => simp [intOf]; omega
        · have hje : j = m := by omega
          subst hje
          have hz2 : ¬ (j : Int) = 0 := by omega
          have h2 := HL.out j
          have HD : Hid (((B.keptTo j q j : Nat) : Int) / (j : Int) = ((B.keptTo j q j / j : Nat) : Int)) := hid (by simp)
          generalize B.keptTo j q j = y at *
          have HW : Hid (wrap64 ((y : Int) / (j : Int)) = ((y / j : Nat) : Int)) := hid (by
            rw [HD.out]
            have : y / j ≤ y := Nat.div_le_self _ _
            generalize y / j = z at *
            exact IntWalk.wrap64_in _ ⟨by omega, by omega⟩)
          go_wp2
          go_ret2
          refine ⟨?_, HB.out⟩
          rw [HV.out]
          show Ending.returned (.tuple #[.int .i64 (wrap64 ((y : Int) / (j : Int))), .int .i64 0]) = _
          rw [HW.out]
end Go.Proofs.Ytiodcgdjphmffaa
