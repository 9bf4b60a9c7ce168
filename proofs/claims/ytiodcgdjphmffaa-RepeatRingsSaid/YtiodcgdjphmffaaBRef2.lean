/- The reference's Same, Rings. -/
import Derived.Test.YtiodcgdjphmffaaBRef1
namespace Go.Proofs.Ytiodcgdjphmffaa
open Go.RowKit

set_option maxHeartbeats 400000 in
set_option maxRecDepth 100000 in
theorem refSame_any (a b : ByteArray) (w : World) (ha : a.size ≤ maxLen) (hb : b.size ≤ maxLen) :
    Calls Try.prog 32 #[.string a, .string b] w fun e w' => e = .returned (.tuple #[.bool (B.sameV a b).1, .int .i64 (B.sameV a b).2]) ∧ Below w.heap.size w w' := by
  have C1 := hid (fun w => refFirst_any a w ha)
  have C2 := hid (fun w => refFirst_any b w hb)
  by_cases h0 : B.chk a = 0
  · by_cases h1 : B.chk b = 0
    · have HV : Hid (B.sameV a b = ((B.first a).toList == (B.first b).toList, 0)) := hid (by unfold B.sameV; rw [if_pos h0, if_pos h1])
      have V1 : B.firstV a = (B.first a, 0) := by unfold B.firstV; rw [if_pos h0]
      have V2 : B.firstV b = (B.first b, 0) := by unfold B.firstV; rw [if_pos h1]
      rw [V1] at C1
      rw [V2] at C2
      clear V1 V2 h0 h1
      generalize B.first a = f at *
      generalize B.first b = g at *
      go_enter Try.func32, Try.ntmps32
      go_wp2_with (first | (go_at_call_of 30 (Value.string a); refine (C1.out _).mono ?_; rintro e w1 ⟨rfl, b1⟩; replace b1 := hid b1; clear C1) | (go_at_call_of 30 (Value.string b); refine (C2.out _).mono ?_; rintro e w2 ⟨rfl, b2⟩; replace b2 := hid b2))
      go_ret2
      exact ⟨by rw [HV.out]; rfl, b1.out.trans (b2.out.mono b1.out.size)⟩
    · have HV : Hid (B.sameV a b = (false, B.chk b)) := hid (by unfold B.sameV; rw [if_pos h0, if_neg h1])
      have V1 : B.firstV a = (B.first a, 0) := by unfold B.firstV; rw [if_pos h0]
      have V2 : B.firstV b = (⟨#[]⟩, B.chk b) := by unfold B.firstV; rw [if_neg h1]
      have hn : (B.chk b == 0) = false := by simpa using h1
      rw [V1] at C1
      rw [V2] at C2
      clear V1 V2 h0 h1
      generalize B.first a = f at *
      generalize B.chk b = c at *
      go_enter Try.func32, Try.ntmps32
      go_wp2_with (first | (go_at_call_of 30 (Value.string a); refine (C1.out _).mono ?_; rintro e w1 ⟨rfl, b1⟩; replace b1 := hid b1; clear C1) | (go_at_call_of 30 (Value.string b); refine (C2.out _).mono ?_; rintro e w2 ⟨rfl, b2⟩; replace b2 := hid b2))
      go_ret2
      exact ⟨by rw [HV.out]; rfl, b1.out.trans (b2.out.mono b1.out.size)⟩
  · have HV : Hid (B.sameV a b = (false, B.chk a)) := hid (by unfold B.sameV; rw [if_neg h0])
    have V1 : B.firstV a = (⟨#[]⟩, B.chk a) := by unfold B.firstV; rw [if_neg h0]
    have hn : (B.chk a != 0) = true := by simpa using h0
    rw [V1] at C1
    clear V1 h0
    generalize (B.firstV b).1 = g at *
    generalize (B.firstV b).2 = d at *
    generalize B.chk a = c at *
    go_enter Try.func32, Try.ntmps32
    go_wp2_with (first | (go_at_call_of 30 (Value.string a); refine (C1.out _).mono ?_; rintro e w1 ⟨rfl, b1⟩; replace b1 := hid b1; clear C1) | (go_at_call_of 30 (Value.string b); refine (C2.out _).mono ?_; rintro e w2 ⟨rfl, b2⟩; replace b2 := hid b2))
    go_ret2
    exact ⟨by rw [HV.out]; rfl, b1.out.trans (b2.out.mono b1.out.size)⟩

/-- The sum from 1 on. -/
def B.kept1 (n k : Nat) : Nat → Nat
  | 0 => 0
  | m + 1 => B.kept1 n k m + k ^ Nat.gcd n (m + 1)
theorem B.kept1_eq (n k : Nat) : ∀ m, B.kept1 n k m + k ^ n = B.keptTo n k (m + 1)
  | 0 => by rw [B.keptTo_succ]; simp [B.kept1, B.keptTo]
  | m + 1 => by
    rw [B.keptTo_succ n k (m + 1), ← B.kept1_eq n k m, B.kept1]
    omega
theorem B.kept1_end (n k : Nat) : B.kept1 n k n = B.keptTo n k n := by
  have h := B.kept1_eq n k n
  rw [B.keptTo_succ, Nat.gcd_self] at h
  omega
theorem B.kept1_le {n k : Nat} (hk : k ≤ 9) (hn : n ≤ 16) (h0 : 1 ≤ n) : ∀ m, B.kept1 n k m ≤ m * 1853020188851841
  | 0 => by simp [B.kept1]
  | m + 1 => by
    have := B.kept1_le hk hn h0 m
    unfold B.kept1
    have : Nat.gcd n (m + 1) ≤ n := Nat.gcd_le_left _ (by omega)
    have := B.pow_lt hk (n := Nat.gcd n (m + 1)) (by omega)
    omega

set_option maxHeartbeats 1000000 in
set_option maxRecDepth 100000 in
theorem refRings_good (n k : Nat) (w : World) (hn0 : 1 ≤ n) (hn1 : n ≤ 16) (hk0 : 1 ≤ k) (hk1 : k ≤ 9) :
    Calls Try.prog 34 #[.int .i64 n, .int .i64 k] w fun e w' => e = .returned (.tuple #[.int .i64 ((B.rings n k : Nat) : Int), .int .i64 0]) ∧ Below w.heap.size w w' := by
  have U1 := hid (fun w => B.is_any n 1 16 w)
  have U2 := hid (fun w => B.is_any k 1 9 w)
  rw [show decide ((1 : Int) ≤ (n : Int) ∧ (n : Int) ≤ 16) = true by rw [decide_eq_true_eq]; omega] at U1
  rw [show decide ((1 : Int) ≤ (k : Int) ∧ (k : Int) ≤ 9) = true by rw [decide_eq_true_eq]; omega] at U2
  have HV : Hid (B.rings n k = B.kept1 n k n / n) := hid (by unfold B.rings; rw [B.kept1_end])
  have HL := hid (B.kept1_le hk1 hn1 hn0)
  have HS : Hid (∀ m, B.kept1 n k (m + 1) = B.kept1 n k m + k ^ Nat.gcd n (m + 1)) := hid (fun m => rfl)
  go_enter Try.func34, Try.ntmps34
  go_wp2_with (first | (go_at_call_of 56 (Value.int .i64 (n : Int)); refine (U1.out _).mono ?_; rintro e w' ⟨rfl, rfl⟩) | (go_at_call_of 56 (Value.int .i64 (k : Int)); refine (U2.out _).mono ?_; rintro e w' ⟨rfl, rfl⟩))
  clear U1 U2
  go_loopw [6, 7] (fun x y wr => ∃ j : Nat, j ≤ n ∧ y = .int .i64 ((j : Int) + 1) ∧ x = .int .i64 (B.kept1 n k j : Nat) ∧ Below w.heap.size w wr) (fun _ y _ => n + 1 - (intOf y).toNat)
  case atStart => exact ⟨0, Nat.zero_le _, rfl, rfl, Below.refl _ _⟩
  case round =>
    obtain ⟨j, hj, rfl, rfl, hbel⟩ := hrel
    have HB := hid hbel; clear hbel
    by_cases hlt : j < n
    · have hle : ((j : Int) + 1) ≤ (n : Int) := by omega
      have HS1 := hid (HS.out j)
      have hl1 := HL.out j
      have hl2 := HL.out (j + 1)
      have hG16 : Nat.gcd n (j + 1) ≤ 16 := Nat.le_trans (Nat.gcd_le_left _ (by omega)) hn1
      go_wp2
      go_loopw [8, 9] (fun x y wr => ∃ c d : Nat, x = .int .i64 c ∧ y = .int .i64 d ∧ c ≤ 1000 ∧ d ≤ 1000 ∧ Nat.gcd c d = Nat.gcd n (j + 1) ∧ Below w.heap.size w wr) (fun _ y _ => (intOf y).toNat)
      case atStart => exact ⟨n, j + 1, rfl, by go_num, by omega, by omega, rfl, HB.out⟩
      case round =>
        obtain ⟨c, d, rfl, rfl, hc, hd, hg, hbel⟩ := hrel
        have HG := hid hg; clear hg
        have HB2 := hid hbel; clear hbel
        by_cases h0 : d = 0
        · have hz : ¬ (0 : Int) < (d : Int) := by omega
          have hG2 : c = Nat.gcd n (j + 1) := by have := HG.out; subst h0; simpa [Hid] using this
          rw [← hG2] at HS1 hG16
          clear h0 HG hG2
          go_wp2
          go_loop [10, 11] (fun x y => ∃ i : Nat, i ≤ c ∧ y = .int .i64 i ∧ x = .int .i64 (k ^ i : Nat)) (fun _ y => c - (intOf y).toNat)
          case atStart => exact ⟨0, Nat.zero_le _, rfl, by simp⟩
          case round =>
            obtain ⟨i, hi, rfl, rfl⟩ := hrel
            by_cases hic : i < c
            · have h1 := B.pow_lt hk1 (n := i + 1) (by omega)
              have h2 := B.pow_lt hk1 (n := i) (by omega)
              have HM : (k ^ i : Nat) * k = k ^ (i + 1) := (Nat.pow_succ k i).symm
              have HC : Hid (((k ^ i : Nat) : Int) * (k : Int) = ((k ^ (i + 1) : Nat) : Int)) := hid (by rw [← HM]; simp)
              have hw : IntKind.i64.wrap (((k ^ i : Nat) : Int) * (k : Int)) = ((k ^ (i + 1) : Nat) : Int) := by
                rw [HC.out]; exact IntWalk.i64_in _ ⟨by omega, by omega⟩
              generalize hx : (k ^ i : Nat) = x at *
              generalize hy : (k ^ (i + 1) : Nat) = y at *
              have HY := hid hy
              clear hx hy HM
              go_wp2
              go_round
              case rel => exact ⟨i + 1, by omega, by go_num, by rw [HY.out]⟩
              case measure => simp [intOf]; omega
            · have hie : i = c := by omega
              subst hie
              have h2 := B.pow_lt hk1 (n := i) (by omega)
              generalize (k ^ i : Nat) = x at *
              generalize B.kept1 n k j = y at *
              have hw : IntKind.i64.wrap ((y : Int) + (x : Int)) = ((B.kept1 n k (j + 1) : Nat) : Int) := by
                rw [HS1.out, IntWalk.i64_in _ ⟨by omega, by omega⟩]; simp
              generalize hz9 : B.kept1 n k (j + 1) = z at *
              have HZ := hid hz9
              clear hz9
              go_wp2
              go_roundw
              case rel => exact ⟨j + 1, by omega, by go_num, by rw [HZ.out], HB2.out⟩
              case measure => simp [intOf]; omega
        · have hz : (0 : Int) < (d : Int) := by omega
          have hz2 : ¬ (d : Int) = 0 := by omega
          have hm : c % d < d := Nat.mod_lt _ (by omega)
          have HN : Hid ((c : Int) % d = ((c % d : Nat) : Int)) := hid (by simp)
          have HG2 : Hid (Nat.gcd d (c % d) = Nat.gcd n (j + 1)) := hid (by rw [← HG.out, Nat.gcd_comm, ← Nat.gcd_rec, Nat.gcd_comm])
          clear h0
          go_wp2
          go_quiet (fail)
          go_wp2
          go_roundw
          case rel => exact ⟨d, c % d, rfl, by rw [HN.out], hd, by omega, HG2.out, below_drewN HB2.out _⟩
          case measure => simp [intOf]; omega
    · have hje : j = n := by omega
      subst hje
      have hz2 : ¬ (j : Int) = 0 := by omega
      have h2 := HL.out j
      have HD : Hid (((B.kept1 j k j : Nat) : Int) / (j : Int) = ((B.kept1 j k j / j : Nat) : Int)) := hid (by simp)
      generalize B.kept1 j k j = y at *
      have HW : Hid (wrap64 ((y : Int) / (j : Int)) = ((y / j : Nat) : Int)) := hid (by
        rw [HD.out]
        have : y / j ≤ y := Nat.div_le_self _ _
        generalize y / j = z at *
        exact IntWalk.wrap64_in _ ⟨by omega, by omega⟩)
      go_wp2
      go_ret2
      refine ⟨?_, HB.out⟩
      rw [HV.out]
      show Ending.returned (.tuple #[.int .i64 (wrap64 ((y : Int) / (j : Int))), .int .i64 0]) = _
      rw [HW.out]

set_option maxHeartbeats 400000 in
set_option maxRecDepth 100000 in
theorem refRings_any (n k : Int) (w : World) :
    Calls Try.prog 34 #[.int .i64 n, .int .i64 k] w fun e w' => e = .returned (.tuple #[.int .i64 (B.ringsV n k).1, .int .i64 (B.ringsV n k).2]) ∧ Below w.heap.size w w' := by
  obtain ⟨b1, hb1⟩ : ∃ b, decide (1 ≤ n ∧ n ≤ 16) = b := ⟨_, rfl⟩
  obtain ⟨b2, hb2⟩ : ∃ b, decide (1 ≤ k ∧ k ≤ 9) = b := ⟨_, rfl⟩
  have U1 := hid (fun w => B.is_any n 1 16 w)
  have U2 := hid (fun w => B.is_any k 1 9 w)
  rw [hb1] at U1
  rw [hb2] at U2
  cases b1 with
  | false =>
    have HV : Hid (B.ringsV n k = (0, 3)) := hid (by unfold B.ringsV; rw [if_neg]; rw [decide_eq_false_iff_not] at hb1; omega)
    clear hb1 hb2 U2
    go_enter Try.func34, Try.ntmps34
    go_wp2_with (refine (U1.out _).mono ?_; rintro e w' ⟨rfl, rfl⟩)
    go_ret2
    exact ⟨by rw [HV.out]; rfl, Below.refl _ _⟩
  | true =>
    cases b2 with
    | false =>
      have HV : Hid (B.ringsV n k = (0, 3)) := hid (by unfold B.ringsV; rw [if_neg]; rw [decide_eq_false_iff_not] at hb2; omega)
      clear hb1 hb2
      go_enter Try.func34, Try.ntmps34
      go_wp2_with (first | (go_at_call 56; refine (U1.out _).mono ?_; rintro e w' ⟨rfl, rfl⟩; clear U1) | (go_at_call 56; refine (U2.out _).mono ?_; rintro e w' ⟨rfl, rfl⟩))
      go_ret2
      exact ⟨by rw [HV.out]; rfl, Below.refl _ _⟩
    | true =>
      rw [decide_eq_true_eq] at hb1 hb2
      have hV : B.ringsV n k = (((B.rings n.toNat k.toNat : Nat) : Int), 0) := by unfold B.ringsV; rw [if_pos (by omega)]
      rw [hV]
      obtain ⟨m, rfl⟩ : ∃ m : Nat, n = m := ⟨n.toNat, by omega⟩
      obtain ⟨q, rfl⟩ : ∃ q : Nat, k = q := ⟨k.toNat, by omega⟩
      simp only [Int.toNat_natCast]
      exact refRings_good m q w (by omega) (by omega) (by omega) (by omega)
end Go.Proofs.Ytiodcgdjphmffaa
