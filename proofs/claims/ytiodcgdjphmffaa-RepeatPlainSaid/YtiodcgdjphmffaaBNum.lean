/- Package repeat: commonDivisor, power, upTo, Rings. -/
import Derived.Test.YtiodcgdjphmffaaBChk
import Derived.Deep.QuietTactic
import Derived.Deep.RegionWith
namespace Go.Proofs.Ytiodcgdjphmffaa
open Go.RowKit

set_option maxHeartbeats 400000 in
theorem cd_any (a b : Nat) (w : World) (ha : a ≤ 1000) (hb : b ≤ 1000) :
    Calls Try.prog 61 #[.int .i64 a, .int .i64 b] w fun e w' => e = .returned (.int .i64 (Nat.gcd a b : Nat)) ∧ Below w.heap.size w w' := by
  go_enter Try.func61, Try.ntmps61
  go_wp2
  go_loopw [0, 1] (fun x y wr => ∃ c d : Nat, x = .int .i64 c ∧ y = .int .i64 d ∧ c ≤ 1000 ∧ d ≤ 1000 ∧ Nat.gcd c d = Nat.gcd a b ∧ Below w.heap.size w wr) (fun _ y _ => (intOf y).toNat)
  case atStart => exact ⟨a, b, rfl, rfl, ha, hb, rfl, Below.refl _ _⟩
  case round =>
    obtain ⟨c, d, rfl, rfl, hc, hd, hg, hbel⟩ := hrel
    have HG := hid hg; clear hg
    have HB := hid hbel; clear hbel
    by_cases h0 : d = 0
    · have hz : ((d : Int) != 0) = false := by simp; omega
      have hG2 : Hid (c = Nat.gcd a b) := by have := HG.out; subst h0; simpa [Hid] using this
      clear h0
      go_wp2
      go_ret
      exact ⟨ret_int (by rw [← hG2.out]), HB.out⟩
    · have hz : ((d : Int) != 0) = true := by simp; omega
      have hz2 : ¬ (d : Int) = 0 := by omega
      have hz3 : (1 : Int) ≤ d := by omega
      have hm : c % d < d := Nat.mod_lt _ (by omega)
      have HN : Hid ((c : Int) % d = ((c % d : Nat) : Int)) := hid (by simp)
      have HG2 : Hid (Nat.gcd d (c % d) = Nat.gcd a b) := hid (by rw [← HG.out, Nat.gcd_comm, ← Nat.gcd_rec, Nat.gcd_comm])
      clear h0
      go_wp2
      go_quiet (fail)
      go_wp2
      go_roundw
      case rel => exact ⟨d, c % d, rfl, by rw [HN.out], hd, by omega, HG2.out, below_drewN HB.out _⟩
      case measure => simp [intOf]; omega

theorem B.pow_lt {k n : Nat} (hk : k ≤ 9) (hn : n ≤ 16) : k ^ n ≤ 1853020188851841 := by
  have h1 := B.pow_le hk n
  have h2 : 9 ^ n ≤ 9 ^ 16 := Nat.pow_le_pow_right (by decide) hn
  have h3 : (9 : Nat) ^ 16 = 1853020188851841 := by decide
  omega

set_option maxHeartbeats 400000 in
theorem power_any (k n : Nat) (w : World) (hk : k ≤ 9) (hn : n ≤ 16) :
    Calls Try.prog 60 #[.int .i64 k, .int .i64 n] w fun e w' => e = .returned (.int .i64 (k ^ n : Nat)) ∧ w = w' := by
  go_enter Try.func60, Try.ntmps60
  go_wp2
  go_loop [5, 7] (fun x y => ∃ j : Nat, j ≤ n ∧ y = .int .i64 j ∧ x = .int .i64 (k ^ j : Nat)) (fun _ y => n - (intOf y).toNat)
  case atStart => exact ⟨0, Nat.zero_le _, rfl, by simp⟩
  case round =>
    obtain ⟨j, hj, rfl, rfl⟩ := hrel
    by_cases hlt : j < n
    · have h1 := B.pow_lt hk (n := j + 1) (by omega)
      have h2 := B.pow_lt hk (n := j) (by omega)
      have HP := hid (Nat.pow_succ k j)
      have HM : (k ^ j : Nat) * k = k ^ (j + 1) := (Nat.pow_succ k j).symm
      have HC : Hid (((k ^ j : Nat) : Int) * (k : Int) = ((k ^ (j + 1) : Nat) : Int)) := hid (by rw [← HM]; simp)
      have hw : IntKind.i64.wrap (((k ^ j : Nat) : Int) * (k : Int)) = ((k ^ (j + 1) : Nat) : Int) := by
        rw [HC.out]; exact IntWalk.i64_in _ ⟨by omega, by omega⟩
      generalize hx : (k ^ j : Nat) = x at *
      generalize hy : (k ^ (j + 1) : Nat) = y at *
      have HY := hid hy
      clear hx hy HM HP
      go_wp2
      go_round
      case rel => exact ⟨j + 1, by omega, by go_num, by rw [HY.out]⟩
      case measure => simp [intOf]; omega
    · have hje : j = n := by omega
      subst hje
      go_wp2
      go_ret
      exact ⟨rfl, rfl⟩

theorem upTo_any (n l : Int) (b : Bool) (w : World) (hb : decide (1 ≤ n ∧ n ≤ l) = b) :
    Calls Try.prog 53 #[.int .i64 n, .int .i64 l] w fun e w' => e = .returned (.bool b) ∧ w = w' := by
  by_cases h1 : 1 ≤ n
  · have hb' : decide (n ≤ l) = b := by rw [← hb]; congr 1; simp [h1]
    clear hb
    go_enter Try.func53, Try.ntmps53
    go_wp2
    go_ret
    exact ⟨rfl, rfl⟩
  · have hb' : b = false := by rw [← hb, decide_eq_false_iff_not]; omega
    subst hb'
    clear hb
    go_enter Try.func53, Try.ntmps53
    go_wp2
    go_ret
    exact ⟨ret_bool rfl, rfl⟩
end Go.Proofs.Ytiodcgdjphmffaa
