/- The walks of the functions that compare lists, where these are equal. -/
import Derived.Test.YtlpdlnefgjmgmaaSpots
namespace Go.Proofs.Ytlpdlnefgjmgmaa
open Go.RowKit

/-- Worlds that part in draws alone. -/
def Quiet (w w' : World) : Prop := ∃ n, w' = w.drewN n

theorem Quiet.drewN {w w' : World} (h : Quiet w w') (q : Nat) : Quiet w (w'.drewN q) := by
  obtain ⟨n, rfl⟩ := h
  exact ⟨n + q, by rw [World.drewN_drewN]⟩

theorem Quiet.below {w w' : World} (h : Quiet w w') : Below w.heap.size w w' := by
  obtain ⟨n, rfl⟩ := h
  exact below_drewN (Below.refl _ _) n

set_option maxHeartbeats 1000000 in
theorem numbers_eq (a b : Option Addr) (ca cb : Nat) (xs : List Int) (w : World) (hm : xs.length ≤ maxLen) (ha : RdI w a xs) (hb : RdI w b xs) :
    Calls Try.prog 35 #[.slice a xs.length ca, .slice b xs.length cb] w fun e w' => e = .returned (.bool true) ∧ ∃ n, w' = w.drewN n := by
  unfold maxLen at hm
  have HA := hid ha
  have HB := hid hb
  clear ha hb
  have hne : ((xs.length : Int) != (xs.length : Int)) = false := by simp
  go_enter Try.func35, Try.ntmps35
  go_wp2
  go_loopw [5] (fun i wr => ∃ k : Nat, k ≤ xs.length ∧ i = .int .i64 k ∧ ∃ n, wr = w.drewN n) (fun i _ => xs.length - (intOf i).toNat)
  case atStart => exact ⟨0, Nat.zero_le _, rfl, 0, rfl⟩
  case round =>
    obtain ⟨k, hk, rfl, q, rfl⟩ := hrel
    by_cases hlt : k < xs.length
    · obtain ⟨b1, o1, rfl, c1⟩ := HA.out k hlt
      obtain ⟨b2, o2, rfl, c2⟩ := HB.out k hlt
      generalize xs[k] = x at *
      have hx : (x != x) = false := by simp
      have h1 : (0 : Int) ≤ (k : Int) ∧ (k : Int) < (xs.length : Int) := by omega
      go_wp2
      go_quiet (fail)
      go_wp2
      go_roundw
      case rel => exact ⟨k + 1, by omega, by go_num, _, rfl⟩
      case measure => simp [intOf]; omega
    · go_wp2
      go_ret
      exact ⟨rfl, q, rfl⟩

theorem numbers_eqn (a b : Option Addr) (n m ca cb : Nat) (xs ys : List Int) (w : World) (h : xs = ys) (hn : n = xs.length) (hn2 : m = xs.length) (hm : xs.length ≤ maxLen) (ha : RdI w a xs) (hb : RdI w b ys) :
    Calls Try.prog 35 #[.slice a n ca, .slice b m cb] w fun e w' => e = .returned (.bool true) ∧ ∃ n, w' = w.drewN n := by
  subst h hn hn2
  exact numbers_eq a b ca cb xs w hm ha hb

set_option maxHeartbeats 2000000 in
theorem tables_eq (a b : Option Addr) (ca cb : Nat) (T : List (List Int)) (w : World) (hm : T.length ≤ maxLen) (hr : ∀ k (h : k < T.length), T[k].length ≤ maxLen) (ha : RdM w a T) (hb : RdM w b T) :
    Calls Try.prog 33 #[.slice a T.length ca, .slice b T.length cb] w fun e w' => e = .returned (.bool true) ∧ ∃ n, w' = w.drewN n := by
  unfold maxLen at hm
  have HA := hid ha
  have HB := hid hb
  have HR := hid hr
  clear ha hb hr
  have hne : ((T.length : Int) != (T.length : Int)) = false := by simp
  go_enter Try.func33, Try.ntmps33
  go_wp2
  go_loopw [5] (fun i wr => ∃ k : Nat, k ≤ T.length ∧ i = .int .i64 k ∧ Quiet w wr) (fun i _ => T.length - (intOf i).toNat)
  case atStart => exact ⟨0, Nat.zero_le _, rfl, 0, rfl⟩
  case round =>
    obtain ⟨k, hk, rfl, hq⟩ := hrel
    have HQ := hid hq
    have hbq := hq.below
    clear hq
    by_cases hlt : k < T.length
    · obtain ⟨b1, o1, r1, cc1, rfl, c1, d1⟩ := (HA.out.stays hbq) k hlt
      obtain ⟨b2, o2, r2, cc2, rfl, c2, d2⟩ := (HB.out.stays hbq) k hlt
      have hl := HR.out k hlt
      generalize T[k] = xs at *
      have HC : Hid (∀ q, Calls Try.prog 35 #[.slice r1 xs.length cc1, .slice r2 xs.length cc2] (wr.drewN q) fun e w' => e = .returned (.bool true) ∧ ∃ n, w' = (wr.drewN q).drewN n) :=
        hid fun q => numbers_eq r1 r2 cc1 cc2 xs _ hl (d1.stays (below_drewN (Below.refl _ _) q)) (d2.stays (below_drewN (Below.refl _ _) q))
      have h1 : (0 : Int) ≤ (k : Int) ∧ (k : Int) < (T.length : Int) := by omega
      clear d1 d2 hl hbq
      go_wp2
      go_quiet ((go_at_call 35; exact Calls.quiet_of (HC.out _)))
      go_wp2
      go_roundw
      case rel => exact ⟨k + 1, by omega, by go_num, HQ.out.drewN _⟩
      case measure => simp [intOf]; omega
    · go_wp2
      go_ret
      exact ⟨rfl, HQ.out⟩

set_option maxHeartbeats 1000000 in
theorem fixes_eq (a b : Option Addr) (ca cb : Nat) (xs : List (Int × Int)) (w : World) (hm : xs.length ≤ maxLen) (ha : RdP w a xs) (hb : RdP w b xs) :
    Calls Try.prog 34 #[.slice a xs.length ca, .slice b xs.length cb] w fun e w' => e = .returned (.bool true) ∧ ∃ n, w' = w.drewN n := by
  unfold maxLen at hm
  have HA := hid ha
  have HB := hid hb
  clear ha hb
  have hne : ((xs.length : Int) != (xs.length : Int)) = false := by simp
  go_enter Try.func34, Try.ntmps34
  go_wp2
  go_loopw [5] (fun i wr => ∃ k : Nat, k ≤ xs.length ∧ i = .int .i64 k ∧ Quiet w wr) (fun i _ => xs.length - (intOf i).toNat)
  case atStart => exact ⟨0, Nat.zero_le _, rfl, 0, rfl⟩
  case round =>
    obtain ⟨k, hk, rfl, hq⟩ := hrel
    have HQ := hid hq
    have hbq := hq.below
    clear hq
    by_cases hlt : k < xs.length
    · obtain ⟨b1, o1, rfl, c1, d1⟩ := (HA.out.stays hbq) k hlt
      obtain ⟨b2, o2, rfl, c2, d2⟩ := (HB.out.stays hbq) k hlt
      generalize xs[k].1 = x at *
      generalize xs[k].2 = y at *
      have h1 : (0 : Int) ≤ (k : Int) ∧ (k : Int) < (xs.length : Int) := by omega
      go_wp2
      go_quiet (fail)
      go_wp2
      go_roundw
      case rel => exact ⟨k + 1, by omega, by go_num, HQ.out.drewN _⟩
      case measure => simp [intOf]; omega
    · go_wp2
      go_ret
      exact ⟨rfl, HQ.out⟩

end Go.Proofs.Ytlpdlnefgjmgmaa
