/- Package tuscheref11: the walks of is and Check. -/
import Derived.Test.YthaoacnaeafbeaaXMet
import Derived.Deep.QuietTactic
namespace Go.Proofs.Ythaoacnaeafbeaa
open Go.RowKit

theorem isOne_any (n lo hi : Int) (w : World) : Calls Try.prog 74 #[.int .i64 n, .int .i64 lo, .int .i64 hi] w fun e w' => e = .returned (.bool (X.wi n lo hi)) ∧ w' = w := by
  by_cases h1 : lo ≤ n
  · by_cases h2 : n ≤ hi
    · have hr := X.wi_true.2 ⟨h1, h2⟩
      rw [hr]
      go_enter Try.func74, Try.ntmps74
      go_wp2
      go_ret
      exact ⟨ret_bool (by simp), rfl⟩
    · have hr : X.wi n lo hi = false := X.wi_false.2 (by omega)
      rw [hr]
      have h2' : decide (n ≤ hi) = false := by simpa using h2
      clear hr h2
      go_enter Try.func74, Try.ntmps74
      go_wp2
      go_ret
      exact ⟨ret_bool (by simp), rfl⟩
  · have hr : X.wi n lo hi = false := X.wi_false.2 (by omega)
    rw [hr]
    have h1' : decide (lo ≤ n) = false := by simpa using h1
    clear hr h1
    go_enter Try.func74, Try.ntmps74
    go_wp2
    go_ret
    exact ⟨ret_bool (by simp), rfl⟩
theorem is_any (n lo hi : Int) (w : World) : Calls Try.prog 52 #[.int .i64 n, .int .i64 lo, .int .i64 hi] w fun e w' => e = .returned (.bool (X.wi n lo hi)) ∧ w' = w := by
  have HI := hid (isOne_any n lo hi w)
  generalize X.wi n lo hi = b at *
  go_enter Try.func52, Try.ntmps52
  go_wp2_with fail
  refine HI.out.mono ?_
  rintro e w' ⟨rfl, rfl⟩
  go_wp2
  go_ret
  exact ⟨rfl, rfl⟩

set_option maxHeartbeats 4000000 in
theorem refCheck_any (a : Option Addr) (c : Nat) (l : List Int) (w : World) (hm : l.length ≤ maxLen) (hl : RdI w a l) :
    Calls Try.prog 24 #[.slice a l.length c] w fun e w' => e = .returned (.int .i64 (X.chk l)) ∧ Below w.heap.size w w' := by
  unfold maxLen at hm
  have HBW : Hid (∀ n, Below w.heap.size w (w.drewN n)) := hid (fun n => below_drewN (Below.refl _ _) n)
  by_cases h1 : l.length < 2
  · have HR : Hid (X.chk l = 1) := hid (by unfold X.chk; rw [if_pos h1])
    have h1' : decide ((l.length : Int) < 2) = true := by simp; omega
    go_enter Try.func24, Try.ntmps24
    go_wp2
    go_ret
    exact ⟨ret_int HR.out.symm, HBW.out 0⟩
  have h1' : decide ((l.length : Int) < 2) = false := by simp; omega
  by_cases h2 : 8 < l.length
  · have HR : Hid (X.chk l = 2) := hid (by unfold X.chk; rw [if_neg h1, if_pos h2])
    have h2' : decide ((8 : Int) < (l.length : Int)) = true := by simp; omega
    go_enter Try.func24, Try.ntmps24
    go_wp2
    go_ret
    exact ⟨ret_int HR.out.symm, HBW.out 0⟩
  have h2' : decide ((8 : Int) < (l.length : Int)) = false := by simp; omega
  have HE : Hid (X.chk l = X.fst (X.er 60 l) l.length) := hid (by unfold X.chk; rw [if_neg h1, if_neg h2]; rfl)
  have HL := hid hl
  have HF : Hid (∀ k, X.er 60 l k = if X.wi (l.getD k 0) 0 60 = false then (4 : Int) else if 0 < k ∧ l.getD k 0 ≤ l.getD (k - 1) 0 then 7 else 0) := hid (fun k => rfl)
  have HI := hid (fun x W => is_any x 0 60 W)
  generalize X.chk l = r at *
  generalize X.er 60 l = f at *
  clear hl h1 h2
  go_enter Try.func24, Try.ntmps24
  go_wp2
  go_loopw [3] (fun i wr => ∃ k : Nat, k ≤ l.length ∧ i = .int .i64 k ∧ X.fst f k = 0 ∧ ∃ q, wr = w.drewN q) (fun i _ => l.length - (intOf i).toNat)
  case atStart => exact ⟨0, Nat.zero_le _, rfl, rfl, 0, rfl⟩
  case round =>
    obtain ⟨k, hk, rfl, hz, q, rfl⟩ := hrel
    have HZ := hid hz
    clear hz
    by_cases hlt2 : k < l.length
    · obtain ⟨b2, o2, rfl, hck⟩ := X.num HL.out hlt2
      have HFK := hid (HF.out k)
      have HK : Hid (f k ≠ 0 → X.fst f l.length = f k) := hid (fun h => X.fst_at HZ.out hlt2 h)
      have HK2 : Hid (f k = 0 → X.fst f (k + 1) = 0) := hid (fun h => X.fst_step HZ.out h)
      have hkk : (0 : Int) ≤ (k : Int) ∧ (k : Int) < (l.length : Int) := by omega
      have HIX := hid (fun W => HI.out (l.getD k 0) W)
      by_cases hk0 : k = 0
      · subst hk0
        simp only [Nat.add_zero] at hck
        generalize l.getD 0 0 = x at *
        have hnk : ¬ ((0 : Int) < 0) := by omega
        cases h1 : X.wi x 0 60 with
        | false =>
          have HR : Hid (r = 4) := hid (by
            have e := HFK.out; rw [if_pos h1] at e
            rw [HE.out, HK.out (by omega), e])
          rw [h1] at HIX
          clear h1
          go_wp2_with fail
          refine (HIX.out _).mono ?_
          rintro e w2 ⟨rfl, rfl⟩
          go_wp2
          go_ret
          exact ⟨ret_int HR.out.symm, HBW.out _⟩
        | true =>
          have HR := hid (HK2.out (by rw [HFK.out, if_neg (by rw [h1]; simp), if_neg (by omega)]))
          rw [h1] at HIX
          clear h1
          go_wp2_with fail
          refine (HIX.out _).mono ?_
          rintro e w2 ⟨rfl, rfl⟩
          go_wp2
          go_quiet (fail)
          go_wp2
          go_roundw
          case rel => exact ⟨0 + 1, by omega, by go_num, HR.out, _, rfl⟩
          case measure => simp [intOf]; omega
      · obtain ⟨b3, o3, he3, hcp⟩ := X.num HL.out (show k - 1 < l.length by omega)
        simp only [Option.some.injEq, Addr.mk.injEq, and_true] at he3
        obtain ⟨rfl, rfl⟩ := he3
        generalize l.getD k 0 = x at *
        generalize l.getD (k - 1) 0 = y at *
        have hk1 : (0 : Int) < (k : Int) := by omega
        have hk1d : decide ((0 : Int) < (k : Int)) = true := by simpa using hk1
        have hk1e : decide (0 < k) = true := by simp; omega
        have hk2 : ((k - 1 : Nat) : Int) = (k : Int) - 1 := by omega
        have hk3 : (0 : Int) ≤ (k : Int) - 1 ∧ (k : Int) - 1 < (l.length : Int) := by omega
        have hk4 : ((k : Int) - 1).toNat = k - 1 := by omega
        cases h1 : X.wi x 0 60 with
        | false =>
          have HR : Hid (r = 4) := hid (by
            have e := HFK.out; rw [if_pos h1] at e
            rw [HE.out, HK.out (by omega), e])
          rw [h1] at HIX
          clear h1
          go_wp2_with fail
          refine (HIX.out _).mono ?_
          rintro e w2 ⟨rfl, rfl⟩
          go_wp2
          go_ret
          exact ⟨ret_int HR.out.symm, HBW.out _⟩
        | true =>
          by_cases h3 : x ≤ y
          · have HR : Hid (r = 7) := hid (by
              have e := HFK.out; rw [if_neg (by rw [h1]; simp), if_pos (by omega)] at e
              rw [HE.out, HK.out (by omega), e])
            rw [h1] at HIX
            have h3' : decide (x ≤ y) = true := by simpa using h3
            clear h1
            go_wp2_with fail
            refine (HIX.out _).mono ?_
            rintro e w2 ⟨rfl, rfl⟩
            go_wp2
            go_quiet (fail)
            go_wp2
            go_ret
            first | exact ⟨ret_int HR.out.symm, HBW.out _⟩ | exact ⟨ret_int HR.out.symm, below_drewN (HBW.out _) _⟩
          · have h3' : decide (x ≤ y) = false := by simpa using h3
            have HR := hid (HK2.out (by rw [HFK.out, if_neg (by rw [h1]; simp), if_neg (by omega)]))
            rw [h1] at HIX
            clear h1
            go_wp2_with fail
            refine (HIX.out _).mono ?_
            rintro e w2 ⟨rfl, rfl⟩
            go_wp2
            go_quiet (fail)
            go_wp2
            go_roundw
            case rel => exact ⟨k + 1, by omega, by go_num, HR.out, _, rfl⟩
            case measure => simp [intOf]; omega
    · have hke : k = l.length := by omega
      subst hke
      go_wp2
      go_ret
      exact ⟨ret_int (by rw [HE.out, HZ.out]), HBW.out _⟩
end Go.Proofs.Ythaoacnaeafbeaa
