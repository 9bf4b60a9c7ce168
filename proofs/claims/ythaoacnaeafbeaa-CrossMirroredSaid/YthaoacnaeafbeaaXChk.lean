/- Package cross: the walks of within, checkAscending, Check, length. -/
import Derived.Test.YthaoacnaeafbeaaProg
import Derived.Test.YthaoacnaeafbeaaXPlain
import Derived.WalkKit
import Derived.BigQuiet
namespace Go.Proofs.Ythaoacnaeafbeaa
open Go.RowKit

theorem X.num {w : World} {a : Option Addr} {l : List Int} (h : RdI w a l) {i : Nat} (hi : i < l.length) :
    ∃ b off, a = some ⟨b, off, none⟩ ∧ w.cell? ⟨b, off + i, none⟩ = some (.int .i64 (l.getD i 0)) := by
  obtain ⟨b, off, h1, h2⟩ := h i hi
  have e : l.getD i 0 = l[i] := by rw [List.getD_eq_getElem?_getD, List.getElem?_eq_getElem hi]; rfl
  rw [e]
  exact ⟨b, off, h1, h2⟩

set_option maxHeartbeats 1000000 in
theorem within_any (n lo hi : Int) (w : World) : Calls Try.prog 53 #[.int .i64 n, .int .i64 lo, .int .i64 hi] w fun e w' => e = .returned (.bool (X.wi n lo hi)) ∧ w' = w := by
  by_cases h1 : lo ≤ n
  · by_cases h2 : n ≤ hi
    · have hr := X.wi_true.2 ⟨h1, h2⟩
      rw [hr]
      go_enter Try.func53, Try.ntmps53
      go_wp2
      go_ret
      exact ⟨ret_bool (by simp), rfl⟩
    · have hr : X.wi n lo hi = false := X.wi_false.2 (by omega)
      rw [hr]
      have h2' : decide (n ≤ hi) = false := by simpa using h2
      clear hr h2
      go_enter Try.func53, Try.ntmps53
      go_wp2
      go_ret
      exact ⟨ret_bool (by simp), rfl⟩
  · have hr : X.wi n lo hi = false := X.wi_false.2 (by omega)
    rw [hr]
    have h1' : decide (lo ≤ n) = false := by simpa using h1
    clear hr h1
    go_enter Try.func53, Try.ntmps53
    go_wp2
    go_ret
    exact ⟨ret_bool (by simp), rfl⟩

set_option maxHeartbeats 4000000 in
theorem ascending_any (a : Option Addr) (c : Nat) (l : List Int) (most : Int) (w : World) (hm : l.length ≤ maxLen) (hl : RdI w a l) :
    Calls Try.prog 51 #[.slice a l.length c, .int .i64 most] w fun e w' => e = .returned (.int .i64 (X.asc most l)) ∧ w' = w := by
  unfold maxLen at hm
  have HL := hid hl
  have HE : Hid (X.asc most l = X.fst (X.er most l) l.length) := hid rfl
  have HF : Hid (∀ k, X.er most l k = if X.wi (l.getD k 0) 0 most = false then (4 : Int) else if 0 < k ∧ l.getD k 0 ≤ l.getD (k - 1) 0 then 7 else 0) := hid (fun k => rfl)
  have HW := hid (fun x => within_any x 0 most w)
  generalize X.asc most l = r at *
  generalize X.er most l = f at *
  clear hl
  go_enter Try.func51, Try.ntmps51
  go_wp2
  go_loop [9] (fun i => ∃ k : Nat, k ≤ l.length ∧ i = .int .i64 k ∧ X.fst f k = 0) (fun i => l.length - (intOf i).toNat)
  case atStart => exact ⟨0, Nat.zero_le _, rfl, rfl⟩
  case round =>
    obtain ⟨k, hk, rfl, hz⟩ := hrel
    have HZ := hid hz
    clear hz
    by_cases hlt2 : k < l.length
    · obtain ⟨b2, o2, rfl, hck⟩ := X.num HL.out hlt2
      have HFK := hid (HF.out k)
      have HK : Hid (f k ≠ 0 → X.fst f l.length = f k) := hid (fun h => X.fst_at HZ.out hlt2 h)
      have HK2 : Hid (f k = 0 → X.fst f (k + 1) = 0) := hid (fun h => X.fst_step HZ.out h)
      have hkk : (0 : Int) ≤ (k : Int) ∧ (k : Int) < (l.length : Int) := by omega
      have HWX := hid (HW.out (l.getD k 0))
      by_cases hk0 : k = 0
      · subst hk0
        simp only [Nat.add_zero] at hck
        generalize l.getD 0 0 = x at *
        cases h1 : X.wi x 0 most with
        | false =>
          have HR : Hid (r = 4) := hid (by
            have e := HFK.out; rw [if_pos h1] at e
            rw [HE.out, HK.out (by omega), e])
          rw [h1] at HWX
          clear h1
          go_wp2_with fail
          refine HWX.out.mono ?_
          rintro e w2 ⟨rfl, rfl⟩
          go_wp2
          go_ret
          exact ⟨ret_int HR.out.symm, rfl⟩
        | true =>
          have HR := hid (HK2.out (by rw [HFK.out, if_neg (by rw [h1]; simp), if_neg (by omega)]))
          rw [h1] at HWX
          clear h1
          go_wp2_with fail
          refine HWX.out.mono ?_
          rintro e w2 ⟨rfl, rfl⟩
          go_wp2
          go_round
          case rel => exact ⟨0 + 1, by omega, by go_num, HR.out⟩
          case measure => simp [intOf]; omega
      · obtain ⟨b3, o3, he3, hcp⟩ := X.num HL.out (show k - 1 < l.length by omega)
        simp only [Option.some.injEq, Addr.mk.injEq, and_true] at he3
        obtain ⟨rfl, rfl⟩ := he3
        generalize l.getD k 0 = x at *
        generalize l.getD (k - 1) 0 = y at *
        have hk1 : (0 : Int) < (k : Int) := by omega
        have hk2 : ((k - 1 : Nat) : Int) = (k : Int) - 1 := by omega
        have hk3 : (0 : Int) ≤ (k : Int) - 1 ∧ (k : Int) - 1 < (l.length : Int) := by omega
        have hk4 : ((k : Int) - 1).toNat = k - 1 := by omega
        cases h1 : X.wi x 0 most with
        | false =>
          have HR : Hid (r = 4) := hid (by
            have e := HFK.out; rw [if_pos h1] at e
            rw [HE.out, HK.out (by omega), e])
          rw [h1] at HWX
          clear h1
          go_wp2_with fail
          refine HWX.out.mono ?_
          rintro e w2 ⟨rfl, rfl⟩
          go_wp2
          go_ret
          exact ⟨ret_int HR.out.symm, rfl⟩
        | true =>
          by_cases h3 : x ≤ y
          · have HR : Hid (r = 7) := hid (by
              have e := HFK.out; rw [if_neg (by rw [h1]; simp), if_pos (by omega)] at e
              rw [HE.out, HK.out (by omega), e])
            rw [h1] at HWX
            clear h1
            go_wp2_with fail
            refine HWX.out.mono ?_
            rintro e w2 ⟨rfl, rfl⟩
            go_wp2
            go_ret
            exact ⟨ret_int HR.out.symm, rfl⟩
          · have h3' : decide (x ≤ y) = false := by simpa using h3
            have HR := hid (HK2.out (by rw [HFK.out, if_neg (by rw [h1]; simp), if_neg (by omega)]))
            rw [h1] at HWX
            clear h1
            go_wp2_with fail
            refine HWX.out.mono ?_
            rintro e w2 ⟨rfl, rfl⟩
            go_wp2
            go_round
            case rel => exact ⟨k + 1, by omega, by go_num, HR.out⟩
            case measure => simp [intOf]; omega
    · have hke : k = l.length := by omega
      subst hke
      go_wp2
      go_ret
      exact ⟨ret_int (by rw [HE.out, HZ.out]), rfl⟩

set_option maxHeartbeats 1000000 in
theorem check_any (a : Option Addr) (c : Nat) (l : List Int) (w : World) (hm : l.length ≤ maxLen) (hl : RdI w a l) :
    Calls Try.prog 23 #[.slice a l.length c] w fun e w' => e = .returned (.int .i64 (X.chk l)) ∧ w' = w := by
  have HA := hid (ascending_any a c l 60 w hm hl)
  have hmm := hm
  unfold maxLen at hmm
  by_cases h1 : l.length < 2
  · have HR : Hid (X.chk l = 1) := hid (by unfold X.chk; rw [if_pos h1])
    have h1' : decide ((l.length : Int) < 2) = true := by simp; omega
    go_enter Try.func23, Try.ntmps23
    go_wp2
    go_ret
    exact ⟨ret_int HR.out.symm, rfl⟩
  · have h1' : decide ((l.length : Int) < 2) = false := by simp; omega
    by_cases h2 : 8 < l.length
    · have HR : Hid (X.chk l = 2) := hid (by unfold X.chk; rw [if_neg h1, if_pos h2])
      have h2' : decide ((8 : Int) < (l.length : Int)) = true := by simp; omega
      go_enter Try.func23, Try.ntmps23
      go_wp2
      go_ret
      exact ⟨ret_int HR.out.symm, rfl⟩
    · have HR : Hid (X.chk l = X.asc 60 l) := hid (by unfold X.chk; rw [if_neg h1, if_neg h2])
      have h2' : decide ((8 : Int) < (l.length : Int)) = false := by simp; omega
      go_enter Try.func23, Try.ntmps23
      go_wp2_with fail
      refine HA.out.mono ?_
      rintro e w2 ⟨rfl, rfl⟩
      go_wp2
      go_ret
      exact ⟨ret_int HR.out.symm, rfl⟩

set_option maxHeartbeats 1000000 in
theorem length_any (a : Option Addr) (c : Nat) (l : List Int) (w : World) (hl : RdI w a l) (hk : X.Ok l) :
    Calls Try.prog 66 #[.slice a l.length c] w fun e w' => e = .returned (.int .i64 (l.getD (l.length - 1) 0 - l.getD 0 0)) ∧ ∃ q, w' = w.drewN q := by
  have h2 := hk.two
  have h8 := hk.eight
  obtain ⟨b, o, rfl, c0⟩ := X.num hl (show 0 < l.length by omega)
  obtain ⟨b', o', he, c1⟩ := X.num hl (show l.length - 1 < l.length by omega)
  simp only [Option.some.injEq, Addr.mk.injEq, and_true] at he
  obtain ⟨rfl, rfl⟩ := he
  have HRG := hk.rng (show 0 < l.length - 1 by omega) (by omega)
  have h3 := hk.up.lo 0 (by omega)
  clear hl hk
  simp only [Nat.add_zero] at c0
  generalize l.getD (l.length - 1) 0 = y at *
  generalize l.getD 0 0 = x at *
  have hk2 : ((l.length - 1 : Nat) : Int) = (l.length : Int) - 1 := by omega
  have hk3 : (0 : Int) ≤ (l.length : Int) - 1 ∧ (l.length : Int) - 1 < (l.length : Int) := by omega
  have hk4 : ((l.length : Int) - 1).toNat = l.length - 1 := by omega
  have hk5 : (0 : Int) ≤ 0 ∧ (0 : Int) < (l.length : Int) := by omega
  have hk6 : (0 : Int) < (l.length : Int) := by omega
  have hw1 : IntKind.i64.wrap (y - x) = y - x := IntWalk.i64_in _ (by omega)
  go_enter Try.func66, Try.ntmps66
  go_wp2
  go_quiet (fail)
  go_wp2
  go_ret
  exact ⟨rfl, _, rfl⟩
end Go.Proofs.Ythaoacnaeafbeaa
