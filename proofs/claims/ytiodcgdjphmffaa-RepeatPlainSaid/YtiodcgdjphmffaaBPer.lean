/- Package repeat: isPeriod, samePeriods, covers. -/
import Derived.Test.YtiodcgdjphmffaaBFirst
import Derived.Test.YtiodcgdjphmffaaBRow
namespace Go.Proofs.Ytiodcgdjphmffaa
open Go.RowKit

/-- The numbers from 1 to n that are wanted. -/
def B.sel (f : Nat → Bool) : Nat → List Int
  | 0 => []
  | k + 1 => if f (k + 1) then B.sel f k ++ [((k + 1 : Nat) : Int)] else B.sel f k
theorem B.sel_len (f : Nat → Bool) : ∀ n, (B.sel f n).length ≤ n
  | 0 => Nat.le_refl _
  | n + 1 => by
    have := B.sel_len f n
    unfold B.sel
    split
    · rw [List.length_append]; simp; omega
    · omega
theorem B.sel_hit {f : Nat → Bool} {k : Nat} (h : f (k + 1) = true) : B.sel f (k + 1) = B.sel f k ++ [((k + 1 : Nat) : Int)] := by rw [B.sel, if_pos h]
theorem B.sel_miss {f : Nat → Bool} {k : Nat} (h : f (k + 1) = false) : B.sel f (k + 1) = B.sel f k := by rw [B.sel, if_neg (by rw [h]; decide)]

theorem isPeriod_any (s : ByteArray) (p : Nat) (w : World) (hp : p ≤ s.size) :
    Calls Try.prog 66 #[.string s, .int .i64 p] w fun e w' => e = .returned (.bool (B.per s.data.toList p)) ∧ w' = w := by
  have HP := hid (fun w => hasPrefix_any s (s.extract p s.size) w)
  rw [B.drop_data] at HP
  go_enter Try.func66, Try.ntmps66
  go_wp2_with (refine (HP.out _).mono ?_; rintro e w' ⟨rfl, rfl⟩)
  go_ret
  exact ⟨rfl, rfl⟩

theorem B.same_succ (a b : List UInt8) (n : Nat) : ((List.range (n + 1)).all fun p => p == 0 || B.per a p == B.per b p) = (((List.range n).all fun p => p == 0 || B.per a p == B.per b p) && (n == 0 || B.per a n == B.per b n)) := by
  rw [List.range_succ, List.all_append]; simp
theorem B.same_false {a b : List UInt8} {n : Nat} (h0 : n ≠ 0) (h : n < a.length) (he : B.per a n ≠ B.per b n) : B.same a b = false := by
  unfold B.same
  rw [List.all_eq_false]
  exact ⟨n, by simpa using h, by simp [h0, he]⟩

set_option maxHeartbeats 400000 in
set_option maxRecDepth 100000 in
theorem samePeriods_any (a b : ByteArray) (w : World) (hb : b.size = a.size) (h1 : a.size ≤ 1000) :
    Calls Try.prog 58 #[.string a, .string b] w fun e w' => e = .returned (.bool (B.same a.data.toList b.data.toList)) ∧ w' = w := by
  have HS := hid (B.same_succ a.data.toList b.data.toList)
  have HF := hid (fun n => B.same_false (a := a.data.toList) (b := b.data.toList) (n := n))
  have HE : Hid (B.same a.data.toList b.data.toList = (List.range a.size).all fun p => p == 0 || B.per a.data.toList p == B.per b.data.toList p) := hid (by unfold B.same; rw [B.len])
  have C1 := hid (fun p w (h : p ≤ a.size) => isPeriod_any a p w h)
  have C2 := hid (fun p w (h : p ≤ a.size) => isPeriod_any b p w (by omega))
  have hl := B.len a
  go_enter Try.func58, Try.ntmps58
  go_wp2
  go_loop [5] (fun y => ∃ j : Nat, 1 ≤ j ∧ (j ≤ a.size ∨ j = 1) ∧ y = .int .i64 j ∧ ((List.range j).all fun p => p == 0 || B.per a.data.toList p == B.per b.data.toList p) = true) (fun y => a.size - (intOf y).toNat)
  case atStart => exact ⟨1, by omega, by omega, rfl, by simp [List.range_succ]⟩
  case round =>
    obtain ⟨j, hj1, hj, rfl, ha⟩ := hrel
    have HA := hid ha; clear ha
    by_cases hlt : j < a.size
    · have HS1 := hid (HS.out j)
      have HF1 := hid (HF.out j (by omega) (by rw [hl]; exact hlt))
      have D1 := hid (fun w => C1.out j w (by omega))
      have D2 := hid (fun w => C2.out j w (by omega))
      clear hl
      generalize B.per a.data.toList j = x at *
      generalize B.per b.data.toList j = y at *
      by_cases hxy : x = y
      · subst hxy
        have HA2 : Hid (((List.range (j + 1)).all fun p => p == 0 || B.per a.data.toList p == B.per b.data.toList p) = true) := hid (by rw [HS1.out, HA.out]; simp)
        clear HS1 HF1
        go_wp2_with (first | (go_at_call_of 66 (Value.string a); refine (D1.out _).mono ?_; rintro e w' ⟨rfl, rfl⟩; clear D1) | (go_at_call_of 66 (Value.string b); refine (D2.out _).mono ?_; rintro e w' ⟨rfl, rfl⟩))
        go_round
        case rel => exact ⟨j + 1, by omega, by omega, by go_num, HA2.out⟩
        case measure => simp [intOf]; omega
      · have HF2 := hid (HF1.out hxy)
        have hne : (x == y) = false := by simpa using hxy
        clear hxy HF1
        go_wp2_with (first | (go_at_call_of 66 (Value.string a); refine (D1.out _).mono ?_; rintro e w' ⟨rfl, rfl⟩; clear D1) | (go_at_call_of 66 (Value.string b); refine (D2.out _).mono ?_; rintro e w' ⟨rfl, rfl⟩))
        go_ret
        exact ⟨ret_bool HF2.out.symm, rfl⟩
    · have HV : Hid (B.same a.data.toList b.data.toList = true) := hid (by
        rw [HE.out]
        have h2 := HA.out
        rcases hj with h | h
        · rw [show a.size = j from by omega]; exact h2
        · subst h
          rcases Nat.lt_or_ge 0 a.size with h3 | h3
          · rw [show a.size = 1 from by omega]; exact h2
          · rw [show a.size = 0 from by omega]; rfl)
      go_wp2
      go_ret
      exact ⟨ret_bool HV.out.symm, rfl⟩

theorem B.cov_eq (s : ByteArray) (k : Nat) : B.cov s.data.toList k = (B.covTo s.data.toList k s.size == s.size) := by unfold B.cov; rw [B.len]

theorem quiet_mk {P : Program} {f : FuncId} {args : Array Value} {w : World} {v : Value} (h : ∀ w, Calls P f args w fun e w' => e = .returned v ∧ w' = w) (n : Nat) : Calls P f args (w.drewN n) fun e w'' => e = .returned v ∧ ∃ m, w'' = w.drewN m := Calls.quiet_of_same (h _)

set_option maxHeartbeats 400000 in
set_option maxRecDepth 100000 in
theorem covers_any (s : ByteArray) (k : Nat) (w : World) (hm : s.size ≤ 1000) (hk : k ≤ s.size) :
    Calls Try.prog 51 #[.string s, .int .i64 k] w fun e w' => e = .returned (.bool (B.cov s.data.toList k)) ∧ Below w.heap.size w w' := by
  have HV := hid (B.cov_eq s k)
  have HS := hid (B.covTo_succ s.data.toList k)
  have HL := hid (fun n (h : n ≤ s.size) => B.covTo_le s.data.toList k n (by rw [B.len]; exact h) (by rw [B.len]; exact hk))
  have hl := B.len s
  have HP := hid (fun j w => hasPrefix_any (s.extract j s.size) (s.extract 0 k) w)
  simp only [B.drop_data, B.take_data] at HP
  rw [hl] at HL
  clear hl
  go_enter Try.func51, Try.ntmps51
  go_wp2
  go_loopw [5, 9] (fun x y wr => ∃ j : Nat, j ≤ s.size ∧ y = .int .i64 j ∧ x = .int .i64 (B.covTo s.data.toList k j : Nat) ∧ Below w.heap.size w wr) (fun _ y _ => s.size - (intOf y).toNat)
  case atStart => exact ⟨0, Nat.zero_le _, rfl, rfl, Below.refl _ _⟩
  case round =>
    obtain ⟨j, hj, rfl, rfl, hbel⟩ := hrel
    have HB := hid hbel; clear hbel
    have hle := HL.out j hj
    by_cases hlt : j < s.size
    · have HS1 := hid (HS.out j)
      have HP1 := hid (fun w => HP.out j w)
      generalize B.covTo s.data.toList k j = x at *
      have HPX : Hid (Lib.hasPrefix (s.data.toList.drop j) (s.data.toList.take k) = (s.data.toList.take k).isPrefixOf (s.data.toList.drop j)) := hid rfl
      generalize Lib.hasPrefix (s.data.toList.drop j) (s.data.toList.take k) = b at *
      by_cases hjx : j ≤ x
      · cases b with
        | true =>
          have HS2 : Hid (B.covTo s.data.toList k (j + 1) = j + k) := hid (by rw [HS1.out, ← HPX.out]; simp [hjx])
          clear HS1 HPX
          go_wp2
          go_quiet (first | (go_at_call 68; exact quiet_mk HP1.out _))
          go_wp2
          go_roundw
          case rel => exact ⟨j + 1, by omega, by go_num, by rw [HS2.out]; go_num, below_drewN HB.out _⟩
          case measure => simp [intOf]; omega
        | false =>
          have HS2 : Hid (B.covTo s.data.toList k (j + 1) = x) := hid (by rw [HS1.out, ← HPX.out]; simp)
          clear HS1 HPX
          go_wp2
          go_quiet (first | (go_at_call 68; exact quiet_mk HP1.out _))
          go_wp2
          go_roundw
          case rel => exact ⟨j + 1, by omega, by go_num, by rw [HS2.out], below_drewN HB.out _⟩
          case measure => simp [intOf]; omega
      · have HS2 : Hid (B.covTo s.data.toList k (j + 1) = x) := hid (by rw [HS1.out]; simp [hjx])
        have hd : decide ((j : Int) ≤ (x : Int)) = false := by simp; omega
        clear HS1 HPX
        go_wp2
        go_quiet (first | (go_at_call 68; exact quiet_mk HP1.out _))
        go_wp2
        go_roundw
        case rel => exact ⟨j + 1, by omega, by go_num, by rw [HS2.out], below_drewN HB.out _⟩
        case measure => simp [intOf]; omega
    · have hje : j = s.size := by omega
      subst hje
      have HE : Hid ((((B.covTo s.data.toList k s.size : Nat) : Int) == (s.size : Int)) = B.cov s.data.toList k) := hid (by rw [HV.out]; rw [Bool.eq_iff_iff]; simp; omega)
      go_wp2
      go_ret
      exact ⟨ret_bool HE.out, HB.out⟩
end Go.Proofs.Ytiodcgdjphmffaa
