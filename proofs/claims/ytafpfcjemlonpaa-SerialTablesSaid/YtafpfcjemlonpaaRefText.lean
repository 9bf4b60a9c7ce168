/- The walks of the document's own answers for Name and Value. -/
import Derived.Test.YtafpfcjemlonpaaText
namespace Go.Proofs.Ytafpfcjemlonpaa
open Go.RowKit

set_option maxHeartbeats 400000 in
theorem is_any (n lo hi : Int) (w : World) :
    Calls Try.prog 57 #[.int .i64 n, .int .i64 lo, .int .i64 hi] w fun e w' => e = .returned (.bool (decide (lo ≤ n ∧ n ≤ hi))) ∧ w = w' := by
  by_cases h1 : lo ≤ n
  · by_cases h2 : n ≤ hi
    · rw [decide_eq_true ⟨h1, h2⟩]
      go_enter Try.func57, Try.ntmps57
      go_wp2
      go_ret
      exact ⟨rfl, rfl⟩
    · rw [decide_eq_false (show ¬ (lo ≤ n ∧ n ≤ hi) by omega)]
      go_enter Try.func57, Try.ntmps57
      go_wp2
      go_ret
      exact ⟨rfl, rfl⟩
  · rw [decide_eq_false (show ¬ (lo ≤ n ∧ n ≤ hi) by omega)]
    go_enter Try.func57, Try.ntmps57
    go_wp2
    go_ret
    exact ⟨rfl, rfl⟩

theorem is_yes {n lo hi : Int} (h : lo ≤ n ∧ n ≤ hi) (w : World) :
    Calls Try.prog 57 #[.int .i64 n, .int .i64 lo, .int .i64 hi] w fun e w' => e = .returned (.bool true) ∧ w = w' := by
  have := is_any n lo hi w
  rwa [decide_eq_true h] at this

theorem is_no {n lo hi : Int} (h : ¬ (lo ≤ n ∧ n ≤ hi)) (w : World) :
    Calls Try.prog 57 #[.int .i64 n, .int .i64 lo, .int .i64 hi] w fun e w' => e = .returned (.bool false) ∧ w = w' := by
  have := is_any n lo hi w
  rwa [decide_eq_false h] at this

set_option maxHeartbeats 1000000 in
set_option maxRecDepth 100000 in
theorem refName_any (s : ByteArray) (w : World) (hm : s.size ≤ maxLen) :
    Calls Try.prog 19 #[.string s] w fun e w' => e = .returned (.bool (P.name s.data.toList)) ∧ Below w.heap.size w w' := by
  unfold maxLen at hm
  by_cases h0 : 1 ≤ s.size ∧ s.size ≤ 9
  · have HI := hid (is_yes (n := (s.size : Int)) (lo := 1) (hi := 9) (by omega) w)
    have HN : Hid (P.name s.data.toList = s.data.toList.all P.letter) := hid (by
      unfold P.name
      rw [size_len, decide_eq_true h0.1, decide_eq_true h0.2]
      rfl)
    go_enter Try.func19, Try.ntmps19
    go_wp2_with (go_at_call 57; refine HI.out.mono ?_; rintro e w' ⟨rfl, rfl⟩)
    go_loop [3] (fun i => ∃ k : Nat, k ≤ s.size ∧ i = .int .i64 k ∧ (s.data.toList.take k).all P.letter = true) (fun i => s.size - (intOf i).toNat)
    case atStart => exact ⟨0, Nat.zero_le _, rfl, rfl⟩
    case round =>
      obtain ⟨k, hk, rfl, ha⟩ := hrel
      have HA := hid ha; clear ha
      by_cases hlt : k < s.size
      · have hs := all_take_succ P.letter s k hlt
        have hf := all_false P.letter s k hlt
        have hix : (0 : Int) ≤ (k : Int) ∧ (k : Int) < (s.size : Int) := by omega
        by_cases hl : 97 ≤ (s[k]'hlt).toNat ∧ (s[k]'hlt).toNat ≤ 122
        · have HS : Hid ((s.data.toList.take (k + 1)).all P.letter = true) := hid (by
            rw [hs, HA.out]; simp only [P.letter, Bool.true_and, Bool.and_eq_true, decide_eq_true_eq]; exact hl)
          obtain ⟨h1, h2⟩ := hl
          have h1' : ¬ (((s[k]'hlt).toNat : Int) < 97) := by omega
          have h2' : ¬ (122 < ((s[k]'hlt).toNat : Int)) := by omega
          clear hs hf h1 h2
          go_wp2
          go_round
          case rel => exact ⟨k + 1, by omega, by go_num, HS.out⟩
          case measure => simp [intOf]; omega
        · have HF : Hid (s.data.toList.all P.letter = false) := hid (hf (by
            simp only [P.letter, Bool.and_eq_false_iff, decide_eq_false_iff_not]; omega))
          by_cases h1 : ((s[k]'hlt).toNat : Int) < 97
          · clear hs hf hl
            go_wp2
            go_ret
            exact ⟨ret_bool (by rw [HN.out, HF.out]), Below.refl _ _⟩
          · have h2 : 122 < ((s[k]'hlt).toNat : Int) := by omega
            clear hs hf hl
            go_wp2
            go_ret
            exact ⟨ret_bool (by rw [HN.out, HF.out]), Below.refl _ _⟩
      · have hk' : k = s.size := by omega
        subst hk'
        have HE : Hid (s.data.toList.all P.letter = true) := hid (by have := HA.out; rwa [List.take_of_length_le (by simp)] at this)
        go_wp2
        go_ret
        exact ⟨ret_bool (by rw [HN.out, HE.out]), Below.refl _ _⟩
  · have HI := hid (is_no (n := (s.size : Int)) (lo := 1) (hi := 9) (by omega) w)
    have HF : Hid (P.name s.data.toList = false) := hid (by
      unfold P.name
      rw [size_len, Bool.and_eq_false_iff, Bool.and_eq_false_iff]
      left
      rw [decide_eq_false_iff_not, decide_eq_false_iff_not]
      omega)
    go_enter Try.func19, Try.ntmps19
    go_wp2_with (go_at_call 57; refine HI.out.mono ?_; rintro e w' ⟨rfl, rfl⟩)
    go_ret
    exact ⟨ret_bool HF.out.symm, Below.refl _ _⟩

set_option maxHeartbeats 1000000 in
set_option maxRecDepth 100000 in
/-- The loop's part: a string that is read to its end. -/
theorem refValue_good (s : ByteArray) (w : World) (h0 : 0 < s.size) (h8 : s.size ≤ 8) (hz : ¬ ((s[0]'h0).toNat = 48 ∧ 1 < s.size)) :
    Calls Try.prog 17 #[.string s] w fun e w' => e = .returned (.tuple #[.int .i64 (P.value s.data.toList).1, .bool (P.value s.data.toList).2]) ∧ Below w.heap.size w w' := by
  have HI := hid (is_yes (n := (s.size : Int)) (lo := 1) (hi := 8) (by omega) w)
  have HV : Hid (P.value s.data.toList = if s.data.toList.all P.digitB = true then (((P.val s.data.toList : Nat) : Int), true) else (0, false)) := hid (by
    unfold P.value
    rw [if_neg]
    rw [size_len, head_eq s h0]
    intro h
    rcases h with h | h | h
    · omega
    · omega
    · exact hz h)
  have both : (((s[0]'h0).toNat : Int) == 48) = true ∧ decide ((1 : Int) < (s.size : Int)) = false ∨ (((s[0]'h0).toNat : Int) == 48) = false ∧ True := by
    by_cases h : (s[0]'h0).toNat = 48
    · exact Or.inl ⟨by rw [beq_iff_eq]; omega, by rw [decide_eq_false_iff_not]; intro h1; exact hz ⟨h, by omega⟩⟩
    · exact Or.inr ⟨by rw [beq_eq_false_iff_ne]; omega, trivial⟩
  have HLE := hid (val_le s)
  have hz0 : (0 : Int) < (s.size : Int) := by omega
  clear hz
  rcases both with ⟨b1, b2⟩ | ⟨b1, b2⟩
  all_goals
    go_enter Try.func17, Try.ntmps17
    go_wp2_with (go_at_call 57; refine HI.out.mono ?_; rintro e w' ⟨rfl, rfl⟩)
    go_loop [4, 5] (fun v i => ∃ k : Nat, k ≤ s.size ∧ i = .int .i64 k ∧ v = .int .i64 (P.val (s.data.toList.take k) : Nat) ∧ (s.data.toList.take k).all P.digitB = true) (fun _ i => s.size - (intOf i).toNat)
    case atStart => exact ⟨0, Nat.zero_le _, rfl, rfl, rfl⟩
    case round =>
      obtain ⟨k, hk, rfl, rfl, ha⟩ := hrel
      have hle := HLE.out k hk ha
      have hpw : 10 ^ k ≤ 100000000 := Nat.le_trans (Nat.pow_le_pow_right (by omega) (show k ≤ 8 by omega)) (by decide)
      have HA := hid ha; clear ha
      clear b1 b2
      by_cases hlt : k < s.size
      · have hs := all_take_succ P.digitB s k hlt
        have hf := all_false P.digitB s k hlt
        have hv := val_take s k hlt
        have hv9 : P.val (s.data.toList.take k) < 100000000 := Nat.lt_of_lt_of_le hle hpw
        have hix : (0 : Int) ≤ (k : Int) ∧ (k : Int) < (s.size : Int) := by omega
        clear hle hpw
        by_cases hl : 48 ≤ (s[k]'hlt).toNat ∧ (s[k]'hlt).toNat ≤ 57
        · have HS : Hid ((s.data.toList.take (k + 1)).all P.digitB = true) := hid (by
            rw [hs, HA.out]; simp only [P.digitB, Bool.true_and, Bool.and_eq_true, decide_eq_true_eq]; exact hl)
          have HVV := hid hv
          obtain ⟨h1, h2⟩ := hl
          have h1' : ¬ (((s[k]'hlt).toNat : Int) < 48) := by omega
          have h2' : ¬ (57 < ((s[k]'hlt).toNat : Int)) := by omega
          have h1i : (48 : Int) ≤ ((s[k]'hlt).toNat : Int) := by omega
          have h2i : ((s[k]'hlt).toNat : Int) ≤ 57 := by omega
          clear hs hf hv
          generalize P.val (s.data.toList.take k) = vv at *
          go_wp2
          go_round
          case rel => exact ⟨k + 1, by omega, by go_num, by rw [HVV.out]; go_num, HS.out⟩
          case measure => simp [intOf]; omega
        · have HF : Hid (s.data.toList.all P.digitB = false) := hid (hf (by
            simp only [P.digitB, Bool.and_eq_false_iff, decide_eq_false_iff_not]; omega))
          by_cases h1 : ((s[k]'hlt).toNat : Int) < 48
          · clear hs hf hv hl
            go_wp2
            go_ret2
            exact ⟨by rw [HV.out, HF.out]; rfl, Below.refl _ _⟩
          · have h2 : 57 < ((s[k]'hlt).toNat : Int) := by omega
            clear hs hf hv hl
            go_wp2
            go_ret2
            exact ⟨by rw [HV.out, HF.out]; rfl, Below.refl _ _⟩
      · have hk' : k = s.size := by omega
        subst hk'
        have hall : s.data.toList.take s.size = s.data.toList := List.take_of_length_le (by simp)
        rw [hall] at HA ⊢
        clear hall hle hpw
        go_wp2
        go_ret2
        exact ⟨by rw [HV.out, HA.out]; rfl, Below.refl _ _⟩

set_option maxHeartbeats 1000000 in
set_option maxRecDepth 100000 in
theorem refValue_any (s : ByteArray) (w : World) (hm : s.size ≤ maxLen) :
    Calls Try.prog 17 #[.string s] w fun e w' => e = .returned (.tuple #[.int .i64 (P.value s.data.toList).1, .bool (P.value s.data.toList).2]) ∧ Below w.heap.size w w' := by
  unfold maxLen at hm
  by_cases h0 : 1 ≤ s.size ∧ s.size ≤ 8
  · have hpos : 0 < s.size := by omega
    by_cases hz : (s[0]'hpos).toNat = 48 ∧ 1 < s.size
    · have HI := hid (is_yes (n := (s.size : Int)) (lo := 1) (hi := 8) (by omega) w)
      have HF : Hid (P.value s.data.toList = (0, false)) := hid (by unfold P.value; rw [if_pos]; right; right; rw [size_len, head_eq s hpos]; exact hz)
      have d1 : decide ((1 : Int) < (s.size : Int)) = true := by simp; omega
      have b1 : (((s[0]'hpos).toNat : Int) == 48) = true := by rw [beq_iff_eq]; omega
      have hz0 : (0 : Int) < (s.size : Int) := by omega
      clear h0 hz
      go_enter Try.func17, Try.ntmps17
      go_wp2_with (go_at_call 57; refine HI.out.mono ?_; rintro e w' ⟨rfl, rfl⟩)
      go_ret2
      exact ⟨by rw [HF.out]; rfl, Below.refl _ _⟩
    · exact refValue_good s w hpos h0.2 hz
  · have HI := hid (is_no (n := (s.size : Int)) (lo := 1) (hi := 8) (by omega) w)
    have HF : Hid (P.value s.data.toList = (0, false)) := hid (by
      unfold P.value
      rw [if_pos]
      rw [size_len]
      omega)
    clear h0
    go_enter Try.func17, Try.ntmps17
    go_wp2_with (go_at_call 57; refine HI.out.mono ?_; rintro e w' ⟨rfl, rfl⟩)
    go_ret2
    exact ⟨by rw [HF.out]; rfl, Below.refl _ _⟩

end Go.Proofs.Ytafpfcjemlonpaa
