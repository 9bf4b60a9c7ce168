/- The reference's Check, is, First, Same, Rings. -/
import Derived.Test.YtiodcgdjphmffaaBRings
import Derived.Test.YtiodcgdjphmffaaBFirst
import Derived.Sort.Walk0
namespace Go.Proofs.Ytiodcgdjphmffaa
open Go.RowKit

theorem B.is_any (n lo hi : Int) (w : World) :
    Calls Try.prog 56 #[.int .i64 n, .int .i64 lo, .int .i64 hi] w fun e w' => e = .returned (.bool (decide (lo ≤ n ∧ n ≤ hi))) ∧ w = w' := by
  have C : Hid (∀ w, Calls Try.prog 70 #[.int .i64 n, .int .i64 lo, .int .i64 hi] w fun e w' => e = .returned (.bool (decide (lo ≤ n ∧ n ≤ hi))) ∧ w = w') := hid (fun w => by
    by_cases h1 : lo ≤ n
    · have hd : decide (lo ≤ n ∧ n ≤ hi) = decide (n ≤ hi) := by simp [h1]
      rw [hd]
      go_enter Try.func70, Try.ntmps70
      go_wp2
      go_ret
      exact ⟨rfl, rfl⟩
    · have hd : decide (lo ≤ n ∧ n ≤ hi) = false := by rw [decide_eq_false_iff_not]; omega
      rw [hd]
      go_enter Try.func70, Try.ntmps70
      go_wp2
      go_ret
      exact ⟨rfl, rfl⟩)
  generalize decide (lo ≤ n ∧ n ≤ hi) = d at *
  go_enter Try.func56, Try.ntmps56
  go_wp2_with (refine (C.out _).mono ?_; rintro e w' ⟨rfl, rfl⟩)
  go_ret
  exact ⟨rfl, rfl⟩

set_option maxHeartbeats 1000000 in
set_option maxRecDepth 100000 in
theorem refCheck_any (s : ByteArray) (w : World) (hm : s.size ≤ maxLen) :
    Calls Try.prog 24 #[.string s] w fun e w' => e = .returned (.int .i64 (B.chk s)) ∧ w' = w := by
  unfold maxLen at hm
  have he := empty_of s
  by_cases h0 : s.size = 0
  · rw [show decide (s.size = 0) = true from by simpa using h0] at he
    have HF : Hid (B.chk s = 1) := hid (by unfold B.chk; rw [if_pos h0])
    clear h0
    go_enter Try.func24, Try.ntmps24
    go_wp2
    go_ret
    exact ⟨ret_int HF.out.symm, rfl⟩
  rw [show decide (s.size = 0) = false from by simpa using h0] at he
  by_cases h9 : 24 < s.size
  · have HF : Hid (B.chk s = 19) := hid (by unfold B.chk; rw [if_neg h0, if_pos h9])
    clear h0
    go_enter Try.func24, Try.ntmps24
    go_wp2
    go_ret
    exact ⟨ret_int HF.out.symm, rfl⟩
  have HN : Hid (B.chk s = if s.data.toList.all B.fig then 0 else 9) := hid (by unfold B.chk; rw [if_neg h0, if_neg h9])
  go_enter Try.func24, Try.ntmps24
  go_wp2
  go_loop [3] (fun i => ∃ k : Nat, k ≤ s.size ∧ i = .int .i64 k ∧ (s.data.toList.take k).all B.fig = true) (fun i => s.size - (intOf i).toNat)
  case atStart => exact ⟨0, Nat.zero_le _, rfl, rfl⟩
  case round =>
    obtain ⟨k, hk, rfl, ha⟩ := hrel
    have HA := hid ha; clear ha
    by_cases hlt : k < s.size
    · have hs := B.all_take B.fig s k hlt
      have hf := B.all_false B.fig s k hlt
      have hix : (0 : Int) ≤ (k : Int) ∧ (k : Int) < (s.size : Int) := by omega
      by_cases hl : 97 ≤ (s[k]'hlt).toNat ∧ (s[k]'hlt).toNat ≤ 122
      · have HS : Hid ((s.data.toList.take (k + 1)).all B.fig = true) := hid (by
          rw [hs, HA.out]; simp only [B.fig, Bool.true_and, Bool.and_eq_true, decide_eq_true_eq]; exact hl)
        obtain ⟨h1, h2⟩ := hl
        have h1' : ¬ (((s[k]'hlt).toNat : Int) < 97) := by omega
        have h2' : ¬ (122 < ((s[k]'hlt).toNat : Int)) := by omega
        clear hs hf h1 h2
        go_wp2
        go_round
        case rel => exact ⟨k + 1, by omega, by go_num, HS.out⟩
        case measure => simp [intOf]; omega
      · have HF : Hid (s.data.toList.all B.fig = false) := hid (hf (by
          simp only [B.fig, Bool.and_eq_false_iff, decide_eq_false_iff_not]; omega))
        by_cases h1 : ((s[k]'hlt).toNat : Int) < 97
        · clear hs hf hl
          go_wp2
          go_ret
          exact ⟨ret_int (by rw [HN.out, HF.out]; rfl), rfl⟩
        · have h2 : 122 < ((s[k]'hlt).toNat : Int) := by omega
          clear hs hf hl
          go_wp2
          go_ret
          exact ⟨ret_int (by rw [HN.out, HF.out]; rfl), rfl⟩
    · have hk' : k = s.size := by omega
      subst hk'
      have HE : Hid (s.data.toList.all B.fig = true) := hid (by have := HA.out; rwa [List.take_of_length_le (by simp)] at this)
      go_wp2
      go_ret
      exact ⟨ret_int (by rw [HN.out, HE.out]; rfl), rfl⟩

theorem B.minS_eq (f t : ByteArray) : Lib.minS f t = if t.data.toList < f.data.toList then t else f := by
  unfold Lib.minS
  by_cases h1 : t.data.toList < f.data.toList
  · rw [if_pos h1, if_neg]
    rintro (h | h)
    · exact absurd (List.lt_trans h1 h) (List.lt_irrefl _)
    · rw [h] at h1; exact absurd h1 (List.lt_irrefl _)
  · rw [if_neg h1]
    by_cases h2 : f.data.toList < t.data.toList
    · rw [if_pos (Or.inl h2)]
    · rw [if_pos (Or.inr (List.le_antisymm (show f.data.toList ≤ t.data.toList from h1) h2))]

theorem B.turn_zero (s : ByteArray) : B.turn s 0 = s := B.ext (by rw [B.turn_data]; simp)
theorem B.firstTo_one (s : ByteArray) : B.firstTo s 1 = s := by
  rw [B.firstTo_succ, B.turn_zero]
  show Lib.minS s s = s
  unfold Lib.minS; split <;> rfl

set_option maxHeartbeats 1000000 in
set_option maxRecDepth 100000 in
theorem refFirst_any (s : ByteArray) (w : World) (hm : s.size ≤ maxLen) :
    Calls Try.prog 30 #[.string s] w fun e w' => e = .returned (.tuple #[.string (B.firstV s).1, .int .i64 (B.firstV s).2]) ∧ Below w.heap.size w w' := by
  have CC := hid (fun w => refCheck_any s w hm)
  by_cases h0 : B.chk s = 0
  · have HV : Hid (B.firstV s = (B.firstTo s s.size, 0)) := hid (by unfold B.firstV; rw [if_pos h0]; rfl)
    have h24 := (B.chk_zero h0).2.1
    have h1 := (B.chk_zero h0).1
    have HS := hid (fun n => (B.firstTo_succ s n).trans (B.minS_eq _ _))
    have HO := hid (B.firstTo_one s)
    rw [h0] at CC
    clear h0
    go_enter Try.func30, Try.ntmps30
    go_wp2_with (refine (CC.out _).mono ?_; rintro e wq ⟨rfl, rfl⟩)
    go_loopw [5, 6] (fun x y wr => ∃ j : Nat, 1 ≤ j ∧ j ≤ s.size ∧ y = .int .i64 j ∧ x = .string (B.firstTo s j) ∧ Below wq.heap.size wq wr) (fun _ y _ => s.size - (intOf y).toNat)
    case atStart => exact ⟨1, Nat.le_refl _, h1, rfl, by rw [HO.out], Below.refl _ _⟩
    case round =>
      obtain ⟨j, hj1, hj, rfl, rfl, hbel⟩ := hrel
      have HB := hid hbel; clear hbel
      by_cases hlt : j < s.size
      · have HS1 := hid (HS.out j)
        have hz1 := B.size_extract s j s.size
        have hz2 := B.size_extract s 0 j
        have HT : Hid (s.extract j s.size ++ s.extract 0 j = B.turn s j) := hid rfl
        have hadd := fun w => run_string_add_sum (P := Try.prog) (w := w) (s.extract j s.size) (s.extract 0 j) (by omega)
        have hlss : Op.bytesLess (s.extract j s.size ++ s.extract 0 j).toList (B.firstTo s j).toList = decide ((B.turn s j).data.toList < (B.firstTo s j).data.toList) := by
          rw [HT.out, bytesLess_eq, Lib.toList_data, Lib.toList_data]
        generalize B.firstTo s j = f at *
        by_cases hc : (B.turn s j).data.toList < f.data.toList
        · rw [if_pos hc] at HS1
          rw [decide_eq_true hc] at hlss
          clear hc
          go_wp2
          go_quiet (fail)
          go_wp2
          go_quiet (fail)
          go_wp2
          go_roundw
          case rel => exact ⟨j + 1, by omega, by omega, by go_num, by rw [HS1.out, ← HT.out], by first | exact below_drewN HB.out _ | exact below_drewN (below_drewN HB.out _) _⟩
          case measure => simp [intOf]; omega
        · rw [if_neg hc] at HS1
          rw [decide_eq_false hc] at hlss
          clear hc
          go_wp2
          go_quiet (fail)
          go_wp2
          go_roundw
          case rel => exact ⟨j + 1, by omega, by omega, by go_num, by rw [HS1.out], below_drewN HB.out _⟩
          case measure => simp [intOf]; omega
      · have hje : j = s.size := by omega
        subst hje
        go_wp2
        go_ret2
        exact ⟨by rw [HV.out]; rfl, HB.out⟩
  · have HV : Hid (B.firstV s = (⟨#[]⟩, B.chk s)) := hid (by unfold B.firstV; rw [if_neg h0])
    have hn : (B.chk s != 0) = true := by simpa using h0
    clear h0
    generalize B.chk s = c at *
    go_enter Try.func30, Try.ntmps30
    go_wp2_with (refine (CC.out _).mono ?_; rintro e w1 ⟨rfl, b1⟩; replace b1 := hid b1)
    go_ret2
    exact ⟨by rw [HV.out]; rfl, by rw [b1.out]; exact Below.refl _ _⟩
end Go.Proofs.Ytiodcgdjphmffaa
