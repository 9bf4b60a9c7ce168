/- Package repeat: Check (runes), and the library's HasPrefix, HasSuffix, Compare. -/
import Derived.Test.YtiodcgdjphmffaaProg
import Derived.Test.YtiodcgdjphmffaaBPlain
import Derived.Laws.RangeString
import Derived.Laws.RangeAny
import Derived.BigQuiet
namespace Go.Proofs.Ytiodcgdjphmffaa
open Go.RowKit

theorem B.all_false (p : UInt8 → Bool) (s : ByteArray) (k : Nat) (h : k < s.size) (hp : p s[k] = false) : s.data.toList.all p = false := by
  rw [List.all_eq_false]
  exact ⟨s[k], by
    have : s.data.toList[k]'(by simpa using h) ∈ s.data.toList := List.getElem_mem _
    exact this, by rw [hp]; simp⟩

theorem empty_of (s : ByteArray) : s.toList.isEmpty = decide (s.size = 0) := by
  rw [Lib.toList_data, ← B.len]
  cases s.data.toList <;> simp

theorem below_iter (w : World) (s : ByteArray) (pos : Nat) : Below w.heap.size w (w.iter s pos) := (Below.refl _ _).alloc (Nat.le_refl _) _

theorem isFigure_any (c : Int) (b : Bool) (w : World) (hb : decide (97 ≤ c ∧ c ≤ 122) = b) :
    Calls Try.prog 52 #[.int .i32 c] w fun e w' => e = .returned (.bool b) ∧ w = w' := by
  by_cases h1 : 97 ≤ c
  · by_cases h2 : c ≤ 122
    · have hb' : b = true := by rw [← hb]; simpa using ⟨h1, h2⟩
      subst hb'
      clear hb
      go_enter Try.func52, Try.ntmps52
      go_wp2
      go_ret
      exact ⟨ret_bool (by simp), rfl⟩
    · have hb' : b = false := by rw [← hb, decide_eq_false_iff_not]; omega
      subst hb'
      clear hb
      go_enter Try.func52, Try.ntmps52
      go_wp2
      go_ret
      exact ⟨ret_bool (by simp), rfl⟩
  · have hb' : b = false := by rw [← hb, decide_eq_false_iff_not]; omega
    subst hb'
    clear hb
    have h1' : c < 97 := by omega
    clear h1
    go_enter Try.func52, Try.ntmps52
    go_wp2
    go_ret
    exact ⟨ret_bool rfl, rfl⟩

set_option maxHeartbeats 1000000 in
set_option maxRecDepth 100000 in
theorem check_any (s : ByteArray) (w : World) (hm : s.size ≤ maxLen) :
    Calls Try.prog 23 #[.string s] w fun e w' => e = .returned (.int .i64 (B.chk s)) ∧ Below w.heap.size w w' := by
  unfold maxLen at hm
  have he := empty_of s
  by_cases h0 : s.size = 0
  · rw [show decide (s.size = 0) = true from by simpa using h0] at he
    have HF : Hid (B.chk s = 1) := hid (by unfold B.chk; rw [if_pos h0])
    clear h0
    go_enter Try.func23, Try.ntmps23
    go_wp2
    go_ret
    exact ⟨ret_int HF.out.symm, Below.refl _ _⟩
  rw [show decide (s.size = 0) = false from by simpa using h0] at he
  by_cases h9 : 24 < s.size
  · have HF : Hid (B.chk s = 19) := hid (by unfold B.chk; rw [if_neg h0, if_pos h9])
    clear h0
    go_enter Try.func23, Try.ntmps23
    go_wp2
    go_ret
    exact ⟨ret_int HF.out.symm, Below.refl _ _⟩
  have HN : Hid (B.chk s = if s.data.toList.all B.fig then 0 else 9) := hid (by unfold B.chk; rw [if_neg h0, if_neg h9])
  go_enter Try.func23, Try.ntmps23
  go_wp2
  go_loopg [14] s.size (fun g _ wr => ∃ k : Nat, k ≤ s.size ∧ g = s.size - k ∧ wr = w.iter s k ∧ (s.data.toList.take k).all B.fig = true)
  case atStart => exact ⟨0, Nat.zero_le _, rfl, rfl, rfl⟩
  case round =>
    obtain ⟨k, hk, rfl, rfl, ha⟩ := hrel
    have HA := hid ha; clear ha
    by_cases hlt : k < s.size
    · have hs := B.all_take B.fig s k hlt
      have hf := B.all_false B.fig s k hlt
      by_cases h128 : (s[k]'hlt).toNat < 128
      · have hnx := fun ty => run_next_ascii (P := Try.prog) w s k ty hlt h128
        by_cases hl : 97 ≤ (s[k]'hlt).toNat ∧ (s[k]'hlt).toNat ≤ 122
        · have HS : Hid ((s.data.toList.take (k + 1)).all B.fig = true) := hid (by
            rw [hs, HA.out]; simp only [B.fig, Bool.true_and, Bool.and_eq_true, decide_eq_true_eq]; exact hl)
          clear hs hf
          have cF := fun w => isFigure_any ((s[k]'hlt).toNat : Int) true w (by rw [decide_eq_true_eq]; omega)
          generalize (s[k]'hlt).toNat = ch at *
          go_wp2_with (refine (cF _).mono ?_; rintro e w' ⟨rfl, rfl⟩)
          go_roundg (s.size - (k + 1))
          case measure => omega
          case rel => exact ⟨k + 1, by omega, rfl, rfl, HS.out⟩
        · have HF : Hid (s.data.toList.all B.fig = false) := hid (hf (by
            simp only [B.fig, Bool.and_eq_false_iff, decide_eq_false_iff_not]; omega))
          clear hs hf
          have cF := fun w => isFigure_any ((s[k]'hlt).toNat : Int) false w (by rw [decide_eq_false_iff_not]; omega)
          generalize (s[k]'hlt).toNat = ch at *
          go_wp2_with (refine (cF _).mono ?_; rintro e w' ⟨rfl, rfl⟩)
          go_ret
          exact ⟨ret_int (by rw [HN.out, HF.out]; rfl), below_iter _ _ _⟩
      · have hnx := fun ty => run_next_any (P := Try.prog) w s k ty hlt
        have hd := (decode_high s k hlt (by omega)).1
        have HF : Hid (s.data.toList.all B.fig = false) := hid (hf (by
          simp only [B.fig, Bool.and_eq_false_iff, decide_eq_false_iff_not]; omega))
        clear hs hf h128
        generalize (Utf8.decode s k).2 = q at *
        generalize (Utf8.decode s k).1 = ch at *
        have cF := fun w => isFigure_any (ch : Int) false w (by rw [decide_eq_false_iff_not]; omega)
        go_wp2_with (refine (cF _).mono ?_; rintro e w' ⟨rfl, rfl⟩)
        go_ret
        exact ⟨ret_int (by rw [HN.out, HF.out]; rfl), below_iter _ _ _⟩
    · have hk' : k = s.size := by omega
      subst hk'
      have hnx := fun ty => run_next_end (P := Try.prog) w s s.size ty (by omega)
      have HE : Hid (s.data.toList.all B.fig = true) := hid (by have := HA.out; rwa [List.take_of_length_le (by simp)] at this)
      go_wp2
      go_ret
      exact ⟨ret_int (by rw [HN.out, HE.out]; rfl), below_iter _ _ _⟩

end Go.Proofs.Ytiodcgdjphmffaa
