/- The walks of Name and Value. -/
import Derived.Test.YtlpdlnefgjmgmaaProg
import Derived.Test.YtlpdlnefgjmgmaaBase
import Derived.Laws.RangeString
import Derived.Laws.RangeAny
import Derived.Lib.Strings
namespace Go.Proofs.Ytlpdlnefgjmgmaa
open Go.RowKit

def P.letter (c : UInt8) : Bool := 97 ≤ c.toNat && c.toNat ≤ 122
def P.name (l : List UInt8) : Bool := 1 ≤ l.length && l.length ≤ 9 && l.all P.letter
def P.digitB (c : UInt8) : Bool := 48 ≤ c.toNat && c.toNat ≤ 57
def P.val (l : List UInt8) : Nat := l.foldl (fun n c => 10 * n + (c.toNat - 48)) 0
def P.value (l : List UInt8) : Int × Bool :=
  if l.length = 0 ∨ 8 < l.length ∨ ((l.getD 0 0).toNat = 48 ∧ 1 < l.length) then (0, false) else if l.all P.digitB = true then ((P.val l : Nat), true) else (0, false)

theorem take_snoc (s : ByteArray) (k : Nat) (h : k < s.size) : s.data.toList.take (k + 1) = s.data.toList.take k ++ [s[k]] := by
  rw [List.take_succ_eq_append_getElem (by simpa using h)]; rfl

theorem all_take_succ (p : UInt8 → Bool) (s : ByteArray) (k : Nat) (h : k < s.size) : (s.data.toList.take (k + 1)).all p = ((s.data.toList.take k).all p && p s[k]) := by
  rw [take_snoc s k h, List.all_append]; simp

theorem all_false (p : UInt8 → Bool) (s : ByteArray) (k : Nat) (h : k < s.size) (hp : p s[k] = false) : s.data.toList.all p = false := by
  rw [List.all_eq_false]
  exact ⟨s[k], by
    have : s.data.toList[k]'(by simpa using h) ∈ s.data.toList := List.getElem_mem _
    exact this, by rw [hp]; simp⟩

theorem size_len (s : ByteArray) : s.data.toList.length = s.size := by simp

theorem empty_of (s : ByteArray) : s.toList.isEmpty = decide (s.size = 0) := by
  rw [Lib.toList_data, ← size_len]
  cases s.data.toList <;> simp

theorem below_iter (w : World) (s : ByteArray) (pos : Nat) : Below w.heap.size w (w.iter s pos) := (Below.refl _ _).alloc (Nat.le_refl _) _

set_option maxHeartbeats 1000000 in
set_option maxRecDepth 100000 in
theorem name_any (s : ByteArray) (w : World) (hm : s.size ≤ maxLen) :
    Calls Try.prog 36 #[.string s] w fun e w' => e = .returned (.bool (P.name s.data.toList)) ∧ Below w.heap.size w w' := by
  unfold maxLen at hm
  have he := empty_of s
  by_cases h0 : s.size = 0
  · rw [show decide (s.size = 0) = true from by simpa using h0] at he
    have HF : Hid (P.name s.data.toList = false) := hid (by unfold P.name; rw [size_len, h0]; rfl)
    clear h0
    go_enter Try.func36, Try.ntmps36
    go_wp2
    go_ret
    exact ⟨ret_bool HF.out.symm, Below.refl _ _⟩
  rw [show decide (s.size = 0) = false from by simpa using h0] at he
  by_cases h9 : 9 < s.size
  · have HF : Hid (P.name s.data.toList = false) := hid (by
      unfold P.name; rw [size_len, show decide (s.size ≤ 9) = false from by simp; omega]; simp)
    clear h0
    go_enter Try.func36, Try.ntmps36
    go_wp2
    go_ret
    exact ⟨ret_bool HF.out.symm, Below.refl _ _⟩
  have HN : Hid (P.name s.data.toList = s.data.toList.all P.letter) := hid (by
    unfold P.name
    rw [size_len, show decide (1 ≤ s.size) = true from by simp; omega, show decide (s.size ≤ 9) = true from by simp; omega]
    rfl)
  go_enter Try.func36, Try.ntmps36
  go_wp2
  go_loopg [14] s.size (fun g _ wr => ∃ k : Nat, k ≤ s.size ∧ g = s.size - k ∧ wr = w.iter s k ∧ (s.data.toList.take k).all P.letter = true)
  case atStart => exact ⟨0, Nat.zero_le _, rfl, rfl, rfl⟩
  case round =>
    obtain ⟨k, hk, rfl, rfl, ha⟩ := hrel
    have HA := hid ha; clear ha
    by_cases hlt : k < s.size
    · have hs := all_take_succ P.letter s k hlt
      have hf := all_false P.letter s k hlt
      by_cases h128 : (s[k]'hlt).toNat < 128
      · have hnx := fun ty => run_next_ascii (P := Try.prog) w s k ty hlt h128
        by_cases hl : 97 ≤ (s[k]'hlt).toNat ∧ (s[k]'hlt).toNat ≤ 122
        · have HS : Hid ((s.data.toList.take (k + 1)).all P.letter = true) := hid (by
            rw [hs, HA.out]; simp only [P.letter, Bool.true_and, Bool.and_eq_true, decide_eq_true_eq]; exact hl)
          clear hs hf
          obtain ⟨h1, h2⟩ := hl
          generalize (s[k]'hlt).toNat = ch at *
          go_wp2
          go_roundg (s.size - (k + 1))
          case measure => omega
          case rel => exact ⟨k + 1, by omega, rfl, rfl, HS.out⟩
        · have HF : Hid (s.data.toList.all P.letter = false) := hid (hf (by
            simp only [P.letter, Bool.and_eq_false_iff, decide_eq_false_iff_not]; omega))
          clear hs hf
          generalize (s[k]'hlt).toNat = ch at *
          by_cases h1 : ch < 97
          · go_wp2
            go_ret
            exact ⟨ret_bool (by rw [HN.out, HF.out]), below_iter _ _ _⟩
          · have h2 : 122 < ch := by omega
            clear hl
            go_wp2
            go_ret
            exact ⟨ret_bool (by rw [HN.out, HF.out]), below_iter _ _ _⟩
      · have hnx := fun ty => run_next_any (P := Try.prog) w s k ty hlt
        have hd := (decode_high s k hlt (by omega)).1
        have HF : Hid (s.data.toList.all P.letter = false) := hid (hf (by
          simp only [P.letter, Bool.and_eq_false_iff, decide_eq_false_iff_not]; omega))
        clear hs hf h128
        generalize (Utf8.decode s k).2 = q at *
        generalize (Utf8.decode s k).1 = ch at *
        go_wp2
        go_ret
        exact ⟨ret_bool (by rw [HN.out, HF.out]), below_iter _ _ _⟩
    · have hk' : k = s.size := by omega
      subst hk'
      have hnx := fun ty => run_next_end (P := Try.prog) w s s.size ty (by omega)
      have HE : Hid (s.data.toList.all P.letter = true) := hid (by have := HA.out; rwa [List.take_of_length_le (by simp)] at this)
      go_wp2
      go_ret
      exact ⟨ret_bool (by rw [HN.out, HE.out]), below_iter _ _ _⟩

theorem val_take (s : ByteArray) (k : Nat) (h : k < s.size) : P.val (s.data.toList.take (k + 1)) = 10 * P.val (s.data.toList.take k) + (s[k].toNat - 48) := by
  rw [take_snoc s k h]; unfold P.val; rw [List.foldl_append]; rfl

theorem val_le (s : ByteArray) : ∀ k, k ≤ s.size → (s.data.toList.take k).all P.digitB = true → P.val (s.data.toList.take k) < 10 ^ k := by
  intro k
  induction k with
  | zero => intro _ _; simp [P.val]
  | succ k ih =>
    intro hk ha
    rw [all_take_succ P.digitB s k (by omega), Bool.and_eq_true] at ha
    have := ih (by omega) ha.1
    rw [val_take s k (by omega), Nat.pow_succ]
    have h2 := ha.2
    simp only [P.digitB, Bool.and_eq_true, decide_eq_true_eq] at h2
    omega

theorem ret_ib {a b : Int} {c d : Bool} (h : a = b) (k : c = d) : Ending.returned (.tuple #[.int .i64 a, .bool c]) = .returned (.tuple #[.int .i64 b, .bool d]) := by rw [h, k]

theorem head_eq (s : ByteArray) (h : 0 < s.size) : s.data.toList.getD 0 0 = s[0] := by
  rw [List.getD, List.getElem?_eq_getElem (by simpa using h)]; rfl

set_option maxHeartbeats 1000000 in
set_option maxRecDepth 100000 in
/-- The loop's part: a string that is read to its end. -/
theorem value_good (s : ByteArray) (w : World) (h0 : 0 < s.size) (h8 : s.size ≤ 8) (hz : ¬ ((s[0]'h0).toNat = 48 ∧ 1 < s.size)) :
    Calls Try.prog 32 #[.string s] w fun e w' => e = .returned (.tuple #[.int .i64 (P.value s.data.toList).1, .bool (P.value s.data.toList).2]) ∧ Below w.heap.size w w' := by
  have he := empty_of s
  rw [decide_eq_false (show ¬ s.size = 0 by omega)] at he
  have HV : Hid (P.value s.data.toList = if s.data.toList.all P.digitB = true then (((P.val s.data.toList : Nat) : Int), true) else (0, false)) := hid (by
    unfold P.value
    rw [if_neg]
    rw [size_len, head_eq s h0]
    intro h
    rcases h with h | h | h
    · omega
    · omega
    · exact hz h)
  have d8 : decide ((8 : Int) < (s.size : Int)) = false := by simp; omega
  have both : (((s[0]'h0).toNat : Int) == 48) = true ∧ decide ((1 : Int) < (s.size : Int)) = false ∨ (((s[0]'h0).toNat : Int) == 48) = false ∧ True := by
    by_cases h : (s[0]'h0).toNat = 48
    · exact Or.inl ⟨by rw [beq_iff_eq]; omega, by rw [decide_eq_false_iff_not]; intro h1; exact hz ⟨h, by omega⟩⟩
    · exact Or.inr ⟨by rw [beq_eq_false_iff_ne]; omega, trivial⟩
  have HLE := hid (val_le s)
  have hz0 : (0 : Int) < (s.size : Int) := by omega
  clear hz
  rcases both with ⟨b1, b2⟩ | ⟨b1, b2⟩
  all_goals
    go_enter Try.func32, Try.ntmps32
    go_wp2
    go_loopg [2] s.size (fun g v wr => ∃ k : Nat, k ≤ s.size ∧ g = s.size - k ∧ v = .int .i64 (P.val (s.data.toList.take k) : Nat) ∧ wr = w.iter s k ∧ (s.data.toList.take k).all P.digitB = true)
    case atStart => exact ⟨0, Nat.zero_le _, rfl, rfl, rfl, rfl⟩
    case round =>
      obtain ⟨k, hk, rfl, rfl, rfl, ha⟩ := hrel
      have hle := HLE.out k hk ha
      have hpw : 10 ^ k ≤ 100000000 := Nat.le_trans (Nat.pow_le_pow_right (by omega) (show k ≤ 8 by omega)) (by decide)
      have HA := hid ha; clear ha
      clear b1 b2
      by_cases hlt : k < s.size
      · have hs := all_take_succ P.digitB s k hlt
        have hf := all_false P.digitB s k hlt
        have hv := val_take s k hlt
        have hv9 : P.val (s.data.toList.take k) < 100000000 := Nat.lt_of_lt_of_le hle hpw
        clear hle hpw
        by_cases h128 : (s[k]'hlt).toNat < 128
        · have hnx := fun ty => run_next_ascii (P := Try.prog) w s k ty hlt h128
          by_cases hl : 48 ≤ (s[k]'hlt).toNat ∧ (s[k]'hlt).toNat ≤ 57
          · have HS : Hid ((s.data.toList.take (k + 1)).all P.digitB = true) := hid (by
              rw [hs, HA.out]; simp only [P.digitB, Bool.true_and, Bool.and_eq_true, decide_eq_true_eq]; exact hl)
            have HVV := hid hv
            clear hs hf hv
            obtain ⟨h1, h2⟩ := hl
            generalize (s[k]'hlt).toNat = ch at *
            generalize P.val (s.data.toList.take k) = vv at *
            go_wp2
            go_roundg (s.size - (k + 1))
            case measure => omega
            case rel => exact ⟨k + 1, by omega, rfl, by rw [HVV.out]; go_num, rfl, HS.out⟩
          · have HF : Hid (s.data.toList.all P.digitB = false) := hid (hf (by
              simp only [P.digitB, Bool.and_eq_false_iff, decide_eq_false_iff_not]; omega))
            clear hs hf hv
            generalize (s[k]'hlt).toNat = ch at *
            by_cases h1 : ch < 48
            · go_wp2
              go_ret2
              exact ⟨by rw [HV.out, HF.out]; rfl, below_iter _ _ _⟩
            · have h2 : 57 < ch := by omega
              clear hl
              go_wp2
              go_ret2
              exact ⟨by rw [HV.out, HF.out]; rfl, below_iter _ _ _⟩
        · have hnx := fun ty => run_next_any (P := Try.prog) w s k ty hlt
          have hd := (decode_high s k hlt (by omega)).1
          have HF : Hid (s.data.toList.all P.digitB = false) := hid (hf (by
            simp only [P.digitB, Bool.and_eq_false_iff, decide_eq_false_iff_not]; omega))
          clear hs hf h128 hv
          generalize (Utf8.decode s k).2 = q at *
          generalize (Utf8.decode s k).1 = ch at *
          go_wp2
          go_ret2
          exact ⟨by rw [HV.out, HF.out]; rfl, below_iter _ _ _⟩
      · have hk' : k = s.size := by omega
        subst hk'
        have hnx := fun ty => run_next_end (P := Try.prog) w s s.size ty (by omega)
        have hall : s.data.toList.take s.size = s.data.toList := List.take_of_length_le (by simp)
        rw [hall] at HA ⊢
        clear hall hle hpw
        go_wp2
        go_ret2
        exact ⟨by rw [HV.out, HA.out]; rfl, below_iter _ _ _⟩

set_option maxHeartbeats 1000000 in
set_option maxRecDepth 100000 in
theorem value_any (s : ByteArray) (w : World) (hm : s.size ≤ maxLen) :
    Calls Try.prog 32 #[.string s] w fun e w' => e = .returned (.tuple #[.int .i64 (P.value s.data.toList).1, .bool (P.value s.data.toList).2]) ∧ Below w.heap.size w w' := by
  unfold maxLen at hm
  have he := empty_of s
  by_cases h0 : s.size = 0
  · rw [decide_eq_true h0] at he
    have HF : Hid (P.value s.data.toList = (0, false)) := hid (by unfold P.value; rw [if_pos]; left; rw [size_len]; exact h0)
    clear h0
    go_enter Try.func32, Try.ntmps32
    go_wp2
    go_ret2
    exact ⟨by rw [HF.out]; rfl, Below.refl _ _⟩
  by_cases h8 : 8 < s.size
  · rw [decide_eq_false h0] at he
    have HF : Hid (P.value s.data.toList = (0, false)) := hid (by unfold P.value; rw [if_pos]; right; left; rw [size_len]; exact h8)
    have d8 : decide ((8 : Int) < (s.size : Int)) = true := by simp; omega
    clear h0
    go_enter Try.func32, Try.ntmps32
    go_wp2
    go_ret2
    exact ⟨by rw [HF.out]; rfl, Below.refl _ _⟩
  have hpos : 0 < s.size := by omega
  by_cases hz : (s[0]'hpos).toNat = 48 ∧ 1 < s.size
  · rw [decide_eq_false h0] at he
    have HF : Hid (P.value s.data.toList = (0, false)) := hid (by unfold P.value; rw [if_pos]; right; right; rw [size_len, head_eq s (by omega)]; exact hz)
    have d8 : decide ((8 : Int) < (s.size : Int)) = false := by simp; omega
    have d1 : decide ((1 : Int) < (s.size : Int)) = true := by simp; omega
    have b1 : (((s[0]'hpos).toNat : Int) == 48) = true := by rw [beq_iff_eq]; omega
    have hz0 : (0 : Int) < (s.size : Int) := by omega
    clear h0 hz
    go_enter Try.func32, Try.ntmps32
    go_wp2
    go_ret2
    exact ⟨by rw [HF.out]; rfl, Below.refl _ _⟩
  · exact value_good s w hpos (by omega) hz

end Go.Proofs.Ytlpdlnefgjmgmaa
