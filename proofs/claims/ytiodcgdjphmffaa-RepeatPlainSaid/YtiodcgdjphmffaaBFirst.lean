/- Package repeat: firstForm, First, Same. -/
import Derived.Test.YtiodcgdjphmffaaBShf
import Derived.Test.YtiodcgdjphmffaaBNum
import Derived.Laws.DeepStrings4
import Derived.Laws.Strings3
namespace Go.Proofs.Ytiodcgdjphmffaa
open Go.RowKit

set_option maxHeartbeats 1000000 in
set_option maxRecDepth 100000 in
theorem firstForm_any (s : ByteArray) (w : World) (hm : s.size ≤ 1000) :
    Calls Try.prog 59 #[.string s] w fun e w' => e = .returned (.string (B.first s)) ∧ Below w.heap.size w w' := by
  have HV : Hid (B.first s = B.firstTo s s.size) := hid rfl
  have HS := hid (B.firstTo_succ s)
  have HZ := hid (B.firstTo_size s)
  go_enter Try.func59, Try.ntmps59
  go_wp2
  go_loopw [3, 8] (fun x y wr => ∃ j : Nat, j ≤ s.size ∧ y = .int .i64 j ∧ x = .string (B.firstTo s j) ∧ Below w.heap.size w wr) (fun _ y _ => s.size - (intOf y).toNat)
  case atStart => exact ⟨0, Nat.zero_le _, rfl, rfl, Below.refl _ _⟩
  case round =>
    obtain ⟨j, hj, rfl, rfl, hbel⟩ := hrel
    have HB := hid hbel; clear hbel
    by_cases hlt : j < s.size
    · have HS1 := hid (HS.out j)
      have hz1 := B.size_extract s j s.size
      have hz2 := B.size_extract s 0 j
      have hmn := fun w x y => Lib.run_min_strs (P := Try.prog) w #[9, 9] 9 x y
      have HT : Hid (s.extract j s.size ++ s.extract 0 j = B.turn s j) := hid rfl
      have hlen : (s.extract j s.size).size + (s.extract 0 j).size ≤ 9223372036854775807 := by omega
      have hadd := fun w => run_string_add_sum (P := Try.prog) (w := w) (s.extract j s.size) (s.extract 0 j) hlen
      generalize B.firstTo s j = f at *
      go_wp2
      go_quiet (fail)
      go_wp2
      go_roundw
      case rel => exact ⟨j + 1, by omega, by go_num, by rw [HS1.out, ← HT.out], below_drewN HB.out _⟩
      case measure => simp [intOf]; omega
    · have hje : j = s.size := by omega
      subst hje
      go_wp2
      go_ret
      exact ⟨by rw [HV.out]; rfl, HB.out⟩

theorem B.chk_zero {s : ByteArray} (h : B.chk s = 0) : 1 ≤ s.size ∧ s.size ≤ 24 ∧ s.data.toList.all B.fig = true := by
  unfold B.chk at h
  split at h
  · omega
  · split at h
    · omega
    · split at h
      · rename_i h1 h2 h3; exact ⟨by omega, by omega, h3⟩
      · omega

def B.firstV (s : ByteArray) : ByteArray × Int := if B.chk s = 0 then (B.first s, 0) else (⟨#[]⟩, B.chk s)
def B.sameV (a b : ByteArray) : Bool × Int := if B.chk a = 0 then if B.chk b = 0 then ((B.first a).toList == (B.first b).toList, 0) else (false, B.chk b) else (false, B.chk a)

theorem B.first_size (s : ByteArray) : (B.first s).size = s.size := B.firstTo_size s s.size (Nat.le_refl _)

set_option maxHeartbeats 400000 in
set_option maxRecDepth 100000 in
theorem first_any (s : ByteArray) (w : World) (hm : s.size ≤ maxLen) :
    Calls Try.prog 29 #[.string s] w fun e w' => e = .returned (.tuple #[.string (B.firstV s).1, .int .i64 (B.firstV s).2]) ∧ Below w.heap.size w w' := by
  have CC := hid (fun w => check_any s w hm)
  by_cases h0 : B.chk s = 0
  · have HV : Hid (B.firstV s = (B.first s, 0)) := hid (by unfold B.firstV; rw [if_pos h0])
    have h24 := (B.chk_zero h0).2.1
    have CF := hid (fun w => firstForm_any s w (by omega))
    have hz := B.first_size s
    have CL := hid (fun w => clone_any (B.first s) w (by omega))
    rw [h0] at CC
    clear h0 h24 hz
    generalize B.first s = f at *
    go_enter Try.func29, Try.ntmps29
    go_wp2_with (first | (go_at_call 23; refine (CC.out _).mono ?_; rintro e w1 ⟨rfl, b1⟩; replace b1 := hid b1) | (go_at_call 59; refine (CF.out _).mono ?_; rintro e w2 ⟨rfl, b2⟩; replace b2 := hid b2) | (go_at_call 49; refine (CL.out _).mono ?_; rintro e w3 ⟨rfl, b3⟩; replace b3 := hid b3))
    go_ret2
    exact ⟨by rw [HV.out]; rfl, (b1.out.trans (b2.out.mono b1.out.size)).trans (b3.out.mono (Nat.le_trans b1.out.size b2.out.size))⟩
  · have HV : Hid (B.firstV s = (⟨#[]⟩, B.chk s)) := hid (by unfold B.firstV; rw [if_neg h0])
    have hn : (B.chk s != 0) = true := by simpa using h0
    clear h0
    generalize B.chk s = c at *
    go_enter Try.func29, Try.ntmps29
    go_wp2_with (go_at_call 23; refine (CC.out _).mono ?_; rintro e w1 ⟨rfl, b1⟩; replace b1 := hid b1)
    go_ret2
    exact ⟨by rw [HV.out]; rfl, b1.out⟩

set_option maxHeartbeats 400000 in
set_option maxRecDepth 100000 in
theorem same_any (a b : ByteArray) (w : World) (ha : a.size ≤ maxLen) (hb : b.size ≤ maxLen) :
    Calls Try.prog 31 #[.string a, .string b] w fun e w' => e = .returned (.tuple #[.bool (B.sameV a b).1, .int .i64 (B.sameV a b).2]) ∧ Below w.heap.size w w' := by
  have C1 := hid (fun w => check_any a w ha)
  have C2 := hid (fun w => check_any b w hb)
  by_cases h0 : B.chk a = 0
  · have h24 := (B.chk_zero h0).2.1
    have F1 := hid (fun w => firstForm_any a w (by omega))
    by_cases h1 : B.chk b = 0
    · have HV : Hid (B.sameV a b = ((B.first a).toList == (B.first b).toList, 0)) := hid (by unfold B.sameV; rw [if_pos h0, if_pos h1])
      have h24b := (B.chk_zero h1).2.1
      have F2 := hid (fun w => firstForm_any b w (by omega))
      rw [h0] at C1
      rw [h1] at C2
      clear h0 h1 h24 h24b
      generalize B.first a = f at *
      generalize B.first b = g at *
      go_enter Try.func31, Try.ntmps31
      go_wp2_with (first | (go_at_call_of 23 (Value.string a); refine (C1.out _).mono ?_; rintro e w1 ⟨rfl, b1⟩; replace b1 := hid b1; clear C1) | (go_at_call_of 23 (Value.string b); refine (C2.out _).mono ?_; rintro e w2 ⟨rfl, b2⟩; replace b2 := hid b2) | (go_at_call_of 59 (Value.string a); refine (F1.out _).mono ?_; rintro e w3 ⟨rfl, b3⟩; replace b3 := hid b3; clear F1) | (go_at_call_of 59 (Value.string b); refine (F2.out _).mono ?_; rintro e w4 ⟨rfl, b4⟩; replace b4 := hid b4))
      go_ret2
      have e2 := b1.out.trans (b2.out.mono b1.out.size)
      have e3 := e2.trans (b3.out.mono e2.size)
      exact ⟨by rw [HV.out]; rfl, e3.trans (b4.out.mono e3.size)⟩
    · have HV : Hid (B.sameV a b = (false, B.chk b)) := hid (by unfold B.sameV; rw [if_pos h0, if_neg h1])
      have hn : (B.chk b != 0) = true := by simpa using h1
      rw [h0] at C1
      clear h0 h1 h24
      generalize B.chk b = c at *
      go_enter Try.func31, Try.ntmps31
      go_wp2_with (first | (go_at_call_of 23 (Value.string a); refine (C1.out _).mono ?_; rintro e w1 ⟨rfl, b1⟩; replace b1 := hid b1; clear C1) | (go_at_call_of 23 (Value.string b); refine (C2.out _).mono ?_; rintro e w2 ⟨rfl, b2⟩; replace b2 := hid b2))
      go_ret2
      exact ⟨by rw [HV.out]; rfl, b1.out.trans (b2.out.mono b1.out.size)⟩
  · have HV : Hid (B.sameV a b = (false, B.chk a)) := hid (by unfold B.sameV; rw [if_neg h0])
    have hn : (B.chk a != 0) = true := by simpa using h0
    clear h0
    generalize B.chk a = c at *
    go_enter Try.func31, Try.ntmps31
    go_wp2_with (go_at_call 23; refine (C1.out _).mono ?_; rintro e w1 ⟨rfl, b1⟩; replace b1 := hid b1)
    go_ret2
    exact ⟨by rw [HV.out]; rfl, b1.out⟩
end Go.Proofs.Ytiodcgdjphmffaa
