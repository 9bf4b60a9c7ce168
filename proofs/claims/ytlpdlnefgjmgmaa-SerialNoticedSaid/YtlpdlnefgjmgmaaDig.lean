/- The walks of State, Digit, Right and what they check. -/
import Derived.Test.YtlpdlnefgjmgmaaChk
import Derived.Test.YtlpdlnefgjmgmaaAfter
namespace Go.Proofs.Ytlpdlnefgjmgmaa
open Go.RowKit

def P.checkDigits (T : List (List Int)) (l : List Int) (least : Int) : Int :=
  if P.check T ≠ 0 then P.check T else if (l.length : Int) < least then 1 else if 12 < l.length then 2 else if P.outside l T.length = true then 4 else 0

set_option maxHeartbeats 400000 in
theorem checkDigits_any (a ad : Option Addr) (c cd : Nat) (T : List (List Int)) (l : List Int) (least : Int) (w : World) (hm : l.length ≤ maxLen) (hT : RdM w a T) (hx : RdI w ad l) :
    Calls Try.prog 27 #[.slice a T.length c, .slice ad l.length cd, .int .i64 least] w fun e w' => e = .returned (.int .i64 (P.checkDigits T l least)) ∧ Below w.heap.size w w' := by
  have hcall := check_any a c T w hT
  have hcall2 := fun w' (hb : Below w.heap.size w w') => outside_any ad cd l (T.length : Int) w' hm (hx.stays hb)
  clear hT hx
  unfold P.checkDigits
  generalize P.check T = e0 at *
  generalize P.outside l (T.length : Int) = ob at *
  have HC2 := hid hcall2; clear hcall2
  unfold maxLen at hm
  by_cases h0 : e0 = 0
  · subst h0
    have HC := hid hcall; clear hcall
    rw [if_neg (by simp)]
    by_cases h1 : (l.length : Int) < least
    · rw [if_pos h1]
      go_enter Try.func27, Try.ntmps27
      go_wp2_with (go_at_call 41; refine HC.out.mono ?_; rintro e w' ⟨rfl, hb⟩)
      go_ret
      exact ⟨rfl, hb⟩
    rw [if_neg h1]
    by_cases h2 : 12 < l.length
    · rw [if_pos h2]
      go_enter Try.func27, Try.ntmps27
      go_wp2_with (go_at_call 41; refine HC.out.mono ?_; rintro e w' ⟨rfl, hb⟩)
      go_ret
      exact ⟨rfl, hb⟩
    rw [if_neg h2]
    cases ob
    all_goals
      go_enter Try.func27, Try.ntmps27
      go_wp2_with fail
      refine HC.out.mono ?_
      rintro e w' ⟨rfl, hb⟩
      have HC3 := hid (HC2.out w' hb)
      have HB := hid hb; clear hb
      go_wp2_with (go_at_call 45; refine HC3.out.mono ?_; rintro e w2 ⟨rfl, rfl⟩)
      go_ret
      exact ⟨rfl, HB.out⟩
  · have ht : (e0 != 0) = true := by simpa using h0
    rw [if_pos h0]
    have HC := hid hcall; clear hcall h0
    go_enter Try.func27, Try.ntmps27
    go_wp2_with (go_at_call 41; refine HC.out.mono ?_; rintro e w' ⟨rfl, hb⟩)
    go_ret
    exact ⟨rfl, hb⟩

/-- What checkDigits' OK says. -/
theorem digits_ok {T : List (List Int)} {l : List Int} {least : Int} (h : P.checkDigits T l least = 0) : Tab T ∧ least ≤ l.length ∧ l.length ≤ 12 ∧ Dg T.length l := by
  unfold P.checkDigits at h
  split at h
  · rename_i h1; exact absurd h h1
  rename_i h1
  split at h
  · omega
  rename_i h2
  split at h
  · omega
  rename_i h3
  split at h
  · omega
  rename_i h4
  exact ⟨tab_of_check (by simpa using h1), by omega, by omega, fun k hk => P.outside_false (by simpa using h4) k hk⟩

def P.state (T : List (List Int)) (l : List Int) : Int × Int := if P.checkDigits T l 0 ≠ 0 then (0, P.checkDigits T l 0) else ((P.after T l : Nat), 0)
def P.digit (T : List (List Int)) (l : List Int) : Int × Int := if P.checkDigits T l 0 ≠ 0 then (0, P.checkDigits T l 0) else (P.zeroAt T (P.after T l) T.length 0, 0)
def P.right (T : List (List Int)) (l : List Int) : Int := if P.checkDigits T l 2 ≠ 0 then P.checkDigits T l 2 else if P.after T l ≠ 0 then 13 else 0

set_option maxHeartbeats 400000 in
theorem state_any (a ad : Option Addr) (c cd : Nat) (T : List (List Int)) (l : List Int) (w : World) (hm : l.length ≤ maxLen) (hT : RdM w a T) (hx : RdI w ad l) :
    Calls Try.prog 22 #[.slice a T.length c, .slice ad l.length cd] w fun e w' => e = .returned (.tuple #[.int .i64 (P.state T l).1, .int .i64 (P.state T l).2]) ∧ Below w.heap.size w w' := by
  have hcall := checkDigits_any a ad c cd T l 0 w hm hT hx
  unfold P.state
  by_cases h0 : P.checkDigits T l 0 = 0
  · obtain ⟨ht, _, _, hd⟩ := digits_ok h0
    have hcall2 := fun w' (hb : Below w.heap.size w w') => after_any a ad c cd T l w' hm (hT.stays hb) ht.sq (by have := ht.lo; omega) (hx.stays hb) hd
    rw [h0] at hcall
    rw [if_neg (by simp [h0])]
    have HC := hid hcall; clear hcall
    have HC2 := hid hcall2; clear hcall2
    clear h0 ht hd hT hx hm
    go_enter Try.func22, Try.ntmps22
    go_wp2_with fail
    refine HC.out.mono ?_
    rintro e w' ⟨rfl, hb⟩
    have HC3 := hid (HC2.out w' hb)
    have HB := hid hb; clear hb
    go_wp2_with (go_at_call 28; refine HC3.out.mono ?_; rintro e w2 ⟨rfl, hb2⟩)
    go_ret2
    exact ⟨rfl, HB.out.trans (hb2.mono HB.out.size)⟩
  · rw [if_pos h0]
    generalize P.checkDigits T l 0 = e0 at *
    have ht : (e0 != 0) = true := by simpa using h0
    have HC := hid hcall; clear hcall h0 hT hx hm
    go_enter Try.func22, Try.ntmps22
    go_wp2_with (go_at_call 27; refine HC.out.mono ?_; rintro e w' ⟨rfl, hb⟩)
    go_ret2
    exact ⟨rfl, hb⟩

set_option maxHeartbeats 400000 in
theorem digit_any (a ad : Option Addr) (c cd : Nat) (T : List (List Int)) (l : List Int) (w : World) (hm : l.length ≤ maxLen) (hT : RdM w a T) (hx : RdI w ad l) :
    Calls Try.prog 21 #[.slice a T.length c, .slice ad l.length cd] w fun e w' => e = .returned (.tuple #[.int .i64 (P.digit T l).1, .int .i64 (P.digit T l).2]) ∧ Below w.heap.size w w' := by
  have hcall := checkDigits_any a ad c cd T l 0 w hm hT hx
  unfold P.digit
  by_cases h0 : P.checkDigits T l 0 = 0
  · obtain ⟨ht, _, _, hd⟩ := digits_ok h0
    have hcall2 := fun w' (hb : Below w.heap.size w w') => checkDigit_any a ad c cd T l w' hm (hT.stays hb) ht.sq (by have := ht.lo; omega) ht.hi (hx.stays hb) hd
    rw [h0] at hcall
    rw [if_neg (by simp [h0])]
    have HC := hid hcall; clear hcall
    have HC2 := hid hcall2; clear hcall2
    clear h0 ht hd hT hx hm
    go_enter Try.func21, Try.ntmps21
    go_wp2_with fail
    refine HC.out.mono ?_
    rintro e w' ⟨rfl, hb⟩
    have HC3 := hid (HC2.out w' hb)
    have HB := hid hb; clear hb
    go_wp2_with (go_at_call 42; refine HC3.out.mono ?_; rintro e w2 ⟨rfl, hb2⟩)
    go_ret2
    exact ⟨rfl, HB.out.trans (hb2.mono HB.out.size)⟩
  · rw [if_pos h0]
    generalize P.checkDigits T l 0 = e0 at *
    have ht : (e0 != 0) = true := by simpa using h0
    have HC := hid hcall; clear hcall h0 hT hx hm
    go_enter Try.func21, Try.ntmps21
    go_wp2_with (go_at_call 27; refine HC.out.mono ?_; rintro e w' ⟨rfl, hb⟩)
    go_ret2
    exact ⟨rfl, hb⟩

set_option maxHeartbeats 400000 in
theorem right_any (a ad : Option Addr) (c cd : Nat) (T : List (List Int)) (l : List Int) (w : World) (hm : l.length ≤ maxLen) (hT : RdM w a T) (hx : RdI w ad l) :
    Calls Try.prog 13 #[.slice a T.length c, .slice ad l.length cd] w fun e w' => e = .returned (.int .i64 (P.right T l)) ∧ Below w.heap.size w w' := by
  have hcall := checkDigits_any a ad c cd T l 2 w hm hT hx
  unfold P.right
  by_cases h0 : P.checkDigits T l 2 = 0
  · obtain ⟨ht, _, _, hd⟩ := digits_ok h0
    have hcall2 := fun w' (hb : Below w.heap.size w w') => after_any a ad c cd T l w' hm (hT.stays hb) ht.sq (by have := ht.lo; omega) (hx.stays hb) hd
    rw [h0] at hcall
    rw [if_neg (by simp [h0])]
    have HC := hid hcall; clear hcall
    have HC2 := hid hcall2; clear hcall2
    clear h0 ht hd hT hx hm
    generalize P.after T l = s at *
    by_cases hs : s = 0
    · subst hs
      go_enter Try.func13, Try.ntmps13
      go_wp2_with fail
      refine HC.out.mono ?_
      rintro e w' ⟨rfl, hb⟩
      have HC3 := hid (HC2.out w' hb)
      have HB := hid hb; clear hb
      go_wp2_with (go_at_call 28; refine HC3.out.mono ?_; rintro e w2 ⟨rfl, hb2⟩)
      go_ret
      exact ⟨rfl, HB.out.trans (hb2.mono HB.out.size)⟩
    · have hb0 : ((s : Int) != 0) = true := by simp; omega
      rw [if_pos hs]
      clear hs
      go_enter Try.func13, Try.ntmps13
      go_wp2_with fail
      refine HC.out.mono ?_
      rintro e w' ⟨rfl, hb⟩
      have HC3 := hid (HC2.out w' hb)
      have HB := hid hb; clear hb
      go_wp2_with (go_at_call 28; refine HC3.out.mono ?_; rintro e w2 ⟨rfl, hb2⟩)
      go_ret
      exact ⟨rfl, HB.out.trans (hb2.mono HB.out.size)⟩
  · rw [if_pos h0]
    generalize P.checkDigits T l 2 = e0 at *
    have ht : (e0 != 0) = true := by simpa using h0
    have HC := hid hcall; clear hcall h0 hT hx hm
    go_enter Try.func13, Try.ntmps13
    go_wp2_with (go_at_call 27; refine HC.out.mono ?_; rintro e w' ⟨rfl, hb⟩)
    go_ret
    exact ⟨rfl, hb⟩

/-- The error of Fixes and Swaps. -/
def P.wrong (T : List (List Int)) (l : List Int) : Int := if P.right T l = 13 then 0 else if P.right T l = 0 then 20 else P.right T l

set_option maxHeartbeats 400000 in
theorem checkWrong_any (a ad : Option Addr) (c cd : Nat) (T : List (List Int)) (l : List Int) (w : World) (hm : l.length ≤ maxLen) (hT : RdM w a T) (hx : RdI w ad l) :
    Calls Try.prog 37 #[.slice a T.length c, .slice ad l.length cd] w fun e w' => e = .returned (.int .i64 (P.wrong T l)) ∧ Below w.heap.size w w' := by
  have hcall := right_any a ad c cd T l w hm hT hx
  unfold P.wrong
  clear hT hx hm
  generalize P.right T l = e0 at *
  by_cases h1 : e0 = 13
  · subst h1
    have HC := hid hcall; clear hcall
    go_enter Try.func37, Try.ntmps37
    go_wp2_with (go_at_call 13; refine HC.out.mono ?_; rintro e w' ⟨rfl, hb⟩)
    go_ret
    exact ⟨rfl, hb⟩
  by_cases h2 : e0 = 0
  · subst h2
    have HC := hid hcall; clear hcall
    go_enter Try.func37, Try.ntmps37
    go_wp2_with (go_at_call 13; refine HC.out.mono ?_; rintro e w' ⟨rfl, hb⟩)
    go_ret
    exact ⟨rfl, hb⟩
  rw [if_neg h1, if_neg h2]
  have t1 : (e0 == 13) = false := by simpa using h1
  have t2 : (e0 == 0) = false := by simpa using h2
  have HC := hid hcall; clear hcall h1 h2
  go_enter Try.func37, Try.ntmps37
  go_wp2_with (go_at_call 13; refine HC.out.mono ?_; rintro e w' ⟨rfl, hb⟩)
  go_ret
  exact ⟨rfl, hb⟩

end Go.Proofs.Ytlpdlnefgjmgmaa
