/- The walks of the document's own answers for State, Digit, Right and Restore. -/
import Derived.Test.YtafpfcjemlonpaaRefChk
import Derived.Test.YtafpfcjemlonpaaFixb
namespace Go.Proofs.Ytafpfcjemlonpaa
open Go.RowKit

/-- An error of a table or of the number of digits. -/
def P.early (T : List (List Int)) (l : List Int) : Int := if P.check T ≠ 0 then P.check T else if 12 < l.length then 2 else 0

theorem P.checkDigits_early {T : List (List Int)} {l : List Int} : P.checkDigits T l 0 = if P.early T l ≠ 0 then P.early T l else if P.outside l T.length = true then 4 else 0 := by
  unfold P.checkDigits P.early
  by_cases h0 : P.check T = 0
  · have h3 : ¬ ((l.length : Int) < 0) := by omega
    by_cases h1 : 12 < l.length <;> simp [h0, h1, h3]
  · rw [if_pos h0, if_pos h0, if_pos h0]

/-- What the loop over digits comes to after k rounds. -/
def P.late (T : List (List Int)) (l : List Int) (k : Nat) : Int := if P.early T l ≠ 0 then P.early T l else if P.outside (l.take k) T.length = true then 4 else 0

theorem P.late_all (T : List (List Int)) (l : List Int) : P.late T l l.length = P.checkDigits T l 0 := by
  rw [P.checkDigits_early]; unfold P.late; rw [List.take_length]

set_option maxHeartbeats 2000000 in
theorem refDigits_any (a ad : Option Addr) (c cd : Nat) (T : List (List Int)) (l : List Int) (w : World) (hm : l.length ≤ maxLen) (hT : RdM w a T) (hx : RdI w ad l) :
    Calls Try.prog 68 #[.slice a T.length c, .slice ad l.length cd] w fun e w' => e = .returned (.int .i64 (P.checkDigits T l 0)) ∧ Below w.heap.size w w' := by
  have hcall := refCheck_any a c T w hT
  have hsmall : P.check T = 0 → T.length ≤ 10 := fun h => (tab_of_check h).hi
  unfold maxLen at hm
  rw [← P.late_all]
  have cases3 : (P.check T ≠ 0 ∧ P.early T l = P.check T) ∨ (P.check T = 0 ∧ 12 < l.length ∧ P.early T l = 2) ∨ (P.check T = 0 ∧ ¬ 12 < l.length ∧ P.early T l = 0) := by
    unfold P.early
    by_cases h0 : P.check T = 0
    · by_cases h1 : 12 < l.length
      · exact Or.inr (Or.inl ⟨h0, h1, by rw [if_neg (by simp [h0]), if_pos h1]⟩)
      · exact Or.inr (Or.inr ⟨h0, h1, by rw [if_neg (by simp [h0]), if_neg h1]⟩)
    · exact Or.inl ⟨h0, by rw [if_pos h0]⟩
  have HX := hid (fun w' (hb : Below w.heap.size w w') => hx.stays hb)
  have HS := hid hsmall
  clear hT hx hsmall
  rcases cases3 with ⟨h0, h1⟩ | ⟨h0, h1, h2⟩ | ⟨h0, h1, h2⟩
  · have HE : Hid (∀ k, P.late T l k = P.check T) := hid (fun k => by unfold P.late; rw [h1, if_pos h0])
    clear h1
    generalize P.check T = e0 at *
    have t1 : (e0 == 0) = false := by rw [beq_eq_false_iff_ne]; exact h0
    have HC := hid hcall
    clear hcall h0
    go_enter Try.func68, Try.ntmps68
    go_wp2_with fail
    refine HC.out.mono ?_
    rintro e w1 ⟨rfl, hb⟩
    have HB := hid hb; clear hb
    go_wp2
    go_loop [5, 6] (fun v i => ∃ k : Nat, k ≤ l.length ∧ i = .int .i64 k ∧ v = .int .i64 e0) (fun _ i => l.length - (intOf i).toNat)
    case atStart => exact ⟨0, Nat.zero_le _, rfl, rfl⟩
    case round =>
      obtain ⟨k, hk, rfl, rfl⟩ := hrel
      by_cases hlt : k < l.length
      · go_wp2
        go_round
        case rel => exact ⟨k + 1, by omega, by go_num, rfl⟩
        case measure => simp [intOf]; omega
      · go_wp2
        go_ret
        exact ⟨ret_int (HE.out _).symm, HB.out⟩
  · have HE : Hid (∀ k, P.late T l k = 2) := hid (fun k => by unfold P.late; rw [h2, if_pos (by decide)])
    rw [h0] at hcall
    have HC := hid hcall
    clear hcall h0 h2
    go_enter Try.func68, Try.ntmps68
    go_wp2_with fail
    refine HC.out.mono ?_
    rintro e w1 ⟨rfl, hb⟩
    have HB := hid hb; clear hb
    go_wp2
    go_loop [5, 6] (fun v i => ∃ k : Nat, k ≤ l.length ∧ i = .int .i64 k ∧ v = .int .i64 2) (fun _ i => l.length - (intOf i).toNat)
    case atStart => exact ⟨0, Nat.zero_le _, rfl, rfl⟩
    case round =>
      obtain ⟨k, hk, rfl, rfl⟩ := hrel
      by_cases hlt : k < l.length
      · go_wp2
        go_round
        case rel => exact ⟨k + 1, by omega, by go_num, rfl⟩
        case measure => simp [intOf]; omega
      · go_wp2
        go_ret
        exact ⟨ret_int (HE.out _).symm, HB.out⟩
  · have h10 := HS.out h0
    have HE : Hid (∀ k, P.late T l k = if P.outside (l.take k) T.length = true then 4 else 0) := hid (fun k => by unfold P.late; rw [h2, if_neg (by simp)])
    rw [h0] at hcall
    have HC := hid hcall
    clear hcall h0 h2
    go_enter Try.func68, Try.ntmps68
    go_wp2_with fail
    refine HC.out.mono ?_
    rintro e w1 ⟨rfl, hb⟩
    have HX2 := hid (HX.out w1 hb)
    have HB := hid hb; clear hb HX
    go_wp2
    go_loop [5, 6] (fun v i => ∃ (k : Nat) (b : Bool), k ≤ l.length ∧ i = .int .i64 k ∧ v = .int .i64 (if b = true then 4 else 0) ∧ P.outside (l.take k) T.length = b) (fun _ i => l.length - (intOf i).toNat)
    case atStart => exact ⟨0, false, Nat.zero_le _, rfl, rfl, rfl⟩
    case round =>
      obtain ⟨k, b, hk, rfl, rfl, hb⟩ := hrel
      have HOB := hid hb; clear hb
      by_cases hlt : k < l.length
      · obtain ⟨b', off', rfl, hcd⟩ := HX2.out k hlt
        have hs := P.outside_take_succ l (T.length : Int) k hlt
        have hix : (0 : Int) ≤ (k : Int) ∧ (k : Int) < (l.length : Int) := by omega
        generalize l[k] = x at *
        cases b
        · by_cases hx : 0 ≤ x ∧ x ≤ (T.length : Int) - 1
          · have HI2 := hid (is_yes hx w1)
            have HS1 : Hid (P.outside (l.take (k + 1)) T.length = false) := hid (by
              rw [hs, HOB.out, decide_eq_false (show ¬ x < 0 by omega), decide_eq_false (show ¬ (T.length : Int) ≤ x by omega)]; rfl)
            clear hs hx
            go_wp2_with (go_at_call 57; refine HI2.out.mono ?_; rintro e w' ⟨rfl, rfl⟩)
            go_round
            case rel => exact ⟨k + 1, false, by omega, by go_num, rfl, HS1.out⟩
            case measure => simp [intOf]; omega
          · have HI2 := hid (is_no hx w1)
            have HS1 : Hid (P.outside (l.take (k + 1)) T.length = true) := hid (by
              rw [hs, HOB.out]
              by_cases h0 : x < 0
              · rw [decide_eq_true h0]; rfl
              · rw [decide_eq_true (show (T.length : Int) ≤ x by omega)]; simp)
            clear hs hx
            go_wp2_with (go_at_call 57; refine HI2.out.mono ?_; rintro e w' ⟨rfl, rfl⟩)
            go_round
            case rel => exact ⟨k + 1, true, by omega, by go_num, rfl, HS1.out⟩
            case measure => simp [intOf]; omega
        · have HS1 : Hid (P.outside (l.take (k + 1)) T.length = true) := hid (by rw [hs, HOB.out]; rfl)
          clear hs
          go_wp2
          go_round
          case rel => exact ⟨k + 1, true, by omega, by go_num, rfl, HS1.out⟩
          case measure => simp [intOf]; omega
      · have hk' : k = l.length := by omega
        subst hk'
        cases b
        all_goals
          go_wp2
          go_ret
          exact ⟨ret_int (by have h := HE.out l.length; rw [HOB.out] at h; exact h.symm), HB.out⟩

set_option maxHeartbeats 1000000 in
theorem refState_any (a ad : Option Addr) (c cd n : Nat) (T : List (List Int)) (xs : List Int) (w : World) (hn : xs.length = n) (hm : n ≤ maxLen) (hT : RdM w a T) (hq : Sq T) (h0 : 0 < T.length)
    (hx : RdI w ad xs) (hd : Dg T.length xs) :
    Calls Try.prog 69 #[.slice a T.length c, .slice ad n cd] w fun e w' => e = .returned (.int .i64 (P.after T xs : Nat)) ∧ Below w.heap.size w w' := by
  subst hn
  unfold maxLen at hm
  have HT := hid hT
  have HX := hid hx
  have HQ := hid hq
  have HD := hid hd
  clear hT hx hq hd
  go_enter Try.func69, Try.ntmps69
  go_wp2
  go_loopw [5, 6] (fun t i wr => ∃ k : Nat, k ≤ xs.length ∧ i = .int .i64 k ∧ t = .int .i64 (P.after T (xs.take k) : Nat) ∧ Quiet w wr) (fun _ i _ => xs.length - (intOf i).toNat)
  case atStart => exact ⟨0, Nat.zero_le _, rfl, rfl, 0, rfl⟩
  case round =>
    obtain ⟨k, hk, rfl, rfl, hqw⟩ := hrel
    have QW := hid hqw
    by_cases hlt : k < xs.length
    · have hs := P.after_take T xs k hlt
      have hb := HQ.out.after_lt h0 _ (HD.out.take k)
      have hdk := HD.out k hlt
      obtain ⟨b, off, rfl, hc⟩ := (HX.out.stays hqw.below) k hlt
      generalize P.after T (xs.take k) = s at *
      obtain ⟨b0, o0, b1, o1, c1, rfl, r1, k1⟩ := (HT.out.stays hqw.below).row HQ.out hb
      generalize xs[k] = x at *
      obtain ⟨d, rfl⟩ := Int.eq_ofNat_of_zero_le hdk.1
      have hd' : d < T.length := by omega
      have x1 := k1 d hd'
      rw [Int.toNat_natCast] at hs
      have HS := hid hs
      have i1 : (0 : Int) ≤ (s : Int) ∧ (s : Int) < (T.length : Int) := by omega
      have i2 : (0 : Int) ≤ (d : Int) ∧ (d : Int) < (T.length : Int) := by omega
      have i3 : (0 : Int) ≤ (k : Int) ∧ (k : Int) < (xs.length : Int) := by omega
      clear hs k1 hdk hqw
      generalize P.at T s d = y at *
      go_wp2
      go_quiet (fail)
      go_wp2
      go_roundw
      case rel => exact ⟨k + 1, by omega, by go_num, by rw [HS.out], QW.out.drewN _⟩
      case measure => simp [intOf]; omega
    · have hk' : k = xs.length := by omega
      subst hk'
      rw [List.take_length]
      clear hqw
      go_wp2
      go_ret
      exact ⟨rfl, QW.out.below⟩

set_option maxHeartbeats 1000000 in
theorem refStateF_any (a ad : Option Addr) (c cd : Nat) (T : List (List Int)) (l : List Int) (w : World) (hm : l.length ≤ maxLen) (hT : RdM w a T) (hx : RdI w ad l) :
    Calls Try.prog 32 #[.slice a T.length c, .slice ad l.length cd] w fun e w' => e = .returned (.tuple #[.int .i64 (P.state T l).1, .int .i64 (P.state T l).2]) ∧ Below w.heap.size w w' := by
  have hcall := refDigits_any a ad c cd T l w hm hT hx
  unfold P.state
  by_cases h0 : P.checkDigits T l 0 = 0
  · obtain ⟨ht, _, _, hd⟩ := digits_ok h0
    have hcall2 := fun w' (hb : Below w.heap.size w w') => refState_any a ad c cd l.length T l w' rfl hm (hT.stays hb) ht.sq (by have := ht.lo; omega) (hx.stays hb) hd
    rw [h0] at hcall
    rw [if_neg (by simp [h0])]
    have HC := hid hcall; clear hcall
    have HC2 := hid hcall2; clear hcall2
    clear h0 ht hd hT hx hm
    go_enter Try.func32, Try.ntmps32
    go_wp2_with fail
    refine HC.out.mono ?_
    rintro e w' ⟨rfl, hb⟩
    have HC3 := hid (HC2.out w' hb)
    have HB := hid hb; clear hb
    go_wp2_with (go_at_call 69; refine HC3.out.mono ?_; rintro e w2 ⟨rfl, hb2⟩)
    go_ret2
    exact ⟨rfl, HB.out.trans (hb2.mono HB.out.size)⟩
  · rw [if_pos h0]
    generalize P.checkDigits T l 0 = e0 at *
    have ht : (e0 != 0) = true := by simpa using h0
    have HC := hid hcall; clear hcall h0 hT hx hm
    go_enter Try.func32, Try.ntmps32
    go_wp2_with (go_at_call 68; refine HC.out.mono ?_; rintro e w' ⟨rfl, hb⟩)
    go_ret2
    exact ⟨rfl, hb⟩

/-- Where 0 is in a row. -/
theorem Tab.zeroAt {T : List (List Int)} (h : Tab T) {s : Nat} (hs : s < T.length) : ∃ d : Nat, d < T.length ∧ P.at T s d = 0 ∧ P.zeroAt T s T.length 0 = (d : Int) ∧ ∀ i, i < d → P.at T s i ≠ 0 := by
  obtain ⟨d, hd, hz⟩ := h.zero hs
  have hu : ∀ i, i < d → P.at T s i ≠ 0 := fun i hi hz2 => by
    have := h.row_inj hs i d (by omega) hd (by rw [hz, hz2])
    omega
  exact ⟨d, hd, hz, P.zeroAt_eq T s T.length 0 d (Nat.zero_le _) (by omega) hz (fun i _ hi => hu i hi), hu⟩

set_option maxHeartbeats 1000000 in
theorem refDigit_any (a ad : Option Addr) (c cd : Nat) (T : List (List Int)) (l : List Int) (w : World) (hm : l.length ≤ maxLen) (hT : RdM w a T) (hx : RdI w ad l) :
    Calls Try.prog 34 #[.slice a T.length c, .slice ad l.length cd] w fun e w' => e = .returned (.tuple #[.int .i64 (P.digit T l).1, .int .i64 (P.digit T l).2]) ∧ Below w.heap.size w w' := by
  have hcall := refStateF_any a ad c cd T l w hm hT hx
  unfold P.digit
  unfold P.state at hcall
  by_cases h0 : P.checkDigits T l 0 = 0
  · obtain ⟨ht, _, _, hd⟩ := digits_ok h0
    rw [if_neg (by simp [h0])] at hcall
    rw [if_neg (by simp [h0])]
    have hs := ht.sq.after_lt (by have := ht.lo; omega) l hd
    obtain ⟨d0, hd0, hz, hz2, hu⟩ := ht.zeroAt hs
    rw [hz2]
    have h10 := ht.hi
    have HRow := hid (fun w' (hb : Below w.heap.size w w') => (hT.stays hb).row ht.sq hs)
    generalize P.after T l = s at *
    have HC := hid hcall; clear hcall
    have HZ := hid hz
    have HU := hid hu
    clear h0 ht hd hT hx hm hz hz2 hu
    go_enter Try.func34, Try.ntmps34
    go_wp2_with fail
    refine HC.out.mono ?_
    rintro e w1 ⟨rfl, hb⟩
    obtain ⟨b0, o0, b1, o1, c1, rfl, r1, k1⟩ := HRow.out w1 hb
    have HB := hid hb
    have HK := hid k1
    clear hb k1
    have i1 : (0 : Int) ≤ (s : Int) ∧ (s : Int) < (T.length : Int) := by omega
    go_wp2
    go_loop [8] (fun i => ∃ k : Nat, k ≤ d0 ∧ i = .int .i64 k) (fun i => d0 - (intOf i).toNat)
    case atStart => exact ⟨0, Nat.zero_le _, rfl⟩
    case round =>
      obtain ⟨k, hk, rfl⟩ := hrel
      have hck := HK.out k (by omega)
      have i2 : (0 : Int) ≤ (k : Int) ∧ (k : Int) < (T.length : Int) := by omega
      by_cases he : k = d0
      · subst he
        rw [HZ.out] at hck
        go_wp2
        go_ret2
        exact ⟨rfl, HB.out⟩
      · have hne := HU.out k (by omega)
        generalize P.at T s k = x at hck hne
        have ht : ((x : Int) != 0) = true := by simp; omega
        go_wp2
        go_round
        case rel => exact ⟨k + 1, by omega, by go_num⟩
        case measure => simp [intOf]; omega
  · rw [if_pos h0] at hcall
    rw [if_pos h0]
    generalize P.checkDigits T l 0 = e0 at *
    have ht : (e0 != 0) = true := by simpa using h0
    have HC := hid hcall; clear hcall h0 hT hx hm
    go_enter Try.func34, Try.ntmps34
    go_wp2_with (go_at_call 32; refine HC.out.mono ?_; rintro e w' ⟨rfl, hb⟩)
    go_ret2
    exact ⟨rfl, hb⟩

theorem P.checkDigits_two (T : List (List Int)) (l : List Int) : P.checkDigits T l 2 = if P.check T ≠ 0 then P.check T else if l.length < 2 then 1 else P.checkDigits T l 0 := by
  unfold P.checkDigits
  by_cases h0 : P.check T = 0
  · have h3 : ¬ ((l.length : Int) < 0) := by omega
    by_cases h1 : l.length < 2
    · have h4 : (l.length : Int) < 2 := by omega
      simp [h0, h1, h4]
    · have h4 : ¬ (l.length : Int) < 2 := by omega
      simp [h0, h1, h3, h4]
  · simp [h0]

set_option maxHeartbeats 1000000 in
theorem refCoded_any (a ad : Option Addr) (c cd : Nat) (T : List (List Int)) (l : List Int) (w : World) (hm : l.length ≤ maxLen) (hT : RdM w a T) (hx : RdI w ad l) :
    Calls Try.prog 72 #[.slice a T.length c, .slice ad l.length cd] w fun e w' => e = .returned (.int .i64 (P.checkDigits T l 2)) ∧ Below w.heap.size w w' := by
  have hcall := refCheck_any a c T w hT
  have hcall2 := fun w' (hb : Below w.heap.size w w') => refDigits_any a ad c cd T l w' hm (hT.stays hb) (hx.stays hb)
  rw [P.checkDigits_two]
  generalize P.checkDigits T l 0 = e2 at *
  generalize P.check T = e0 at *
  have HC2 := hid hcall2
  clear hT hx hm hcall2
  by_cases h0 : e0 = 0
  · subst h0
    have HC := hid hcall; clear hcall
    rw [if_neg (by simp)]
    by_cases h1 : l.length < 2
    · rw [if_pos h1]
      go_enter Try.func72, Try.ntmps72
      go_wp2_with (go_at_call 30; refine HC.out.mono ?_; rintro e w' ⟨rfl, hb⟩)
      go_ret
      exact ⟨rfl, hb⟩
    · rw [if_neg h1]
      go_enter Try.func72, Try.ntmps72
      go_wp2_with fail
      refine HC.out.mono ?_
      rintro e w' ⟨rfl, hb⟩
      have HC3 := hid (HC2.out w' hb)
      have HB := hid hb; clear hb
      go_wp2_with (go_at_call 68; refine HC3.out.mono ?_; rintro e w2 ⟨rfl, hb2⟩)
      go_ret
      exact ⟨rfl, HB.out.trans (hb2.mono HB.out.size)⟩
  · rw [if_pos h0]
    have ht : (e0 == 0) = false := by rw [beq_eq_false_iff_ne]; exact h0
    have HC := hid hcall; clear hcall h0
    go_enter Try.func72, Try.ntmps72
    go_wp2_with (go_at_call 30; refine HC.out.mono ?_; rintro e w' ⟨rfl, hb⟩)
    go_ret
    exact ⟨rfl, hb⟩

set_option maxHeartbeats 1000000 in
theorem refRight_any (a ad : Option Addr) (c cd : Nat) (T : List (List Int)) (l : List Int) (w : World) (hm : l.length ≤ maxLen) (hT : RdM w a T) (hx : RdI w ad l) :
    Calls Try.prog 38 #[.slice a T.length c, .slice ad l.length cd] w fun e w' => e = .returned (.int .i64 (P.right T l)) ∧ Below w.heap.size w w' := by
  have hcall := refCoded_any a ad c cd T l w hm hT hx
  unfold P.right
  by_cases h0 : P.checkDigits T l 2 = 0
  · obtain ⟨ht, _, _, hd⟩ := digits_ok h0
    have hcall2 := fun w' (hb : Below w.heap.size w w') => refState_any a ad c cd l.length T l w' rfl hm (hT.stays hb) ht.sq (by have := ht.lo; omega) (hx.stays hb) hd
    rw [h0] at hcall
    rw [if_neg (by simp [h0])]
    have HC := hid hcall; clear hcall
    generalize P.after T l = s at *
    have HC2 := hid hcall2; clear hcall2
    clear h0 ht hd hT hx hm
    have both : s = 0 ∧ (if s ≠ 0 then (13 : Int) else 0) = 0 ∨ ((s : Int) != 0) = true ∧ (if s ≠ 0 then (13 : Int) else 0) = 13 := by
      by_cases hs : s = 0
      · exact Or.inl ⟨hs, by simp [hs]⟩
      · exact Or.inr ⟨by simp; omega, by simp [hs]⟩
    rcases both with ⟨rfl, h2⟩ | ⟨h1, h2⟩
    all_goals
      rw [h2]
      clear h2
      go_enter Try.func38, Try.ntmps38
      go_wp2_with fail
      refine HC.out.mono ?_
      rintro e w' ⟨rfl, hb⟩
      have HC3 := hid (HC2.out w' hb)
      have HB := hid hb; clear hb
      go_wp2_with (go_at_call 69; refine HC3.out.mono ?_; rintro e w2 ⟨rfl, hb2⟩)
      go_ret
      exact ⟨rfl, HB.out.trans (hb2.mono HB.out.size)⟩
  · rw [if_pos h0]
    generalize P.checkDigits T l 2 = e0 at *
    have ht : (e0 == 0) = false := by rw [beq_eq_false_iff_ne]; exact h0
    have HC := hid hcall; clear hcall h0 hT hx hm
    go_enter Try.func38, Try.ntmps38
    go_wp2_with (go_at_call 72; refine HC.out.mono ?_; rintro e w' ⟨rfl, hb⟩)
    go_ret
    exact ⟨rfl, hb⟩

end Go.Proofs.Ytafpfcjemlonpaa
