/- Package fold: the walks of checkLengths, Check and done. -/
import Derived.Test.YthaplnkmjggcfaaProg
import Derived.Test.YthaplnkmjggcfaaBase
import Derived.BigQuiet
import Derived.Deep.QuietTactic
namespace Go.Proofs.Ythaplnkmjggcfaa
open Go.RowKit
namespace F

/-- One of some lengths is not from 1 to 350. -/
def bad (l : List Int) : Bool := l.any fun x => decide (x < 1) || decide (350 < x)

def lens (l : List Int) : Int := if l.length = 0 then 1 else if 7 < l.length then 2 else if bad l = true then 3 else if 350 < l.sum then 16 else 0

theorem bad_take_succ (l : List Int) (k : Nat) (h : k < l.length) : bad (l.take (k + 1)) = (bad (l.take k) || (decide (l[k] < 1) || decide (350 < l[k]))) := by
  unfold bad
  rw [List.take_succ_eq_append_getElem h, List.any_append]
  simp

theorem bad_of_at (l : List Int) (k : Nat) (h : k < l.length) (hx : l[k] < 1 ∨ 350 < l[k]) : bad l = true := by
  unfold bad
  rw [List.any_eq_true]
  exact ⟨l[k], List.getElem_mem h, by simpa using hx⟩

theorem good_at {l : List Int} (h : bad l = false) (k : Nat) (hk : k < l.length) : 1 ≤ l[k] ∧ l[k] ≤ 350 := by
  unfold bad at h
  rw [List.any_eq_false] at h
  have := h _ (List.getElem_mem hk)
  simp at this
  omega

theorem sum_take (l : List Int) (k : Nat) (h : k < l.length) : (l.take (k + 1)).sum = (l.take k).sum + l[k] := by
  rw [List.take_succ_eq_append_getElem h, List.sum_append]
  simp

theorem sum_bound {l : List Int} : ∀ k, k ≤ l.length → bad (l.take k) = false → 0 ≤ (l.take k).sum ∧ (l.take k).sum ≤ 350 * k := by
  intro k
  induction k with
  | zero => intro _ _; simp
  | succ k ih =>
    intro hk hb
    rw [bad_take_succ l k (by omega), Bool.or_eq_false_iff, Bool.or_eq_false_iff, decide_eq_false_iff_not, decide_eq_false_iff_not] at hb
    have := ih (by omega) hb.1
    rw [sum_take l k (by omega)]
    omega

end F

theorem F.lens_empty {l : List Int} (h : l.length = 0) : F.lens l = 1 := by unfold F.lens; rw [if_pos h]
theorem F.lens_many {l : List Int} (h : 7 < l.length) : F.lens l = 2 := by unfold F.lens; rw [if_neg (by omega), if_pos h]
theorem F.lens_bad {l : List Int} (h0 : l.length ≠ 0) (h7 : ¬ 7 < l.length) (h : F.bad l = true) : F.lens l = 3 := by unfold F.lens; rw [if_neg h0, if_neg h7, if_pos h]
theorem F.lens_over {l : List Int} (h0 : l.length ≠ 0) (h7 : ¬ 7 < l.length) (h : F.bad l = false) (hs : 350 < l.sum) : F.lens l = 16 := by unfold F.lens; rw [if_neg h0, if_neg h7, if_neg (by simp [h]), if_pos hs]
theorem F.lens_ok {l : List Int} (h0 : l.length ≠ 0) (h7 : ¬ 7 < l.length) (h : F.bad l = false) (hs : ¬ 350 < l.sum) : F.lens l = 0 := by unfold F.lens; rw [if_neg h0, if_neg h7, if_neg (by simp [h]), if_neg hs]

/-- What a good list of lengths is. -/
theorem F.lens_good {l : List Int} (h : F.lens l = 0) : 1 ≤ l.length ∧ l.length ≤ 7 ∧ (∀ k (hk : k < l.length), 1 ≤ l[k] ∧ l[k] ≤ 350) ∧ l.sum ≤ 350 := by
  unfold F.lens at h
  split at h
  · omega
  split at h
  · omega
  split at h
  · omega
  rename_i h3
  split at h
  · omega
  exact ⟨by omega, by omega, F.good_at (by simpa using h3), by omega⟩

set_option maxHeartbeats 1000000 in
theorem checkLengths_any (a : Option Addr) (c : Nat) (l : List Int) (w : World) (hm : l.length ≤ maxLen) (hx : RdI w a l) :
    Calls Try.prog 48 #[.slice a l.length c] w fun e w' => e = .returned (.int .i64 (F.lens l)) ∧ w = w' := by
  unfold maxLen at hm
  by_cases h0 : l.length = 0
  · rw [F.lens_empty h0]
    go_enter Try.func48, Try.ntmps48
    go_wp2
    go_ret
    exact ⟨rfl, rfl⟩
  have h0i : ¬ (l.length : Int) = 0 := by omega
  by_cases h7 : 7 < l.length
  · rw [F.lens_many h7]
    go_enter Try.func48, Try.ntmps48
    go_wp2
    go_ret
    exact ⟨rfl, rfl⟩
  have h7i : ¬ (7 : Int) < (l.length : Int) := by omega
  have HBAD := hid (fun h => F.lens_bad (l := l) h0 h7 h)
  have HOVER := hid (fun h hs => F.lens_over (l := l) h0 h7 h hs)
  have HOK := hid (fun h hs => F.lens_ok (l := l) h0 h7 h hs)
  generalize F.lens l = r at *
  go_enter Try.func48, Try.ntmps48
  go_wp2
  go_loop [3, 14] (fun t i => ∃ k : Nat, k ≤ l.length ∧ i = .int .i64 k ∧ t = .int .i64 (l.take k).sum ∧ F.bad (l.take k) = false) (fun _ i => l.length - (intOf i).toNat)
  case atStart => exact ⟨0, Nat.zero_le _, rfl, by simp, rfl⟩
  case round =>
    obtain ⟨k, hk, rfl, rfl, ho⟩ := hrel
    have hsb := F.sum_bound k hk ho
    have HO := hid ho; clear ho
    by_cases hlt : k < l.length
    · obtain ⟨b, off, rfl, hc⟩ := hx k hlt
      have hs := F.bad_take_succ l k hlt
      have ha := F.bad_of_at l k hlt
      have hsum := F.sum_take l k hlt
      generalize l[k] = x at *
      generalize (l.take k).sum = t at *
      have HS := hid hs; clear hs
      have HA := hid ha; clear ha
      have HSUM := hid hsum; clear hsum
      by_cases h1 : x < 1
      · go_wp2
        go_ret
        exact ⟨ret_int (HBAD.out (HA.out (Or.inl h1))).symm, rfl⟩
      · by_cases h2 : 350 < x
        · go_wp2
          go_ret
          exact ⟨ret_int (HBAD.out (HA.out (Or.inr h2))).symm, rfl⟩
        · obtain ⟨hs1, hs2⟩ := hsb
          go_wp2
          go_round
          case rel => exact ⟨k + 1, by omega, by go_num, by rw [HSUM.out], by rw [HS.out, HO.out]; simp; omega⟩
          case measure => simp [intOf]; omega
    · have hk' : k = l.length := by omega
      subst hk'
      rw [List.take_length] at HO hsb
      simp only [List.take_length]
      by_cases h350 : 350 < l.sum
      · have HE := hid (HOVER.out HO.out h350)
        go_wp2
        go_ret
        exact ⟨ret_int HE.out.symm, rfl⟩
      · have HE := hid (HOK.out HO.out (by omega))
        go_wp2
        go_ret
        exact ⟨ret_int HE.out.symm, rfl⟩

/-- A strip as a value. -/
def F.strip (a : Option Addr) (n c : Nat) (s : ByteArray) : Value := .agg #[.slice a n c, .string s]

set_option maxHeartbeats 400000 in
theorem done_any (a : Option Addr) (n c : Nat) (s : ByteArray) (w : World) (hn : n ≤ maxLen) :
    Calls Try.prog 67 #[F.strip a n c s] w fun e w' => e = .returned (.bool (decide (n = 1))) ∧ Below w.heap.size w w' := by
  unfold maxLen at hn
  unfold F.strip
  by_cases h : n = 1
  · subst h
    go_enter Try.func67, Try.ntmps67
    go_wp2
    go_ret
    exact ⟨rfl, (Below.refl _ _).alloc (Nat.le_refl _) _⟩
  · have h1 : ((n : Int) == 1) = false := by simp; omega
    have h2 := hid (decide_eq_false h)
    go_enter Try.func67, Try.ntmps67
    go_wp2
    go_ret
    exact ⟨ret_bool h2.out.symm, (Below.refl _ _).alloc (Nat.le_refl _) _⟩

/-- A byte of a crease. -/
def F.fold (x : UInt8) : Bool := x.toNat == 109 || x.toNat == 118

def F.check (l : List Int) (s : List UInt8) : Int := if F.lens l ≠ 0 then F.lens l else if s.length ≠ l.length - 1 then 9 else if s.all F.fold = true then 0 else 9

theorem F.fold_take_succ (s : ByteArray) (k : Nat) (h : k < s.size) : (s.data.toList.take (k + 1)).all F.fold = ((s.data.toList.take k).all F.fold && F.fold s[k]) := by
  rw [List.take_succ_eq_append_getElem (by simpa using h), List.all_append]
  simp
  rfl

theorem F.fold_false (s : ByteArray) (k : Nat) (h : k < s.size) (hp : F.fold s[k] = false) : s.data.toList.all F.fold = false := by
  rw [List.all_eq_false]
  exact ⟨s[k], by
    have : s.data.toList[k]'(by simpa using h) ∈ s.data.toList := List.getElem_mem _
    exact this, by rw [hp]; simp⟩

set_option maxHeartbeats 1000000 in
theorem foldCheck_any (a : Option Addr) (c : Nat) (l : List Int) (s : ByteArray) (w : World) (hm : l.length ≤ maxLen) (hsm : s.size ≤ maxLen) (hx : RdI w a l) :
    Calls Try.prog 19 #[F.strip a l.length c s] w fun e w' => e = .returned (.int .i64 (F.check l s.data.toList)) ∧ Below w.heap.size w w' := by
  have hb0 : Below w.heap.size w (w.alloc (.cells #[.slice a l.length c, .string s] 24)) := (Below.refl _ _).alloc (Nat.le_refl _) _
  have HC := hid (checkLengths_any a c l _ hm (hx.stays hb0))
  have HB0 := hid hb0
  clear hb0
  unfold maxLen at hm hsm
  unfold F.strip
  by_cases h0 : F.lens l = 0
  · have hne : l.length ≠ 0 := by have := F.lens_good h0; omega
    have HF : Hid (F.check l s.data.toList = if s.size ≠ l.length - 1 then 9 else if s.data.toList.all F.fold = true then 0 else 9) := hid (by unfold F.check; rw [if_neg (by simp [h0])]; simp)
    generalize F.check l s.data.toList = r at *
    rw [h0] at HC
    go_enter Try.func19, Try.ntmps19
    go_wp2_with fail
    refine HC.out.mono ?_
    rintro e w' ⟨rfl, rfl⟩
    by_cases hl : s.size = l.length - 1
    · have hl1 : (s.size : Int) = (l.length : Int) - 1 := by omega
      have HR1 : Hid (s.data.toList.all F.fold = true → r = 0) := hid (fun h => by rw [HF.out, if_neg (fun k => k hl), if_pos h])
      have HR2 : Hid (s.data.toList.all F.fold = false → r = 9) := hid (fun h => by rw [HF.out, if_neg (fun k => k hl), if_neg (by simp [h])])
      have hl2 : ((l.length : Int) - 1 == (l.length : Int) - 1) = true := by simp
      have hl3 : ((s.size : Int) == (s.size : Int)) = true := by simp
      have HLS := hid hl
      clear hl
      go_wp2_with fail
      go_loop [22] (fun i => ∃ k : Nat, k ≤ s.size ∧ i = .int .i64 k ∧ (s.data.toList.take k).all F.fold = true) (fun i => s.size - (intOf i).toNat)
      case atStart => exact ⟨0, Nat.zero_le _, rfl, rfl⟩
      case round =>
        obtain ⟨k, hk, rfl, hall⟩ := hrel
        have HA := hid hall
        clear hall
        by_cases hlt : k < s.size
        · have hlti : (k : Int) < (l.length : Int) - 1 := by omega
          have HS : Hid ((s[k]'hlt).toNat = 109 ∨ (s[k]'hlt).toNat = 118 → (s.data.toList.take (k + 1)).all F.fold = true) := hid (fun h => by
            rw [F.fold_take_succ s k hlt, HA.out]
            unfold F.fold
            rcases h with h | h <;> rw [h] <;> rfl)
          have HFF : Hid (¬ (s[k]'hlt).toNat = 109 → ¬ (s[k]'hlt).toNat = 118 → s.data.toList.all F.fold = false) := hid (fun h1 h2 => F.fold_false s k hlt (by
            unfold F.fold
            simp [h1, h2]))
          generalize hch : (s[k]'hlt).toNat = ch at *
          by_cases h1 : ch = 109
          · subst h1
            go_wp2
            go_round
            case rel => exact ⟨k + 1, by omega, by go_num, HS.out (Or.inl rfl)⟩
            case measure => simp [intOf]; omega
          · have h1i : ¬ (ch : Int) = 109 := by omega
            by_cases h2 : ch = 118
            · subst h2
              go_wp2
              go_round
              case rel => exact ⟨k + 1, by omega, by go_num, HS.out (Or.inr rfl)⟩
              case measure => simp [intOf]; omega
            · have h2i : ¬ (ch : Int) = 118 := by omega
              have t1 : ((ch : Int) != 109) = true := by simp; omega
              have t2 : ((ch : Int) != 118) = true := by simp; omega
              have HE := hid (HR2.out (HFF.out h1 h2))
              clear h1 h2
              go_wp2
              go_ret
              exact ⟨ret_int HE.out.symm, HB0.out⟩
        · have hke : k = s.size := by omega
          subst hke
          have hge : ¬ (s.size : Int) < (l.length : Int) - 1 := by omega
          have HALL : Hid (s.data.toList.all F.fold = true) := hid (by have := HA.out; rw [List.take_of_length_le (by simp)] at this; exact this)
          have HE := hid (HR1.out HALL.out)
          go_wp2
          go_ret
          exact ⟨ret_int HE.out.symm, HB0.out⟩
    · have HR : Hid (r = 9) := hid (by rw [HF.out, if_pos hl])
      have h1 : ((s.size : Int) == (l.length : Int) - 1) = false := by simp; omega
      have h2 : ¬ (s.size : Int) = (l.length : Int) - 1 := by omega
      clear hl
      go_wp2
      go_ret
      exact ⟨ret_int HR.out.symm, HB0.out⟩
  · have HF : Hid (F.check l s.data.toList = F.lens l) := hid (by unfold F.check; rw [if_pos h0])
    rw [HF.out]
    generalize F.lens l = r at *
    have hr : (r == 0) = false := by simpa using h0
    go_enter Try.func19, Try.ntmps19
    go_wp2_with fail
    refine HC.out.mono ?_
    rintro e w' ⟨rfl, rfl⟩
    go_wp2
    go_ret
    exact ⟨rfl, HB0.out⟩

end Go.Proofs.Ythaplnkmjggcfaa
