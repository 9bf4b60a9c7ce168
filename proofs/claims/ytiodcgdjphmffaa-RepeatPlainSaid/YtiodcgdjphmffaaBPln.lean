/- Package repeat: Plain. -/
import Derived.Test.YtiodcgdjphmffaaBNumd
namespace Go.Proofs.Ytiodcgdjphmffaa
open Go.RowKit

theorem B.find_hit {p : Nat → Bool} {n x : Nat} (h : x < n) (h1 : p x = true) (h2 : ∀ y, y < x → p y = false) : (List.range n).find? p = some x := by
  rw [List.find?_range_eq_some]
  exact ⟨h1, by simpa using h, fun y hy => by rw [h2 y hy]; rfl⟩
theorem B.find_miss {p : Nat → Bool} {n : Nat} (h2 : ∀ y, y < n → p y = false) : (List.range n).find? p = none := by
  rw [List.find?_range_eq_none]
  exact fun y hy => by rw [h2 y hy]; rfl
def B.str (l : List UInt8) : ByteArray := ⟨l.toArray⟩
theorem B.str_data (l : List UInt8) : (B.str l).data.toList = l := rfl
theorem B.str_size (l : List UInt8) : (B.str l).size = l.length := by rw [Lib.size_eq]; rfl
theorem B.plain_hit {l : List UInt8} {x : Nat} (h : x < 2 ^ l.length) (h1 : B.same (B.num x l.length) l = true) (h2 : ∀ y, y < x → B.same (B.num y l.length) l = false) : B.plain l = B.num x l.length := by
  unfold B.plain; rw [B.find_hit (p := fun x => B.same (B.num x l.length) l) h h1 h2]; rfl
theorem B.plain_miss {l : List UInt8} (h2 : ∀ y, y < 2 ^ l.length → B.same (B.num y l.length) l = false) : B.plain l = B.num (2 ^ l.length - 1) l.length := by
  unfold B.plain; rw [B.find_miss (p := fun x => B.same (B.num x l.length) l) h2]; rfl
/-- The border that is held, when so many have been tried. -/
def B.plAt (n : Nat) : Nat → ByteArray | 0 => ⟨#[]⟩ | x + 1 => B.str (B.num x n)
def B.plainV (s : ByteArray) : ByteArray × Int := if B.chk s = 0 then (if 14 < s.size then (⟨#[]⟩, 16) else (B.str (B.plain s.data.toList), 0)) else (⟨#[]⟩, B.chk s)

set_option maxHeartbeats 1000000 in
set_option maxRecDepth 100000 in
theorem plain_any (s : ByteArray) (w : World) (hm : s.size ≤ maxLen) :
    Calls Try.prog 27 #[.string s] w fun e w' => e = .returned (.tuple #[.string (B.plainV s).1, .int .i64 (B.plainV s).2]) ∧ Below w.heap.size w w' := by
  have CC := hid (fun w => check_any s w hm)
  by_cases h0 : B.chk s = 0
  · have h24 := (B.chk_zero h0).2.1
    have h1 := (B.chk_zero h0).1
    rw [h0] at CC
    by_cases h14 : 14 < s.size
    · have HV : Hid (B.plainV s = (⟨#[]⟩, 16)) := hid (by unfold B.plainV; rw [if_pos h0, if_pos h14])
      clear h0
      go_enter Try.func27, Try.ntmps27
      go_wp2_with (refine (CC.out _).mono ?_; rintro e w1 ⟨rfl, b1⟩; replace b1 := hid b1)
      go_ret2
      exact ⟨by rw [HV.out]; rfl, b1.out⟩
    · have HV : Hid (B.plainV s = (B.str (B.plain s.data.toList), 0)) := hid (by unfold B.plainV; rw [if_pos h0, if_neg h14])
      clear h0
      have hl := B.len s
      have HH := hid (fun x => B.plain_hit (l := s.data.toList) (x := x))
      have HN := hid (B.plain_miss (l := s.data.toList))
      rw [hl] at HH HN
      obtain ⟨n, hn⟩ : ∃ n, s.size = n := ⟨_, rfl⟩
      have HZ := hid hn
      rw [hn] at HH HN h14 h1
      have hp14 : 2 ^ n ≤ 16384 := by
        have : 2 ^ n ≤ 2 ^ 14 := Nat.pow_le_pow_right (by decide) (by omega)
        simpa using this
      have hp1 : 1 ≤ 2 ^ n := Nat.one_le_two_pow
      have CN := hid (fun x w (h : x < 2 ^ n) => numbered_any x n w h1 (by omega) (by omega))
      have CS := hid (fun x w => samePeriods_any (B.str (B.num x n)) s w (by rw [B.str_size, B.num_len, hn]) (by rw [B.str_size, B.num_len]; omega))
      simp only [B.str_data] at CS
      have hpow : (2 : Int) ^ n = ((2 ^ n : Nat) : Int) := by simp
      have hwp : wrap64 (2 ^ n) = ((2 ^ n : Nat) : Int) := by
        rw [hpow]; exact IntWalk.wrap64_in _ ⟨by omega, by omega⟩
      clear hpow
      generalize 2 ^ n = N at *
      go_enter Try.func27, Try.ntmps27
      go_wp2_with (refine (CC.out _).mono ?_; rintro e w1 ⟨rfl, b1⟩; replace b1 := hid b1)
      rw [hwp]
      clear hwp
      go_loopw [5, 18] (fun x y wr => ∃ j : Nat, j ≤ N ∧ y = .int .i64 j ∧ x = .string (B.plAt n j) ∧ (∀ q, q < j → B.same (B.num q n) s.data.toList = false) ∧ Below w.heap.size w wr) (fun _ y _ => N - (intOf y).toNat)
      case atStart => exact ⟨0, Nat.zero_le _, rfl, rfl, fun q hq => absurd hq (Nat.not_lt_zero _), b1.out⟩
      case round =>
        obtain ⟨j, hj, rfl, rfl, ho, hbel⟩ := hrel
        have HO := hid ho
        have HB := hid hbel
        clear ho hbel
        by_cases hlt : j < N
        · have HH1 := hid (fun e => HH.out j hlt e HO.out)
          have CN1 := hid (fun w => CN.out j w hlt)
          have CS1 := hid (fun w => CS.out j w)
          have HP1 : Hid (B.plAt n (j + 1) = B.str (B.num j n)) := hid rfl
          have hst : (⟨(B.num j n).toArray⟩ : ByteArray) = B.str (B.num j n) := rfl
          rw [hst] at CN1
          clear hst
          generalize hc : B.same (B.num j n) s.data.toList = c at *
          have HC := hid hc
          clear hc
          cases c with
          | true =>
            have HE := hid (HH1.out rfl)
            clear HH1
            go_wp2_with (first | (go_at_call 57; refine (CN1.out _).mono ?_; rintro e w2 ⟨rfl, hb2⟩; have HB2 := hid (HB.out.trans (hb2.mono HB.out.size)); clear hb2) | (go_at_call 58; refine (CS1.out _).mono ?_; rintro e w3 ⟨rfl, rfl⟩))
            go_ret2
            exact ⟨by rw [HV.out, HE.out]; rfl, HB2.out⟩
          | false =>
            clear HH1
            have HO2 : Hid (∀ q, q < j + 1 → B.same (B.num q n) s.data.toList = false) := hid (fun q hq => by
              rcases Nat.lt_or_ge q j with h | h
              · exact HO.out q h
              · rw [show q = j from by omega]; exact HC.out)
            go_wp2_with (first | (go_at_call 57; refine (CN1.out _).mono ?_; rintro e w2 ⟨rfl, hb2⟩; have HB2 := hid (HB.out.trans (hb2.mono HB.out.size)); clear hb2) | (go_at_call 58; refine (CS1.out _).mono ?_; rintro e w3 ⟨rfl, rfl⟩))
            go_roundw
            case rel => exact ⟨j + 1, by omega, by go_num, by rw [HP1.out], HO2.out, HB2.out⟩
            case measure => simp [intOf]; omega
        · have hje : j = N := by omega
          subst hje
          have HE := hid (HN.out HO.out)
          have HP2 : Hid (B.plAt n j = B.str (B.num (j - 1) n)) := hid (by cases j with | zero => omega | succ j => rfl)
          go_wp2
          go_ret2
          refine ⟨?_, HB.out⟩
          rw [HV.out, HE.out, ← HP2.out]
          rfl
  · have HV : Hid (B.plainV s = (⟨#[]⟩, B.chk s)) := hid (by unfold B.plainV; rw [if_neg h0])
    have hn : (B.chk s != 0) = true := by simpa using h0
    clear h0
    generalize B.chk s = c at *
    go_enter Try.func27, Try.ntmps27
    go_wp2_with (refine (CC.out _).mono ?_; rintro e w1 ⟨rfl, b1⟩; replace b1 := hid b1)
    go_ret2
    exact ⟨by rw [HV.out]; rfl, b1.out⟩
end Go.Proofs.Ytiodcgdjphmffaa
