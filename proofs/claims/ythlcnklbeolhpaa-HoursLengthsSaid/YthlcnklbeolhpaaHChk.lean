/- Package hours: the walks of Check and checkSeats. -/
import Derived.Test.YthlcnklbeolhpaaHSmall2
namespace Go.Proofs.Ythlcnklbeolhpaa
open Go.RowKit

theorem H.wid_eq {T : List (List Int)} (h : 0 < T.length) : H.wid T = T[0].length := by
  unfold H.wid
  cases T with
  | nil => cases h
  | cons r T => rfl
theorem H.chk3 {T : List (List Int)} (h1 : 1 ≤ T.length) (h6 : T.length ≤ 6) {i : Nat} (hi : i < T.length) (hne : T[i].length ≠ H.wid T) : H.chk T = 3 := by
  unfold H.chk
  rw [if_neg (by omega), if_neg (by omega)]
  split
  · rfl
  rw [if_pos]
  rw [List.all_eq_false]
  exact ⟨_, List.getElem_mem hi, by simpa using hne⟩
theorem H.chk4 {T : List (List Int)} (h1 : 1 ≤ T.length) (h6 : T.length ≤ 6) (hs : H.side (H.wid T) = true) (hl : ∀ i (h : i < T.length), T[i].length = H.wid T) {i k : Nat} (hi : i < T.length) (hk : k < T[i].length) (hne : T[i][k] < 0 ∨ 30 < T[i][k]) : H.chk T = 4 := by
  unfold H.chk
  rw [if_neg (by omega), if_neg (by omega), if_neg (by simp [hs]), if_neg, if_pos]
  · rw [List.all_eq_false]
    refine ⟨_, List.getElem_mem hi, ?_⟩
    simp only [Bool.not_eq_true]
    rw [List.all_eq_false]
    exact ⟨_, List.getElem_mem hk, by simp; omega⟩
  · simp only [Bool.not_eq_false, List.all_eq_true]
    intro r hr
    obtain ⟨j, hj, rfl⟩ := List.getElem_of_mem hr
    simpa using hl j hj
theorem H.chk0 {T : List (List Int)} (h1 : 1 ≤ T.length) (h6 : T.length ≤ 6) (hs : H.side (H.wid T) = true) (hl : ∀ i (h : i < T.length), T[i].length = H.wid T) (hh : ∀ i (h : i < T.length) k (h' : k < T[i].length), 0 ≤ T[i][k] ∧ T[i][k] ≤ 30) : H.chk T = 0 := by
  have hs' := hs
  unfold H.side at hs'
  have hs2 := of_decide_eq_true hs'
  refine H.Ok.chk ⟨h1, h6, by omega, by omega, fun r hr => ?_, fun r hr x hx => ?_⟩
  · obtain ⟨j, hj, rfl⟩ := List.getElem_of_mem hr
    exact hl j hj
  · obtain ⟨j, hj, rfl⟩ := List.getElem_of_mem hr
    obtain ⟨k, hk, rfl⟩ := List.getElem_of_mem hx
    exact hh j hj k hk

set_option maxHeartbeats 2000000 in
set_option maxRecDepth 100000 in
theorem check_any (a : Option Addr) (c : Nat) (T : List (List Int)) (w : World) (hm : T.length ≤ maxLen) (hl : ∀ i (h : i < T.length), T[i].length ≤ maxLen) (hx : RdM w a T) :
    Calls Try.prog 26 #[.slice a T.length c] w fun e w' => e = .returned (.int .i64 (H.chk T)) ∧ w = w' := by
  unfold maxLen at hm
  by_cases h0 : T.length = 0
  · have HR : Hid (H.chk T = 1) := hid (by unfold H.chk; rw [if_pos h0])
    rw [HR.out, h0]
    clear hx
    go_enter Try.func26, Try.ntmps26
    go_wp2
    go_ret
    exact ⟨rfl, rfl⟩
  by_cases h6 : 6 < T.length
  · have HR : Hid (H.chk T = 2) := hid (by unfold H.chk; rw [if_neg h0, if_pos h6])
    rw [HR.out]
    clear hx
    have hz : ((T.length : Int) == 0) = false := by simpa using h0
    go_enter Try.func26, Try.ntmps26
    go_wp2
    go_ret
    exact ⟨rfl, rfl⟩
  have hz : ((T.length : Int) == 0) = false := by simpa using h0
  have h01 : 0 < T.length := by omega
  have HWD := hid (H.wid_eq h01)
  obtain ⟨b, off, r0, c0, rfl, q0, _⟩ := hx 0 h01
  rw [← HWD.out] at q0
  have HS := hid (isSide_any (H.wid T))
  have HX := hid hx
  have HL := hid hl
  clear hx hl
  simp only [Nat.add_zero] at q0
  cases hs : H.side (H.wid T) with
  | false =>
    have HR : Hid (H.chk T = 3) := hid (by unfold H.chk; rw [if_neg h0, if_neg h6, if_pos hs])
    rw [HR.out]
    rw [hs] at HS
    clear hs
    generalize H.wid T = n at *
    go_enter Try.func26, Try.ntmps26
    go_wp2_with fail
    refine (HS.out _).mono ?_
    rintro e w' ⟨rfl, rfl⟩
    go_wp2
    go_ret
    exact ⟨rfl, rfl⟩
  | true =>
  have H3 := hid (fun i hi hne => H.chk3 (T := T) (by omega) (by omega) (i := i) hi hne)
  have H4 := hid (H.chk4 (T := T) (by omega) (by omega) hs)
  have H0 := hid (H.chk0 (T := T) (by omega) (by omega) hs)
  rw [hs] at HS
  clear hs
  have HN : Hid (H.wid T ≤ 9223372036854775807) := hid (by have := HL.out 0 h01; rw [← HWD.out] at this; unfold maxLen at this; omega)
  clear HWD
  generalize H.wid T = n at *
  generalize H.chk T = ec at *
  go_enter Try.func26, Try.ntmps26
  go_wp2_with fail
  refine (HS.out _).mono ?_
  rintro e w' ⟨rfl, rfl⟩
  go_wp2
  go_loop [26] (fun i => ∃ k : Nat, k ≤ T.length ∧ i = .int .i64 k ∧ ∀ j (h : j < T.length), j < k → T[j].length = n) (fun i => T.length - (intOf i).toNat)
  case atStart => exact ⟨0, Nat.zero_le _, rfl, fun j _ h => absurd h (Nat.not_lt_zero _)⟩
  case round =>
    obtain ⟨k, hk, rfl, hp⟩ := hrel
    have HP := hid hp
    clear hp
    by_cases hlt : k < T.length
    · obtain ⟨b', off', r, cr, he, hc, hr⟩ := HX.out k hlt
      simp only [Option.some.injEq, Addr.mk.injEq, and_true] at he
      obtain ⟨rfl, rfl⟩ := he
      have hnm := HL.out k hlt
      unfold maxLen at hnm
      have HE : Hid (T[k].length ≠ n → ec = 3) := hid (H3.out k hlt)
      have HNX : Hid (T[k].length = n → ∀ j (h : j < T.length), j < k + 1 → T[j].length = n) := hid (fun e j h hj => by
        by_cases ej : j = k
        · subst ej; exact e
        · exact HP.out j h (by omega))
      clear hr
      generalize T[k].length = m at *
      have hix : (0 : Int) ≤ (k : Int) ∧ (k : Int) < (T.length : Int) := by omega
      by_cases e : m = n
      · subst e
        have hne : ((m : Int) != (m : Int)) = false := by simp
        have HNX2 := hid (HNX.out rfl)
        go_wp2
        go_round
        case rel => exact ⟨k + 1, by omega, by go_num, HNX2.out⟩
        case measure => simp [intOf]; omega
      · have HE2 := hid (HE.out e)
        have hne : ((m : Int) != (n : Int)) = true := by simp; omega
        go_wp2
        go_ret
        exact ⟨ret_int HE2.out.symm, rfl⟩
    · have HLN : Hid (∀ j (h : j < T.length), T[j].length = n) := hid (fun j h => HP.out j h (by omega))
      have hke : k = T.length := by omega
      subst hke
      have H4' := hid (fun i k hi hk hne => H4.out HLN.out (i := i) (k := k) hi hk hne)
      have H0' := hid (H0.out HLN.out)
      clear H3 H4 H0
      go_wp2
      go_loop [40] (fun i => ∃ k : Nat, k ≤ T.length ∧ i = .int .i64 k ∧ ∀ j (h : j < T.length) q (h' : q < T[j].length), j < k → 0 ≤ T[j][q] ∧ T[j][q] ≤ 30) (fun i => T.length - (intOf i).toNat)
      case atStart => exact ⟨0, Nat.zero_le _, rfl, fun j _ q _ h => absurd h (Nat.not_lt_zero _)⟩
      case round =>
        obtain ⟨k, hk, rfl, hp⟩ := hrel
        have HP2 := hid hp
        clear hp
        by_cases hlt : k < T.length
        · obtain ⟨b', off', r, cr, he, hc, hr⟩ := HX.out k hlt
          simp only [Option.some.injEq, Addr.mk.injEq, and_true] at he
          obtain ⟨rfl, rfl⟩ := he
          have hix : (0 : Int) ≤ (k : Int) ∧ (k : Int) < (T.length : Int) := by omega
          have hnm := HL.out k hlt
          unfold maxLen at hnm
          have HRR := hid hr
          clear hr
          have HTK : Hid (∃ l, T[k] = l) := hid ⟨_, rfl⟩
          obtain ⟨l, hl⟩ := HTK.out
          have HB : Hid (∀ q (h' : q < l.length), (l[q] < 0 ∨ 30 < l[q]) → ec = 4) := hid (by subst hl; exact fun q h' => H4'.out k q hlt h')
          have HE : Hid ((∀ q (h' : q < l.length), 0 ≤ l[q] ∧ l[q] ≤ 30) → ∀ j (h : j < T.length) q (h' : q < T[j].length), j < k + 1 → 0 ≤ T[j][q] ∧ T[j][q] ≤ 30) := hid (by
            subst hl
            intro hall j h q h' hj
            by_cases ej : j = k
            · subst ej; exact hall q h'
            · exact HP2.out j h q h' (by omega))
          rw [hl] at HRR hc hnm
          clear hl HTK
          go_wp2
          go_loop [46] (fun i => ∃ p : Nat, p ≤ l.length ∧ i = .int .i64 p ∧ ∀ q (h' : q < l.length), q < p → 0 ≤ l[q] ∧ l[q] ≤ 30) (fun i => l.length - (intOf i).toNat)
          case atStart => exact ⟨0, Nat.zero_le _, rfl, fun q _ h => absurd h (Nat.not_lt_zero _)⟩
          case round =>
            obtain ⟨p, hp, rfl, hq⟩ := hrel
            have HQ := hid hq
            clear hq
            by_cases hlp : p < l.length
            · obtain ⟨b2, o2, rfl, c2⟩ := HRR.out p hlp
              have HB2 := hid (HB.out p hlp)
              have HNX : Hid (0 ≤ l[p] ∧ l[p] ≤ 30 → ∀ q (h' : q < l.length), q < p + 1 → 0 ≤ l[q] ∧ l[q] ≤ 30) := hid (fun e q h' hq => by
                by_cases eq : q = p
                · subst eq; exact e
                · exact HQ.out q h' (by omega))
              generalize l[p] = x at *
              have hip : (0 : Int) ≤ (p : Int) ∧ (p : Int) < (l.length : Int) := by omega
              by_cases h1 : x < 0
              · have HE2 := hid (HB2.out (Or.inl h1))
                go_wp2
                go_ret
                exact ⟨ret_int HE2.out.symm, rfl⟩
              · by_cases h2 : 30 < x
                · have HE2 := hid (HB2.out (Or.inr h2))
                  go_wp2
                  go_ret
                  exact ⟨ret_int HE2.out.symm, rfl⟩
                · have HNX2 := hid (HNX.out (by omega))
                  go_wp2
                  go_round
                  case rel => exact ⟨p + 1, by omega, by go_num, HNX2.out⟩
                  case measure => simp [intOf]; omega
            · have HDN := hid (HE.out (fun q h' => HQ.out q h' (by omega)))
              have hpe : p = l.length := by omega
              subst hpe
              go_wp2
              go_round
              case rel => exact ⟨k + 1, by omega, by go_num, HDN.out⟩
              case measure => simp [intOf]; omega
        · have HE2 := hid (H0'.out (fun i h k h' => HP2.out i h k h' (by omega)))
          have hke : k = T.length := by omega
          subst hke
          go_wp2
          go_ret
          exact ⟨ret_int HE2.out.symm, rfl⟩
set_option maxHeartbeats 400000 in
theorem checkSeats_any (a : Option Addr) (c : Nat) (T : List (List Int)) (s : Int) (w : World) (hm : T.length ≤ maxLen) (hl : ∀ i (h : i < T.length), T[i].length ≤ maxLen) (hx : RdM w a T) :
    Calls Try.prog 56 #[.slice a T.length c, .int .i64 s] w fun e w' => e = .returned (.int .i64 (H.chks T s)) ∧ w = w' := by
  have HC := hid (check_any a c T w hm hl hx)
  have HS := hid (isSide_any s w)
  unfold H.chks
  clear hm hl hx
  by_cases h : H.chk T = 0
  · rw [if_pos h]
    rw [h] at HC
    clear h
    cases hs : H.side s with
    | true =>
      rw [hs] at HS
      simp only [if_true]
      clear hs
      go_enter Try.func56, Try.ntmps56
      go_wp2_with fail
      refine HC.out.mono ?_
      rintro e w' ⟨rfl, rfl⟩
      go_wp2_with fail
      refine HS.out.mono ?_
      rintro e w' ⟨rfl, rfl⟩
      go_wp2
      go_ret
      exact ⟨rfl, rfl⟩
    | false =>
      rw [hs] at HS
      simp only [Bool.false_eq_true, if_false]
      clear hs
      go_enter Try.func56, Try.ntmps56
      go_wp2_with fail
      refine HC.out.mono ?_
      rintro e w' ⟨rfl, rfl⟩
      go_wp2_with fail
      refine HS.out.mono ?_
      rintro e w' ⟨rfl, rfl⟩
      go_wp2
      go_ret
      exact ⟨rfl, rfl⟩
  · rw [if_neg h]
    have hne : (H.chk T != 0) = true := by simpa using h
    generalize H.chk T = ec at *
    clear h
    go_enter Try.func56, Try.ntmps56
    go_wp2_with fail
    refine HC.out.mono ?_
    rintro e w' ⟨rfl, rfl⟩
    go_wp2
    go_ret
    exact ⟨rfl, rfl⟩
end Go.Proofs.Ythlcnklbeolhpaa
