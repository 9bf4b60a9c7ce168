/- Package tuscheref07: the walks of is, Check, checked, greatest. -/
import Derived.Test.YthlcnklbeolhpaaHRow
import Derived.BigQuiet
namespace Go.Proofs.Ythlcnklbeolhpaa
open Go.RowKit

theorem RdI.drewN {w : World} {a : Option Addr} {xs : List Int} (h : RdI w a xs) (q : Nat) : RdI (w.drewN q) a xs := h
theorem RdM.drewN {w : World} {a : Option Addr} {T : List (List Int)} (h : RdM w a T) (q : Nat) : RdM (w.drewN q) a T := h
theorem quiet_same {P : Program} {f : FuncId} {args : Array Value} {w : World} {v : Value} (h : Calls P f args w fun e w' => e = .returned v ∧ w = w') : Calls P f args w fun e w' => e = .returned v ∧ w' = w := h.mono fun _ _ h => ⟨h.1, h.2.symm⟩
theorem quiet_same_more {P : Program} {f : FuncId} {args : Array Value} {w : World} {q n : Nat} {v : Value}
    (h : Calls P f args (w.drewN (q + n)) fun e w' => e = .returned v ∧ w.drewN (q + n) = w') : Calls P f args (w.drewN (q + n)) fun e w'' => e = .returned v ∧ ∃ m, w'' = w.drewN (q + m) :=
  h.mono fun _ _ ⟨he, hm⟩ => ⟨he, n, hm.symm⟩
def H.isb (n lo hi : Int) : Bool := decide (lo ≤ n ∧ n ≤ hi)
theorem is1_any (n lo hi : Int) (w : World) : Calls Try.prog 95 #[.int .i64 n, .int .i64 lo, .int .i64 hi] w fun e w' => e = .returned (.bool (H.isb n lo hi)) ∧ w = w' := by
  by_cases h1 : lo ≤ n
  · by_cases h2 : n ≤ hi
    · have HR : Hid (H.isb n lo hi = true) := hid (decide_eq_true ⟨h1, h2⟩)
      go_enter Try.func95, Try.ntmps95
      go_wp2
      go_ret
      exact ⟨ret_bool HR.out.symm, rfl⟩
    · have HR : Hid (H.isb n lo hi = false) := hid (decide_eq_false (by omega))
      go_enter Try.func95, Try.ntmps95
      go_wp2
      go_ret
      exact ⟨ret_bool HR.out.symm, rfl⟩
  · have HR : Hid (H.isb n lo hi = false) := hid (decide_eq_false (by omega))
    go_enter Try.func95, Try.ntmps95
    go_wp2
    go_ret
    exact ⟨ret_bool HR.out.symm, rfl⟩
theorem is_any (n lo hi : Int) (w : World) : Calls Try.prog 64 #[.int .i64 n, .int .i64 lo, .int .i64 hi] w fun e w' => e = .returned (.bool (H.isb n lo hi)) ∧ w = w' := by
  have HI := hid (is1_any n lo hi w)
  generalize H.isb n lo hi = b at *
  go_enter Try.func64, Try.ntmps64
  go_wp2_with fail
  refine HI.out.mono ?_
  rintro e w' ⟨rfl, rfl⟩
  go_wp2
  go_ret
  exact ⟨rfl, rfl⟩
theorem refGreatest_any (a : Option Addr) (c : Nat) (xs : List Int) (w : World) (hm : xs.length ≤ maxLen) (hx : RdI w a xs) :
    Calls Try.prog 59 #[.slice a xs.length c] w fun e w' => e = .returned (.int .i64 (H.top xs)) ∧ w = w' := by
  unfold maxLen at hm
  have HX := hid hx
  have HT := hid (fun k (h : k < xs.length) => H.top_take (l := xs) h)
  clear hx
  go_enter Try.func59, Try.ntmps59
  go_wp2
  go_loop [3, 4] (fun s i => ∃ k : Nat, k ≤ xs.length ∧ i = .int .i64 k ∧ s = .int .i64 (H.top (xs.take k))) (fun _ i => xs.length - (intOf i).toNat)
  case atStart => exact ⟨0, Nat.zero_le _, rfl, rfl⟩
  case round =>
    obtain ⟨k, hk, rfl, rfl⟩ := hrel
    by_cases hlt : k < xs.length
    · obtain ⟨b, off, rfl, hc⟩ := HX.out k hlt
      have HTK := hid (HT.out k hlt)
      generalize xs[k] = x at *
      generalize H.top (xs.take k) = t at *
      have hix : (0 : Int) ≤ (k : Int) ∧ (k : Int) < (xs.length : Int) := by omega
      go_wp2
      all_goals
        go_round
        case rel => exact ⟨k + 1, by omega, by go_num, by rw [HTK.out]; exact congrArg (Value.int .i64) (by omega)⟩
        case measure => simp [intOf]; omega
    · have hke : k = xs.length := by omega
      subst hke
      go_wp2
      go_ret
      exact ⟨rfl, rfl⟩

set_option maxHeartbeats 4000000 in
set_option maxRecDepth 100000 in
theorem refCheck_any (a : Option Addr) (c : Nat) (T : List (List Int)) (w : World) (hm : T.length ≤ maxLen) (hl : ∀ i (h : i < T.length), T[i].length ≤ maxLen) (hx : RdM w a T) :
    Calls Try.prog 27 #[.slice a T.length c] w fun e w' => e = .returned (.int .i64 (H.chk T)) ∧ ∃ q, w' = w.drewN q := by
  unfold maxLen at hm
  by_cases h0 : T.length = 0
  · have HR : Hid (H.chk T = 1) := hid (by unfold H.chk; rw [if_pos h0])
    rw [HR.out, h0]
    clear hx
    go_enter Try.func27, Try.ntmps27
    go_wp2
    go_ret
    exact ⟨rfl, 0, rfl⟩
  by_cases h6 : 6 < T.length
  · have HR : Hid (H.chk T = 2) := hid (by unfold H.chk; rw [if_neg h0, if_pos h6])
    rw [HR.out]
    clear hx
    have hz : ((T.length : Int) == 0) = false := by simpa using h0
    go_enter Try.func27, Try.ntmps27
    go_wp2
    go_ret
    exact ⟨rfl, 0, rfl⟩
  have hz : ((T.length : Int) == 0) = false := by simpa using h0
  have h01 : 0 < T.length := by omega
  have HWD := hid (H.wid_eq h01)
  obtain ⟨b, off, r0, c0, rfl, q0, _⟩ := hx 0 h01
  rw [← HWD.out] at q0
  have HX := hid hx
  have HL := hid hl
  have HIS := hid is_any
  clear hx hl
  simp only [Nat.add_zero] at q0
  cases hs : H.side (H.wid T) with
  | false =>
    have HR : Hid (H.chk T = 3) := hid (by unfold H.chk; rw [if_neg h0, if_neg h6, if_pos hs])
    rw [HR.out]
    have hib : H.isb (H.wid T) 1 6 = false := hs
    clear hs
    generalize H.wid T = n at *
    have h00 : (0 : Int) < (T.length : Int) := by omega
    go_enter Try.func27, Try.ntmps27
    go_wp2
    go_loopw [3] (fun i wr => i = .int .i64 0 ∧ wr = w) (fun i _ => (intOf i).toNat)
    case atStart => exact ⟨rfl, rfl⟩
    case round =>
      obtain ⟨rfl, rfl⟩ := hrel
      go_wp2
      go_quiet ((go_at_call 64; exact Calls.quiet_of_same (quiet_same (HIS.out _ _ _ _))))
      go_wp2
      go_ret
      exact ⟨rfl, _, rfl⟩
  | true =>
  have H3 := hid (fun i hi hne => H.chk3 (T := T) (by omega) (by omega) (i := i) hi hne)
  have H4 := hid (H.chk4 (T := T) (by omega) (by omega) hs)
  have H0 := hid (H.chk0 (T := T) (by omega) (by omega) hs)
  have HIB : Hid (H.isb (H.wid T) 1 6 = true) := hid hs
  clear hs
  have HN : Hid (H.wid T ≤ 9223372036854775807) := hid (by have := HL.out 0 h01; rw [← HWD.out] at this; unfold maxLen at this; omega)
  clear HWD
  generalize H.wid T = n at *
  generalize H.chk T = ec at *
  go_enter Try.func27, Try.ntmps27
  go_wp2
  go_loopw [3] (fun i wr => ∃ k : Nat, k ≤ T.length ∧ i = .int .i64 k ∧ (∀ j (h : j < T.length), j < k → T[j].length = n) ∧ ∃ q, wr = w.drewN q) (fun i _ => T.length - (intOf i).toNat)
  case atStart => exact ⟨0, Nat.zero_le _, rfl, fun j _ h => absurd h (Nat.not_lt_zero _), 0, rfl⟩
  case round =>
    obtain ⟨k, hk, rfl, hp, q, rfl⟩ := hrel
    have HP := hid hp
    clear hp
    by_cases hlt : k < T.length
    · obtain ⟨b', off', r, cr, he, hc, hr⟩ := HX.out k hlt
      simp only [Option.some.injEq, Addr.mk.injEq, and_true] at he
      obtain ⟨rfl, rfl⟩ := he
      have hnm := HL.out k hlt
      unfold maxLen at hnm
      have HE : Hid (T[k].length ≠ n → ec = 3) := hid (H3.out k hlt)
      have HNX : Hid (T[k].length = n → ∀ j (h : j < T.length), j < k + 1 → T[j].length = n) := hid (fun e j h hj => by
        by_cases ej : j = k
        · subst ej; exact e
        · exact HP.out j h (by omega))
      clear hr
      generalize T[k].length = m at *
      have hix : (0 : Int) ≤ (k : Int) ∧ (k : Int) < (T.length : Int) := by omega
      have hib := HIB.out
      have h00 : (0 : Int) < (T.length : Int) := by omega
      by_cases e : m = n
      · subst e
        have hne : ((m : Int) != (m : Int)) = false := by simp
        have HNX2 := hid (HNX.out rfl)
        go_wp2
        go_quiet ((go_at_call 64; exact quiet_same_more (HIS.out _ _ _ _)))
        go_wp2
        go_roundw
        case rel => exact ⟨k + 1, by omega, by go_num, HNX2.out, _, rfl⟩
        case measure => simp [intOf]; omega
      · have HE2 := hid (HE.out e)
        have hne : ((m : Int) != (n : Int)) = true := by simp; omega
        go_wp2
        go_quiet ((go_at_call 64; exact quiet_same_more (HIS.out _ _ _ _)))
        go_wp2
        go_ret
        exact ⟨ret_int HE2.out.symm, _, World.drewN_drewN _ _ _⟩
    · have HLN : Hid (∀ j (h : j < T.length), T[j].length = n) := hid (fun j h => HP.out j h (by omega))
      have hke : k = T.length := by omega
      subst hke
      have H4' := hid (fun i k hi hk hne => H4.out HLN.out (i := i) (k := k) hi hk hne)
      have H0' := hid (H0.out HLN.out)
      clear H3 H4 H0
      go_wp2
      go_loop [4] (fun i => ∃ k : Nat, k ≤ T.length ∧ i = .int .i64 k ∧ ∀ j (h : j < T.length) q (h' : q < T[j].length), j < k → 0 ≤ T[j][q] ∧ T[j][q] ≤ 30) (fun i => T.length - (intOf i).toNat)
      case atStart => exact ⟨0, Nat.zero_le _, rfl, fun j _ q _ h => absurd h (Nat.not_lt_zero _)⟩
      case round =>
        obtain ⟨k, hk, rfl, hp⟩ := hrel
        have HP2 := hid hp
        clear hp
        by_cases hlt : k < T.length
        · obtain ⟨b', off', r, cr, he, hc, hr⟩ := HX.out k hlt
          simp only [Option.some.injEq, Addr.mk.injEq, and_true] at he
          obtain ⟨rfl, rfl⟩ := he
          have hix : (0 : Int) ≤ (k : Int) ∧ (k : Int) < (T.length : Int) := by omega
          have hnm := HL.out k hlt
          unfold maxLen at hnm
          have HRR := hid hr
          clear hr
          have HTK : Hid (∃ l, T[k] = l) := hid ⟨_, rfl⟩
          obtain ⟨l, hl⟩ := HTK.out
          have HB : Hid (∀ q (h' : q < l.length), (l[q] < 0 ∨ 30 < l[q]) → ec = 4) := hid (by subst hl; exact fun q h' => H4'.out k q hlt h')
          have HE : Hid ((∀ q (h' : q < l.length), 0 ≤ l[q] ∧ l[q] ≤ 30) → ∀ j (h : j < T.length) q (h' : q < T[j].length), j < k + 1 → 0 ≤ T[j][q] ∧ T[j][q] ≤ 30) := hid (by
            subst hl
            intro hall j h q h' hj
            by_cases ej : j = k
            · subst ej; exact hall q h'
            · exact HP2.out j h q h' (by omega))
          rw [hl] at HRR hc hnm
          clear hl HTK
          go_wp2
          go_loop [5] (fun i => ∃ p : Nat, p ≤ l.length ∧ i = .int .i64 p ∧ ∀ q (h' : q < l.length), q < p → 0 ≤ l[q] ∧ l[q] ≤ 30) (fun i => l.length - (intOf i).toNat)
          case atStart => exact ⟨0, Nat.zero_le _, rfl, fun q _ h => absurd h (Nat.not_lt_zero _)⟩
          case round =>
            obtain ⟨p, hp, rfl, hq⟩ := hrel
            have HQ := hid hq
            clear hq
            by_cases hlp : p < l.length
            · obtain ⟨b2, o2, rfl, c2⟩ := HRR.out p hlp
              have HB2 := hid (HB.out p hlp)
              have HNX : Hid (0 ≤ l[p] ∧ l[p] ≤ 30 → ∀ q (h' : q < l.length), q < p + 1 → 0 ≤ l[q] ∧ l[q] ≤ 30) := hid (fun e q h' hq => by
                by_cases eq : q = p
                · subst eq; exact e
                · exact HQ.out q h' (by omega))
              generalize l[p] = x at *
              have hip : (0 : Int) ≤ (p : Int) ∧ (p : Int) < (l.length : Int) := by omega
              have HIX := hid (HIS.out x 0 30)
              by_cases h1 : 0 ≤ x ∧ x ≤ 30
              · have HNX2 := hid (HNX.out h1)
                have HT1 : Hid (H.isb x 0 30 = true) := hid (decide_eq_true h1)
                rw [HT1.out] at HIX
                go_wp2_with fail
                refine (HIX.out _).mono ?_
                rintro e w' ⟨rfl, rfl⟩
                go_wp2
                go_round
                case rel => exact ⟨p + 1, by omega, by go_num, HNX2.out⟩
                case measure => simp [intOf]; omega
              · have HE2 := hid (HB2.out (by omega))
                have HT1 : Hid (H.isb x 0 30 = false) := hid (decide_eq_false h1)
                rw [HT1.out] at HIX
                go_wp2_with fail
                refine (HIX.out _).mono ?_
                rintro e w' ⟨rfl, rfl⟩
                go_wp2
                go_ret
                exact ⟨ret_int HE2.out.symm, _, rfl⟩
            · have HDN := hid (HE.out (fun q h' => HQ.out q h' (by omega)))
              have hpe : p = l.length := by omega
              subst hpe
              go_wp2
              go_round
              case rel => exact ⟨k + 1, by omega, by go_num, HDN.out⟩
              case measure => simp [intOf]; omega
        · have HE2 := hid (H0'.out (fun i h k h' => HP2.out i h k h' (by omega)))
          have hke : k = T.length := by omega
          subst hke
          go_wp2
          go_ret
          exact ⟨ret_int HE2.out.symm, _, rfl⟩
set_option maxHeartbeats 400000 in
theorem checked_any (a : Option Addr) (c : Nat) (T : List (List Int)) (s : Int) (w : World) (hm : T.length ≤ maxLen) (hl : ∀ i (h : i < T.length), T[i].length ≤ maxLen) (hx : RdM w a T) :
    Calls Try.prog 58 #[.slice a T.length c, .int .i64 s] w fun e w' => e = .returned (.int .i64 (H.chks T s)) ∧ ∃ q, w' = w.drewN q := by
  have HC := hid (refCheck_any a c T w hm hl hx)
  have HS := hid (fun W => is_any s 1 6 W)
  have HIB : Hid (H.isb s 1 6 = H.side s) := hid rfl
  rw [HIB.out] at HS
  unfold H.chks
  clear hm hl hx HIB
  by_cases h : H.chk T = 0
  · rw [if_pos h]
    rw [h] at HC
    clear h
    cases hs : H.side s with
    | true =>
      rw [hs] at HS
      simp only [if_true]
      clear hs
      go_enter Try.func58, Try.ntmps58
      go_wp2_with fail
      refine HC.out.mono ?_
      rintro e w' ⟨rfl, q, rfl⟩
      go_wp2_with fail
      refine (HS.out _).mono ?_
      rintro e w' ⟨rfl, rfl⟩
      go_wp2
      go_ret
      exact ⟨rfl, _, rfl⟩
    | false =>
      rw [hs] at HS
      simp only [Bool.false_eq_true, if_false]
      clear hs
      go_enter Try.func58, Try.ntmps58
      go_wp2_with fail
      refine HC.out.mono ?_
      rintro e w' ⟨rfl, q, rfl⟩
      go_wp2_with fail
      refine (HS.out _).mono ?_
      rintro e w' ⟨rfl, rfl⟩
      go_wp2
      go_ret
      exact ⟨rfl, _, rfl⟩
  · rw [if_neg h]
    have hne : (H.chk T == 0) = false := by simpa using h
    generalize H.chk T = ec at *
    clear h
    go_enter Try.func58, Try.ntmps58
    go_wp2_with fail
    refine HC.out.mono ?_
    rintro e w' ⟨rfl, q, rfl⟩
    go_wp2
    go_ret
    exact ⟨rfl, _, rfl⟩
end Go.Proofs.Ythlcnklbeolhpaa
