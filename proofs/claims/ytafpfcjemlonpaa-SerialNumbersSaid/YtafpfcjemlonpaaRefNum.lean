/- The walks of the document's own answers for Code and Number. -/
import Derived.Test.YtafpfcjemlonpaaRefRes
import Derived.Test.YtafpfcjemlonpaaCode
namespace Go.Proofs.Ytafpfcjemlonpaa
open Go.RowKit

theorem P.outside_dg {l : List Int} {n : Nat} (h : Dg n l) : P.outside l n = false := by
  unfold P.outside
  rw [List.any_eq_false]
  intro x hx
  have := h.mem hx
  simp
  omega

theorem P.digit_ok {T : List (List Int)} {l : List Int} (h0 : P.check T = 0) (hl : l.length ≤ 12) (hd : Dg T.length l) : P.digit T l = (P.zeroAt T (P.after T l) T.length 0, 0) := by
  have e : P.checkDigits T l 0 = 0 := by
    unfold P.checkDigits
    rw [if_neg (by simp [h0]), if_neg (by omega), if_neg (by omega), if_neg (by rw [P.outside_dg hd]; simp)]
  unfold P.digit
  rw [if_neg (by simp [e])]

set_option maxHeartbeats 1000000 in
theorem refNumber_any (a ac : Option Addr) (c cc : Nat) (T : List (List Int)) (l : List Int) (w : World) (hm : l.length ≤ maxLen) (hT : RdM w a T) (hx : RdI w ac l) :
    Calls Try.prog 48 #[.slice a T.length c, .slice ac l.length cc] w
      fun e w' => e = .returned (.tuple #[.int .i64 (P.number T l).1, .int .i64 (P.number T l).2]) ∧ Below w.heap.size w w' := by
  have hcall := refRight_any a ac c cc T l w hm hT hx
  unfold P.number
  by_cases h0 : P.right T l = 0
  · obtain ⟨ht, hl2, hl12, hd, _⟩ := right_ok h0
    have hlo := ht.lo
    have hhi := ht.hi
    rw [h0] at hcall
    rw [if_neg (by simp [h0])]
    have HX := hid (fun w' (hb : Below w.heap.size w w') => hx.stays hb)
    have HD := hid hd
    have HLT : Hid (∀ k, k + 1 < l.length → P.numOf T.length (l.take k) * T.length ≤ 10000000000000) := hid (fun k hk => by
      have h1 := P.numOf_lt T.length l hd k (by omega)
      have h2 := pow_bound hhi (show k ≤ 12 by omega)
      have h3 : P.numOf T.length (l.take k) * T.length ≤ 1000000000000 * 10 := Nat.mul_le_mul (by omega) hhi
      omega)
    have HC := hid hcall; clear hcall
    unfold maxLen at hm
    clear ht hd hT hx h0
    go_enter Try.func48, Try.ntmps48
    go_wp2_with fail
    refine HC.out.mono ?_
    rintro e w1 ⟨rfl, hb⟩
    have HX2 := hid (HX.out w1 hb)
    have HB := hid hb; clear hb
    go_wp2
    go_loop [7, 8] (fun t i => ∃ k : Nat, k + 1 ≤ l.length ∧ i = .int .i64 k ∧ t = .int .i64 (P.numOf T.length (l.take k) : Nat)) (fun _ i => l.length - (intOf i).toNat)
    case atStart => exact ⟨0, by omega, rfl, rfl⟩
    case round =>
      obtain ⟨k, hk, rfl, rfl⟩ := hrel
      by_cases hlt : k + 1 < l.length
      · obtain ⟨b', off, rfl, hc⟩ := HX2.out k (by omega)
        have hs := P.numOf_take T.length l k (by omega)
        have hbd := HLT.out k hlt
        have hdk := HD.out k (by omega)
        generalize P.numOf T.length (l.take k) = s at *
        generalize l[k] = x at *
        obtain ⟨d, rfl⟩ := Int.eq_ofNat_of_zero_le hdk.1
        have hd' : d < T.length := by omega
        rw [Int.toNat_natCast] at hs
        have HS := hid hs
        have h1 : (s : Int) * (T.length : Int) ≤ 10000000000000 := by rw [← Int.natCast_mul]; omega
        have h2 : (0 : Int) ≤ (s : Int) * (T.length : Int) := Int.mul_nonneg (by omega) (by omega)
        have i1 : (0 : Int) ≤ (k : Int) ∧ (k : Int) < (l.length : Int) := by omega
        clear hdk hs hbd
        go_wp2
        go_round
        case rel => exact ⟨k + 1, by omega, by go_num, by rw [HS.out, Int.natCast_add, Int.natCast_mul]⟩
        case measure => simp [intOf]; omega
      · have hk' : k = l.length - 1 := by omega
        have HK : Hid (P.numOf T.length (l.take k) = P.numOf T.length (l.take (l.length - 1))) := hid (by rw [hk'])
        clear hk'
        go_wp2
        go_ret2
        exact ⟨by rw [← HK.out]; rfl, HB.out⟩
  · rw [if_pos h0]
    generalize P.right T l = e0 at *
    have ht : (e0 != 0) = true := by simpa using h0
    have HC := hid hcall; clear hcall h0 hT hx hm
    go_enter Try.func48, Try.ntmps48
    go_wp2_with (go_at_call 38; refine HC.out.mono ?_; rintro e w' ⟨rfl, hb⟩)
    go_ret2
    exact ⟨rfl, hb⟩

set_option maxHeartbeats 4000000 in
set_option maxRecDepth 100000 in
/-- A good size and any number. -/
theorem refCode_good (a : Option Addr) (c : Nat) (T : List (List Int)) (m : Nat) (number : Int) (w : World) (hm1 : 1 ≤ m) (hm : m ≤ 11) (hT : RdM w a T) (ht : Tab T) (h0 : P.check T = 0) :
    Calls Try.prog 46 #[.slice a T.length c, .int .i64 ((m : Int) + 1), .int .i64 number] w
      fun e w' => ∃ r cr xs, e = .returned (.tuple #[.slice r xs.length cr, .int .i64 (P.code T ((m : Int) + 1) number).2]) ∧ xs = (P.code T ((m : Int) + 1) number).1 ∧ RdI w' r xs ∧ Below w.heap.size w w' := by
  have hcall := refCheck_any a c T w hT
  rw [h0] at hcall
  have HC := hid hcall; clear hcall
  have hlo := ht.lo
  have hhi := ht.hi
  have HI1 := hid (fun w => is_yes (n := (m : Int) + 1) (lo := 2) (hi := 12) (by omega) w)
  have hpow : ∀ k, k ≤ m → T.length ^ k ≤ 1000000000000 := fun k hk => pow_bound hhi (show k ≤ 12 by omega)
  have HP := hid hpow
  have hcode : P.code T ((m : Int) + 1) number = if ¬ (0 ≤ number ∧ number ≤ ((T.length ^ m : Nat) : Int) - 1) then ([], 4)
      else (P.low T.length m number.toNat ++ [P.zeroAt T (P.after T (P.low T.length m number.toNat)) T.length 0], 0) := by
    unfold P.code
    rw [if_neg (by simp [h0]), if_neg (by omega)]
    have e1 : ((m : Int) + 1).toNat - 1 = m := by omega
    rw [e1]
    have hpos : 0 < T.length ^ m := Nat.pow_pos (by omega)
    by_cases h1 : number < 0
    · rw [if_pos h1, if_pos (by omega)]
    · rw [if_neg h1]
      by_cases h2 : T.length ^ m ≤ number.toNat
      · rw [if_pos (Nat.div_pos h2 hpos), if_pos (by omega)]
      · rw [if_neg (by rw [Nat.div_eq_of_lt (by omega)]; omega), if_neg (by omega)]
  rw [hcode]
  clear hcode
  by_cases hnum : 0 ≤ number ∧ number ≤ ((T.length ^ m : Nat) : Int) - 1
  · rw [if_neg (by omega)]
    obtain ⟨n, rfl⟩ := Int.eq_ofNat_of_zero_le hnum.1
    have hn : n ≤ 1000000000000 := by have := hpow m (Nat.le_refl _); omega
    rw [Int.toNat_natCast]
    have HI2 := hid (fun w => is_yes (n := (n : Int)) (lo := 0) (hi := ((T.length ^ m : Nat) : Int) - 1) hnum w)
    have hcall2 : ∀ w', Below w.heap.size w w' → ∀ g cd, RdI w' (some ⟨g, 0, none⟩) (P.low T.length m n) → Calls Try.prog 34 #[.slice a T.length c, .slice (some ⟨g, 0, none⟩) m cd] w' fun e w2 => e = .returned (.tuple #[.int .i64 (P.zeroAt T (P.after T (P.low T.length m n)) T.length 0), .int .i64 0]) ∧ Below w'.heap.size w' w2 :=
      fun w' hb g cd hr => by
        have := refDigit_any a (some ⟨g, 0, none⟩) c cd T (P.low T.length m n) w' (by rw [P.low_length]; unfold maxLen; omega) (hT.stays hb) hr
        rw [P.digit_ok h0 (by rw [P.low_length]; omega) (P.low_dg _ _ (by omega) _), P.low_length] at this
        exact this
    generalize P.zeroAt T (P.after T (P.low T.length m n)) T.length 0 = z at *
    have HC2 := hid hcall2
    have hmk := run_make_row' (P := Try.prog) 41 3 (.int .i64 0) 8 Try.underlying41 (by kernel_rfl) rfl .i64 .i64 m (by omega) (by omega)
    obtain ⟨i0, hi, hz0, hz1, hz2⟩ := info_parts (show (Try.prog.info? 3).map (fun i => (i.zero, i.size, i.bytes)) = some (some (.int .i64 0), 1, 8) by kernel_rfl)
    clear ht hT h0 hcall2 hnum hpow
    go_enter Try.func46, Try.ntmps46
    go_wp2_with fail
    refine HC.out.mono ?_
    rintro e w1 ⟨rfl, hb⟩
    have HB := hid hb; clear hb
    go_wp2_with (go_at_call 57; refine (HI1.out _).mono ?_; rintro e w' ⟨rfl, rfl⟩)
    go_loop [9, 10] (fun p i => ∃ k : Nat, k ≤ m ∧ i = .int .i64 ((k : Int) + 1) ∧ p = .int .i64 ((T.length ^ k : Nat) : Int)) (fun _ i => m + 1 - (intOf i).toNat)
    case atStart => exact ⟨0, Nat.zero_le _, rfl, rfl⟩
    case round =>
      obtain ⟨k, hk, rfl, rfl⟩ := hrel
      by_cases hkm : k < m
      · have hp := HP.out k hk
        have HPS := hid (Nat.pow_succ (n := T.length) (m := k))
        generalize T.length ^ k = p at *
        have h1 : (p : Int) * (T.length : Int) ≤ 10000000000000 := by
          rw [← Int.natCast_mul]
          have : p * T.length ≤ 1000000000000 * 10 := Nat.mul_le_mul hp hhi
          omega
        have h2 : (0 : Int) ≤ (p : Int) * (T.length : Int) := Int.mul_nonneg (by omega) (by omega)
        go_wp2
        go_round
        case rel => exact ⟨k + 1, by omega, by go_num, by rw [HPS.out, Int.natCast_mul]⟩
        case measure => simp [intOf]; omega
      · have hkm' : k = m := by omega
        subst hkm'
        have hp := HP.out k hk
        generalize T.length ^ k = p at *
        have hown0 : OwnI (w1.alloc (.cells (madeCells #[.int .i64 0] k) 3)) w.heap.size w1.heap.size k (List.replicate k 0) := by
          have h1 := World.ownsRow_lit (base := w.heap.size) (e := 3) (size := 1) w1 (madeCells #[.int .i64 0] k) k HB.out.size (by unfold maxLen; omega) (by simp [madeCells])
          rw [toList_madeCells_one] at h1
          unfold OwnI
          rw [List.length_replicate, List.map_replicate]
          exact h1
        have HOWN := hid hown0
        have HB0 := hid (HB.out.alloc HB.out.size (.cells (madeCells #[.int .i64 0] k) 3))
        have hg := HB.out.size
        clear hown0
        go_wp2_with (go_at_call 57; refine (HI2.out _).mono ?_; rintro e w' ⟨rfl, rfl⟩)
        clear hp HI2
        go_loopw [2, 12] (fun r i wr => ∃ (q : Nat) (y : Int), q ≤ k ∧ y + 1 = q ∧ i = .int .i64 y ∧ r = .int .i64 ((n / T.length ^ (k - q) : Nat) : Int) ∧ OwnI wr w.heap.size w1.heap.size k (List.replicate q 0 ++ P.low T.length (k - q) n) ∧ Below w.heap.size w wr) (fun _ i _ => (intOf i + 1).toNat)
        case atStart => exact ⟨k, (k : Int) - 1, Nat.le_refl _, by omega, by go_num, by rw [Nat.sub_self]; simp, by rw [Nat.sub_self]; simpa [P.low] using HOWN.out, HB0.out⟩
        case round =>
          obtain ⟨q, y, hq, hy, rfl, rfl, hown, hb⟩ := hrel
          have HO := hid hown; clear hown
          have HB2 := hid hb; clear hb
          have hrn : n / T.length ^ (k - q) ≤ n := Nat.div_le_self _ _
          cases q with
          | zero =>
            have hy' : y = -1 := by omega
            subst hy'
            simp only [Nat.sub_zero, List.replicate_zero, List.nil_append] at HO
            obtain ⟨rest, hrest⟩ : ∃ rest, rest = n / T.length ^ k := ⟨_, rfl⟩
            rw [Nat.sub_zero, ← hrest]
            have hc3 := HC2.out wr HB2.out w1.heap.size k HO.out.rd
            have HC3 := hid hc3
            clear hy hrest HOWN HB0 hrn hc3
            go_wp2_with fail
            refine HC3.out.mono ?_
            rintro e w2 ⟨rfl, hb2⟩
            have ho2 := HO.out.stays hb2
            have HB3 := hid (HB2.out.trans (hb2.mono HB2.out.size))
            unfold OwnI at ho2
            rw [P.low_length] at ho2
            have HO2 := hid ho2
            clear hb2 ho2
            go_wp2_with (at_builtin; refine wpList_append_own _ rfl _ _ 41 rfl w.heap.size 3 i0 (.int .i64 0) 1 8 Try.underlying41 hi hz0 hz1 hz2 rfl (by decide) _ _ _ rfl (HO2.out.alloc _) ⟨w2.heap.size, 0, none⟩ 1 1 [.int .i64 z] rfl rfl ?c1 ?c2 ?c3 ?c4 ?c5 ?_)
            case c1 =>
              intro j u hj
              match j, hj with
              | 0, hj => simp at hj; subst hj; simp [Addr.add]
            case c2 => intro u hu; simp at hu; subst hu; rfl
            case c3 => unfold maxLen; omega
            case c4 => omega
            case c5 => have := HB3.out.size; simp; omega
            intro v' w3 hown' hgrow _
            have HB4 := hid ((HB3.out.alloc HB3.out.size _).grown hgrow (by have := HB3.out.size; simp; omega) (fun q hq => (World.ownsRow.lt HO2.out q hq).1))
            have hown2 : w3.ownsRow w.heap.size 3 1 v' (k + 1) ((P.low T.length k n ++ [z]).map (Value.int .i64)) := by simpa using hown'
            obtain ⟨g, cap, rfl, ho3⟩ := OwnI.of_row hown2 (by simp)
            have HO3 := hid ho3
            clear hown' hgrow hown2 ho3
            go_wp2
            go_ret2
            exact ⟨some ⟨g, 0, none⟩, cap, _, by rw [List.length_append]; rfl, rfl, HO3.out.rd, HB4.out⟩
          | succ q =>
            have hy' : y = (q : Int) := by omega
            subst hy'
            obtain ⟨rest, hrest⟩ : ∃ rest, rest = n / T.length ^ (k - (q + 1)) := ⟨_, rfl⟩
            rw [← hrest]
            rw [← hrest] at hrn
            have hm1 : k - q = k - (q + 1) + 1 := by omega
            have HR : Hid (n / T.length ^ (k - q) = rest / T.length) := hid (by rw [hm1, Nat.pow_succ, ← Nat.div_div_eq_div_mul, hrest])
            have HL : Hid (P.low T.length (k - q) n = ((rest % T.length : Nat) : Int) :: P.low T.length (k - (q + 1)) n) := hid (by rw [hm1, hrest]; rfl)
            have hrd := HO.out.rd q (by simp; omega)
            obtain ⟨b', off', he, hcell⟩ := hrd
            simp only [Option.some.injEq, Addr.mk.injEq, and_true] at he
            obtain ⟨rfl, rfl⟩ := he
            rw [Nat.zero_add] at hcell
            generalize (List.replicate (q + 1) (0 : Int) ++ P.low T.length (k - (q + 1)) n)[q] = old at hcell
            have hfr := World.ownsRow.frozenAt HO.out q
            obtain ⟨rq, hrq⟩ : ∃ rq, rq = rest / T.length := ⟨_, rfl⟩
            have hrq2 : rq ≤ rest := by rw [hrq]; exact Nat.div_le_self _ _
            have hq1 : (rest : Int) / (T.length : Int) = (rq : Int) := by rw [hrq]; simp
            rw [← hrq] at HR
            have hb1 : (0 : Int) ≤ (rest : Int) / (T.length : Int) ∧ (rest : Int) / (T.length : Int) ≤ 9223372036854775807 := by rw [hq1]; omega
            have HQ := hid hq1
            clear hrq
            have HM : Hid ((rest : Int) % (T.length : Int) = ((rest % T.length : Nat) : Int)) := hid (by simp)
            obtain ⟨hb1, hb2⟩ := hb1
            have hy0 : (0 : Int) ≤ (q : Int) ∧ (q : Int) < (k : Int) := by omega
            have hne : ¬ (T.length : Int) = 0 := by omega
            clear hy hrest HOWN HB0 hq1 hm1
            go_wp2
            go_roundw
            case rel =>
              refine ⟨q, (q : Int) - 1, by omega, by omega, rfl, by rw [HQ.out, HR.out], ?_, HB2.out.setCell (p := ⟨w1.heap.size, q, none⟩) hg _⟩
              have hs := HO.out.set q (((rest : Int) % (T.length : Int)))
              rw [rep_set] at hs
              rw [HL.out, ← HM.out]
              exact hs
            case measure => simp [intOf]
  · rw [if_pos hnum]
    have HI2 := hid (fun w => is_no (n := number) (lo := 0) (hi := ((T.length ^ m : Nat) : Int) - 1) hnum w)
    clear ht hT h0 hnum hpow
    go_enter Try.func46, Try.ntmps46
    go_wp2_with fail
    refine HC.out.mono ?_
    rintro e w1 ⟨rfl, hb⟩
    have HB := hid hb; clear hb
    go_wp2_with (go_at_call 57; refine (HI1.out _).mono ?_; rintro e w' ⟨rfl, rfl⟩)
    go_loop [9, 10] (fun p i => ∃ k : Nat, k ≤ m ∧ i = .int .i64 ((k : Int) + 1) ∧ p = .int .i64 ((T.length ^ k : Nat) : Int)) (fun _ i => m + 1 - (intOf i).toNat)
    case atStart => exact ⟨0, Nat.zero_le _, rfl, rfl⟩
    case round =>
      obtain ⟨k, hk, rfl, rfl⟩ := hrel
      by_cases hkm : k < m
      · have hp := HP.out k hk
        have HPS := hid (Nat.pow_succ (n := T.length) (m := k))
        generalize T.length ^ k = p at *
        have h1 : (p : Int) * (T.length : Int) ≤ 10000000000000 := by
          rw [← Int.natCast_mul]
          have : p * T.length ≤ 1000000000000 * 10 := Nat.mul_le_mul hp hhi
          omega
        have h2 : (0 : Int) ≤ (p : Int) * (T.length : Int) := Int.mul_nonneg (by omega) (by omega)
        go_wp2
        go_round
        case rel => exact ⟨k + 1, by omega, by go_num, by rw [HPS.out, Int.natCast_mul]⟩
        case measure => simp [intOf]; omega
      · have hkm' : k = m := by omega
        subst hkm'
        have hp := HP.out k hk
        generalize T.length ^ k = p at *
        go_wp2_with (go_at_call 57; refine (HI2.out _).mono ?_; rintro e w' ⟨rfl, rfl⟩)
        go_ret2
        exact ⟨none, 0, [], rfl, rfl, RdI.nil _ _, HB.out⟩

set_option maxHeartbeats 1000000 in
theorem refCode_any (a : Option Addr) (c : Nat) (T : List (List Int)) (size number : Int) (w : World) (hT : RdM w a T) :
    Calls Try.prog 46 #[.slice a T.length c, .int .i64 size, .int .i64 number] w
      fun e w' => ∃ r cr xs, e = .returned (.tuple #[.slice r xs.length cr, .int .i64 (P.code T size number).2]) ∧ xs = (P.code T size number).1 ∧ RdI w' r xs ∧ Below w.heap.size w w' := by
  by_cases h0 : P.check T = 0
  · by_cases h1 : 2 ≤ size ∧ size ≤ 12
    · obtain ⟨m, rfl⟩ : ∃ m : Nat, size = (m : Int) + 1 := ⟨(size - 1).toNat, by omega⟩
      exact refCode_good a c T m number w (by omega) (by omega) hT (tab_of_check h0) h0
    · have hcall := refCheck_any a c T w hT
      rw [h0] at hcall
      have HC := hid hcall
      have HI := hid (fun w => is_no (n := size) (lo := 2) (hi := 12) h1 w)
      have e : P.code T size number = ([], 3) := by
        unfold P.code
        rw [if_neg (by simp [h0]), if_pos (by omega)]
      rw [e]
      clear hcall hT h0 h1 e
      go_enter Try.func46, Try.ntmps46
      go_wp2_with fail
      refine HC.out.mono ?_
      rintro e w1 ⟨rfl, hb⟩
      have HB := hid hb; clear hb
      go_wp2_with (go_at_call 57; refine (HI.out _).mono ?_; rintro e w' ⟨rfl, rfl⟩)
      go_ret2
      exact ⟨none, 0, [], rfl, rfl, RdI.nil _ _, HB.out⟩
  · have hcall := refCheck_any a c T w hT
    have e : P.code T size number = ([], P.check T) := by
      unfold P.code
      rw [if_pos h0]
    rw [e]
    clear e
    generalize P.check T = e0 at *
    have ht : (e0 != 0) = true := by simpa using h0
    have ht2 : (e0 == 0) = false := by rw [beq_eq_false_iff_ne]; exact h0
    have HC := hid hcall; clear hcall h0 hT
    go_enter Try.func46, Try.ntmps46
    go_wp2_with (go_at_call 30; refine HC.out.mono ?_; rintro e w' ⟨rfl, hb⟩)
    go_ret2
    exact ⟨none, 0, [], rfl, rfl, RdI.nil _ _, hb⟩

end Go.Proofs.Ytafpfcjemlonpaa
