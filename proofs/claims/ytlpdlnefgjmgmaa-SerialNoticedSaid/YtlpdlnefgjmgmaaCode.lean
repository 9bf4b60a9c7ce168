/- The walk of Code. -/
import Derived.Test.YtlpdlnefgjmgmaaNum
namespace Go.Proofs.Ytlpdlnefgjmgmaa
open Go.RowKit

/-- The last j digits of a number in a base. -/
def P.low (b : Nat) : Nat → Nat → List Int
  | 0, _ => []
  | j + 1, n => ((n / b ^ j % b : Nat) : Int) :: P.low b j n

theorem P.low_length (b n : Nat) : ∀ j, (P.low b j n).length = j
  | 0 => rfl
  | j + 1 => by simp [P.low, P.low_length b n j]

theorem P.low_dg (b n : Nat) (hb : 0 < b) : ∀ j, Dg b (P.low b j n) := fun j => Dg.of_mem (by
  induction j with
  | zero => intro x hx; simp [P.low] at hx
  | succ j ih =>
    intro x hx
    simp only [P.low, List.mem_cons] at hx
    rcases hx with rfl | hx
    · have := Nat.mod_lt (n / b ^ j) hb
      omega
    · exact ih x hx)

theorem rep_set (p : Nat) (v : Int) (l : List Int) : (List.replicate (p + 1) (0 : Int) ++ l).set p v = List.replicate p 0 ++ v :: l := by
  rw [List.replicate_succ', List.append_assoc, List.set_append_right _ _ (by simp)]
  simp

def P.code (T : List (List Int)) (size number : Int) : List Int × Int :=
  if P.check T ≠ 0 then ([], P.check T) else if size < 2 ∨ 12 < size then ([], 3) else if number < 0 then ([], 4)
  else if 0 < number.toNat / T.length ^ (size.toNat - 1) then ([], 4)
  else (P.low T.length (size.toNat - 1) number.toNat ++ [P.zeroAt T (P.after T (P.low T.length (size.toNat - 1) number.toNat)) T.length 0], 0)

theorem checkDigit_n (a ad : Option Addr) (c cd n : Nat) (T : List (List Int)) (xs : List Int) (w : World) (hn : xs.length = n) (hm : n ≤ maxLen) (hT : RdM w a T) (ht : Tab T)
    (hx : RdI w ad xs) (hd : Dg T.length xs) :
    Calls Try.prog 42 #[.slice a T.length c, .slice ad n cd] w fun e w' => e = .returned (.int .i64 (P.zeroAt T (P.after T xs) T.length 0)) ∧ Below w.heap.size w w' := by
  subst hn
  exact checkDigit_any a ad c cd T xs w hm hT ht.sq (by have := ht.lo; omega) ht.hi hx hd

theorem OwnI.stays {w w' : World} {base g cap : Nat} {xs : List Int} (h : OwnI w base g cap xs) (hb : Below w.heap.size w w') : OwnI w' base g cap xs := ownsRow_stays h hb

theorem OwnI.le {w : World} {base g cap : Nat} {xs : List Int} (h : OwnI w base g cap xs) : xs.length ≤ cap := by
  rcases h.2 with ⟨h1, _⟩ | ⟨g', cap', cur, h1, _, _, h2, _⟩
  · simp at h1
  · simp only [Value.slice.injEq, true_and] at h1
    obtain ⟨_, rfl⟩ := h1
    exact h2

set_option maxHeartbeats 2000000 in
set_option maxRecDepth 100000 in
/-- A good size and number. -/
theorem code_good (a : Option Addr) (c : Nat) (T : List (List Int)) (m n : Nat) (w : World) (hm1 : 1 ≤ m) (hm : m ≤ 11) (hn : (n : Int) ≤ 9223372036854775807) (hT : RdM w a T) (ht : Tab T) (h0 : P.check T = 0) :
    Calls Try.prog 19 #[.slice a T.length c, .int .i64 ((m : Int) + 1), .int .i64 (n : Int)] w
      fun e w' => ∃ r cr xs, e = .returned (.tuple #[.slice r xs.length cr, .int .i64 (if 0 < n / T.length ^ m then 4 else 0)]) ∧ xs.length ≤ cr ∧
        (xs = if 0 < n / T.length ^ m then [] else P.low T.length m n ++ [P.zeroAt T (P.after T (P.low T.length m n)) T.length 0]) ∧ RdI w' r xs ∧ Below w.heap.size w w' := by
  have hcall := check_any a c T w hT
  rw [h0] at hcall
  have HC := hid hcall; clear hcall
  have hlo := ht.lo
  have hhi := ht.hi
  have hcall2 : ∀ w', Below w.heap.size w w' → ∀ ad cd, RdI w' ad (P.low T.length m n) → Calls Try.prog 42 #[.slice a T.length c, .slice ad m cd] w' fun e w2 => e = .returned (.int .i64 (P.zeroAt T (P.after T (P.low T.length m n)) T.length 0)) ∧ Below w'.heap.size w' w2 :=
    fun w' hb ad cd hr => checkDigit_n a ad c cd m T _ w' (P.low_length _ _ _) (by unfold maxLen; omega) (hT.stays hb) ht hr (P.low_dg _ _ (by omega) _)
  generalize hz : P.zeroAt T (P.after T (P.low T.length m n)) T.length 0 = z at *
  clear hz
  have HC2 := hid hcall2; clear hcall2
  have hmk := run_make_row' (P := Try.prog) 35 3 (.int .i64 0) 8 Try.underlying35 (by kernel_rfl) rfl .i64 .i64 m (by omega) (by omega)
  obtain ⟨i0, hi, hz0, hz1, hz2⟩ := info_parts (show (Try.prog.info? 3).map (fun i => (i.zero, i.size, i.bytes)) = some (some (.int .i64 0), 1, 8) by kernel_rfl)
  clear ht hT h0
  go_enter Try.func19, Try.ntmps19
  go_wp2_with fail
  refine HC.out.mono ?_
  rintro e w1 ⟨rfl, hb⟩
  have HB := hid hb; clear hb
  have hown0 : OwnI (w1.alloc (.cells (madeCells #[.int .i64 0] m) 3)) w.heap.size w1.heap.size m (List.replicate m 0) := by
    have h1 := World.ownsRow_lit (base := w.heap.size) (e := 3) (size := 1) w1 (madeCells #[.int .i64 0] m) m HB.out.size (by unfold maxLen; omega) (by simp [madeCells])
    rw [toList_madeCells_one] at h1
    unfold OwnI
    rw [List.length_replicate, List.map_replicate]
    exact h1
  have HOWN := hid hown0; clear hown0
  have HB0 := hid (HB.out.alloc HB.out.size (.cells (madeCells #[.int .i64 0] m) 3))
  have hg := HB.out.size
  go_wp2
  go_loopw [10, 11] (fun r i wr => ∃ (q : Nat) (y : Int), q ≤ m ∧ y + 1 = q ∧ i = .int .i64 y ∧ r = .int .i64 ((n / T.length ^ (m - q) : Nat) : Int) ∧ OwnI wr w.heap.size w1.heap.size m (List.replicate q 0 ++ P.low T.length (m - q) n) ∧ Below w.heap.size w wr) (fun _ i _ => (intOf i + 1).toNat)
  case atStart => exact ⟨m, (m : Int) - 1, Nat.le_refl _, by omega, rfl, by rw [Nat.sub_self]; simp, by rw [Nat.sub_self]; simpa [P.low] using HOWN.out, HB0.out⟩
  case round =>
    obtain ⟨q, y, hq, hy, rfl, rfl, hown, hb⟩ := hrel
    have HO := hid hown; clear hown
    have HB2 := hid hb; clear hb
    have hrn : n / T.length ^ (m - q) ≤ n := Nat.div_le_self _ _
    cases q with
    | zero =>
      have hy' : y = -1 := by omega
      subst hy'
      simp only [Nat.sub_zero, List.replicate_zero, List.nil_append] at HO
      obtain ⟨rest, hrest⟩ : ∃ rest, rest = n / T.length ^ m := ⟨_, rfl⟩
      rw [Nat.sub_zero, ← hrest]
      rw [Nat.sub_zero, ← hrest] at hrn
      have HR := hid hrest
      clear hy hrest HOWN HB0
      by_cases hr : 0 < rest
      · have hr2 : (0 : Int) < ((rest : Nat) : Int) := by omega
        have HR2 : Hid (0 < n / T.length ^ m) := hid (by rw [← HR.out]; exact hr)
        clear hr
        go_wp2
        go_ret2
        exact ⟨none, 0, [], rfl, Nat.le_refl _, rfl, RdI.nil _ _, HB2.out⟩
      · have hr2 : rest = 0 := by omega
        subst hr2
        have HR2 : Hid (¬ 0 < n / T.length ^ m) := hid (by rw [← HR.out]; exact hr)
        clear hr HR hrn
        have hc3 := HC2.out wr HB2.out (some ⟨w1.heap.size, 0, none⟩) m HO.out.rd
        have HC3 := hid hc3; clear hc3
        go_wp2_with fail
        refine HC3.out.mono ?_
        rintro e w2 ⟨rfl, hb2⟩
        have ho2 := HO.out.stays hb2
        have HB3 := hid (HB2.out.trans (hb2.mono HB2.out.size))
        unfold OwnI at ho2
        rw [P.low_length] at ho2
        have HO2 := hid ho2
        clear hb2 ho2
        go_wp2_with (at_builtin; refine wpList_append_own _ rfl _ _ 35 rfl w.heap.size 3 i0 (.int .i64 0) 1 8 Try.underlying35 hi hz0 hz1 hz2 rfl (by decide) _ _ _ rfl (HO2.out.alloc _) ⟨w2.heap.size, 0, none⟩ 1 1 [.int .i64 z] rfl rfl ?c1 ?c2 ?c3 ?c4 ?c5 ?_)
        case c1 =>
          intro j u hj
          match j, hj with
          | 0, hj => simp at hj; subst hj; simp [Addr.add]
        case c2 => intro u hu; simp at hu; subst hu; rfl
        case c3 => unfold maxLen; omega
        case c4 => omega
        case c5 => have := HB3.out.size; simp; omega
        intro v' w3 hown' hgrow _
        have HB4 := hid ((HB3.out.alloc HB3.out.size _).grown hgrow (by have := HB3.out.size; simp; omega) (fun q hq => (World.ownsRow.lt HO2.out q hq).1))
        have hown2 : w3.ownsRow w.heap.size 3 1 v' (m + 1) ((P.low T.length m n ++ [z]).map (Value.int .i64)) := by simpa using hown'
        obtain ⟨g, cap, rfl, ho3⟩ := OwnI.of_row hown2 (by simp)
        have HO3 := hid ho3
        clear hown' hgrow hown2 ho3
        go_wp2
        go_ret2
        exact ⟨some ⟨g, 0, none⟩, cap, _, by rw [List.length_append]; rfl, HO3.out.le, rfl, HO3.out.rd, HB4.out⟩
    | succ q =>
      have hy' : y = (q : Int) := by omega
      subst hy'
      obtain ⟨rest, hrest⟩ : ∃ rest, rest = n / T.length ^ (m - (q + 1)) := ⟨_, rfl⟩
      rw [← hrest]
      rw [← hrest] at hrn
      have hm1 : m - q = m - (q + 1) + 1 := by omega
      have HR : Hid (n / T.length ^ (m - q) = rest / T.length) := hid (by rw [hm1, Nat.pow_succ, ← Nat.div_div_eq_div_mul, hrest])
      have HL : Hid (P.low T.length (m - q) n = ((rest % T.length : Nat) : Int) :: P.low T.length (m - (q + 1)) n) := hid (by rw [hm1, hrest]; rfl)
      have hrd := HO.out.rd q (by simp; omega)
      obtain ⟨b', off', he, hcell⟩ := hrd
      simp only [Option.some.injEq, Addr.mk.injEq, and_true] at he
      obtain ⟨rfl, rfl⟩ := he
      rw [Nat.zero_add] at hcell
      generalize (List.replicate (q + 1) (0 : Int) ++ P.low T.length (m - (q + 1)) n)[q] = old at hcell
      have hfr := World.ownsRow.frozenAt HO.out q
      obtain ⟨rq, hrq⟩ : ∃ rq, rq = rest / T.length := ⟨_, rfl⟩
      have hrq2 : rq ≤ rest := by rw [hrq]; exact Nat.div_le_self _ _
      have hq1 : (rest : Int) / (T.length : Int) = (rq : Int) := by rw [hrq]; simp
      rw [← hrq] at HR
      have hb1 : (0 : Int) ≤ (rest : Int) / (T.length : Int) ∧ (rest : Int) / (T.length : Int) ≤ 9223372036854775807 := by rw [hq1]; omega
      have HQ := hid hq1
      clear hrq
      have HM : Hid ((rest : Int) % (T.length : Int) = ((rest % T.length : Nat) : Int)) := hid (by simp)
      obtain ⟨hb1, hb2⟩ := hb1
      have hy0 : (0 : Int) ≤ (q : Int) ∧ (q : Int) < (m : Int) := by omega
      have hne : ¬ (T.length : Int) = 0 := by omega
      clear hy hrest HOWN HB0 hq1 hm1
      go_wp2
      go_roundw
      case rel =>
        refine ⟨q, (q : Int) - 1, by omega, by omega, rfl, by rw [HQ.out, HR.out], ?_, HB2.out.setCell (p := ⟨w1.heap.size, q, none⟩) hg _⟩
        have hs := HO.out.set q (((rest : Int) % (T.length : Int)))
        rw [rep_set] at hs
        rw [HL.out, ← HM.out]
        exact hs
      case measure => simp [intOf]

set_option maxHeartbeats 1000000 in
theorem code_any (a : Option Addr) (c : Nat) (T : List (List Int)) (size number : Int) (w : World) (hn : number ≤ 9223372036854775807) (hT : RdM w a T) :
    Calls Try.prog 19 #[.slice a T.length c, .int .i64 size, .int .i64 number] w
      fun e w' => ∃ r cr xs, e = .returned (.tuple #[.slice r xs.length cr, .int .i64 (P.code T size number).2]) ∧ xs.length ≤ cr ∧ xs = (P.code T size number).1 ∧ RdI w' r xs ∧ Below w.heap.size w w' := by
  have hcall := check_any a c T w hT
  unfold P.code
  by_cases h0 : P.check T = 0
  · rw [if_neg (by simp [h0])]
    by_cases h1 : size < 2 ∨ 12 < size
    · rw [if_pos h1]
      rw [h0] at hcall
      have HC := hid hcall; clear hcall hT h0
      by_cases h2 : size < 2
      · clear h1
        go_enter Try.func19, Try.ntmps19
        go_wp2_with (go_at_call 41; refine HC.out.mono ?_; rintro e w' ⟨rfl, hb⟩)
        go_ret2
        exact ⟨none, 0, [], rfl, Nat.le_refl _, rfl, RdI.nil _ _, hb⟩
      · have h3 : 12 < size := by omega
        clear h1
        go_enter Try.func19, Try.ntmps19
        go_wp2_with (go_at_call 41; refine HC.out.mono ?_; rintro e w' ⟨rfl, hb⟩)
        go_ret2
        exact ⟨none, 0, [], rfl, Nat.le_refl _, rfl, RdI.nil _ _, hb⟩
    rw [if_neg h1]
    by_cases h2 : number < 0
    · rw [if_pos h2]
      rw [h0] at hcall
      have HC := hid hcall; clear hcall hT h0
      have h3 : ¬ size < 2 := by omega
      have h4 : ¬ 12 < size := by omega
      clear h1
      go_enter Try.func19, Try.ntmps19
      go_wp2_with (go_at_call 41; refine HC.out.mono ?_; rintro e w' ⟨rfl, hb⟩)
      go_ret2
      exact ⟨none, 0, [], rfl, Nat.le_refl _, rfl, RdI.nil _ _, hb⟩
    rw [if_neg h2]
    obtain ⟨n, rfl⟩ := Int.eq_ofNat_of_zero_le (show 0 ≤ number by omega)
    obtain ⟨m, hm⟩ : ∃ m : Nat, size = (m : Int) + 1 := ⟨(size - 1).toNat, by omega⟩
    subst hm
    have e1 : ((m : Int) + 1).toNat - 1 = m := by omega
    rw [e1, Int.toNat_natCast]
    refine (code_good a c T m n w (by omega) (by omega) hn hT (tab_of_check h0) h0).mono ?_
    rintro e w' ⟨r, cr, xs, rfl, hle, hxs, hr, hb⟩
    by_cases h5 : 0 < n / T.length ^ m
    · rw [if_pos h5] at hxs ⊢
      rw [if_pos h5]
      exact ⟨r, cr, xs, rfl, hle, hxs, hr, hb⟩
    · rw [if_neg h5] at hxs ⊢
      rw [if_neg h5]
      exact ⟨r, cr, xs, rfl, hle, hxs, hr, hb⟩
  · rw [if_pos h0]
    generalize P.check T = e0 at *
    have ht : (e0 != 0) = true := by simpa using h0
    have HC := hid hcall; clear hcall h0 hT
    go_enter Try.func19, Try.ntmps19
    go_wp2_with (go_at_call 41; refine HC.out.mono ?_; rintro e w' ⟨rfl, hb⟩)
    go_ret2
    exact ⟨none, 0, [], rfl, Nat.le_refl _, rfl, RdI.nil _ _, hb⟩

end Go.Proofs.Ytlpdlnefgjmgmaa
