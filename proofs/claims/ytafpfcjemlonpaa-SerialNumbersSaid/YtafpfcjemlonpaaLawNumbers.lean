/- The law SerialNumbers: for every table, size, number and digits, Code and Number answer as the document's own answers do. No condition. -/
import Derived.Test.YtafpfcjemlonpaaWorks
import Derived.Test.YtafpfcjemlonpaaRefNum
import Derived.Test.YtafpfcjemlonpaaLarge
import Derived.Test.YtafpfcjemlonpaaOpen
import Derived.ShutString
import Derived.ChangeOld
import Derived.Below
namespace Go.Proofs.Ytafpfcjemlonpaa
open Go.ChangeShapes Go.WideShapes Go.ChangeAt Go.RowKit

theorem P.code_le (T : List (List Int)) (size number : Int) : (P.code T size number).1.length ≤ 100 := by
  unfold P.code
  split
  · simp
  split
  · simp
  split
  · simp
  split
  · simp
  · simp [P.low_length]
    omega

theorem code_v (a : Option Addr) (c : Nat) (T : List (List Int)) (size number : Int) (w : World) (hn : number ≤ 9223372036854775807) (hT : RdM w a T) :
    Calls Try.prog 45 #[.slice a T.length c, .int .i64 size, .int .i64 number] w fun e w' => ∃ r cr, e = .returned (.tuple #[.slice r (P.code T size number).1.length cr, .int .i64 (P.code T size number).2]) ∧ RdI w' r (P.code T size number).1 ∧ Below w.heap.size w w' := by
  refine (code_any a c T size number w hn hT).mono ?_
  rintro e w' ⟨r, cr, xs, rfl, _, hxs, hr, hb⟩
  subst hxs
  exact ⟨r, cr, rfl, hr, hb⟩

theorem refCode_v (a : Option Addr) (c : Nat) (T : List (List Int)) (size number : Int) (w : World) (hT : RdM w a T) :
    Calls Try.prog 46 #[.slice a T.length c, .int .i64 size, .int .i64 number] w fun e w' => ∃ r cr, e = .returned (.tuple #[.slice r (P.code T size number).1.length cr, .int .i64 (P.code T size number).2]) ∧ RdI w' r (P.code T size number).1 ∧ Below w.heap.size w w' := by
  refine (refCode_any a c T size number w hT).mono ?_
  rintro e w' ⟨r, cr, xs, rfl, hxs, hr, hb⟩
  subst hxs
  exact ⟨r, cr, rfl, hr, hb⟩

theorem numbers_eqb (a b : Option Addr) (ca cb : Nat) (xs : List Int) (w : World) (hm : xs.length ≤ maxLen) (ha : RdI w a xs) (hb : RdI w b xs) :
    Calls Try.prog 44 #[.slice a xs.length ca, .slice b xs.length cb] w fun e w' => e = .returned (.bool true) ∧ Below w.heap.size w w' :=
  (numbers_eq a b ca cb xs w hm ha hb).mono fun _ _ ⟨h1, h2⟩ => ⟨h1, Quiet.below h2⟩

set_option maxHeartbeats 8000000 in
set_option maxRecDepth 100000 in
/-- The law's walk. -/
theorem serialNumbers_walk (w : World) (a : Option Addr) (c : Nat) (T : List (List Int)) (_hTl : T.length ≤ maxLen) (hT : RdM w a T) (size : Int) (_hs : (Lit.int .i64 size).wf = true) (number : Int) (hn : (Lit.int .i64 number).wf = true) (ad : Option Addr) (cd : Nat) (xs : List Int) (hxc : xs.length ≤ cd) (hcd : cd ≤ maxLen) (hX : RdI w ad xs) :
    Calls Try.prog 7 #[.slice a T.length c, .int .i64 size, .int .i64 number, .slice ad xs.length cd] w fun e w' => e = .returned (.bool true) ∧ Below w.heap.size w w' := by
  have hm : xs.length ≤ maxLen := Nat.le_trans hxc hcd
  have hnm : number ≤ 9223372036854775807 := by
    have hmax : IntKind.i64.max = 9223372036854775807 := rfl
    simp only [Lit.wf, Bool.and_eq_true, decide_eq_true_eq] at hn
    omega
  have hV : (P.code T size number).1.length ≤ maxLen := Nat.le_trans (P.code_le T size number) (by unfold maxLen; omega)
  clear _hTl hn _hs
  have c1 := fun w' (h1 : RdM w' a T) => code_v a c T size number w' hnm h1
  have c2 := fun w' (h1 : RdM w' a T) => refCode_v a c T size number w' h1
  have c3 := fun w' (h1 : RdM w' a T) (h2 : RdI w' ad xs) => number_any a ad c cd T xs w' hm hxc h1 h2
  have c4 := fun w' (h1 : RdM w' a T) (h2 : RdI w' ad xs) => refNumber_any a ad c cd T xs w' hm h1 h2
  generalize (P.code T size number).1 = V at *
  generalize (P.code T size number).2 = q1 at *
  generalize (P.number T xs).1 = n1 at *
  generalize (P.number T xs).2 = n2 at *
  have Hc1 := hid c1
  have Hc2 := hid c2
  have Hc3 := hid c3
  have Hc4 := hid c4
  have t_q1 : (q1 == q1) = true := by simp
  have t_n1 : (n1 == n1) = true := by simp
  have t_n2 : (n2 == n2) = true := by simp
  have HL := hid (large_any a c T w hT)
  have M_0 := hid hT
  have X_0 := hid hX
  clear hT hX c1 c2 c3 c4
  have B_0 : Hid (Below w.heap.size w w) := hid (Below.refl _ _)
  by_cases h40 : 40 < xs.length
  · go_enter Try.func7, Try.ntmps7
    go_wp2_with fail
    refine HL.out.mono ?_
    rintro e w' ⟨b, rfl, rfl⟩
    cases b
    · go_wp2_with (go_at_call 15; refine (works_any _).mono ?_; rintro e w' ⟨rfl, hb⟩)
      go_ret
      exact ⟨rfl, hb⟩
    · go_wp2_with (go_at_call 15; refine (works_any _).mono ?_; rintro e w' ⟨rfl, hb⟩)
      go_ret
      exact ⟨rfl, hb⟩
  · go_enter Try.func7, Try.ntmps7
    go_wp2_with fail
    refine HL.out.mono ?_
    rintro e w' ⟨b, rfl, rfl⟩
    cases b
    · have HC := hid (Hc1.out w M_0.out)
      go_wp2_with fail
      refine HC.out.mono ?_
      rintro e w1 ⟨r1, k1, rfl, hr, hb⟩
      have hd : Below w.heap.size w w1 := hb
      have M_1 := hid (M_0.out.stays hd)
      have X_1 := hid (X_0.out.stays hd)
      have B_1 := hid (B_0.out.trans (hd.mono B_0.out.size))
      have V1_1 := hid hr
      clear hb hd hr M_0 X_0 B_0
      clear HC
      have HC := hid (Hc2.out w1 M_1.out)
      go_wp2_with fail
      refine HC.out.mono ?_
      rintro e w2 ⟨r2, k2, rfl, hr, hb⟩
      have hd : Below w1.heap.size w1 w2 := hb
      have M_2 := hid (M_1.out.stays hd)
      have X_2 := hid (X_1.out.stays hd)
      have V1_2 := hid (V1_1.out.stays hd)
      have B_2 := hid (B_1.out.trans (hd.mono B_1.out.size))
      have V2_2 := hid hr
      clear hb hd hr M_1 X_1 V1_1 B_1
      clear HC
      have HC := hid (Hc3.out w2 M_2.out X_2.out)
      go_wp2_with fail
      refine HC.out.mono ?_
      rintro e w3 ⟨rfl, hb⟩
      have hd : Below w2.heap.size w2 w3 := hb
      have M_3 := hid (M_2.out.stays hd)
      have X_3 := hid (X_2.out.stays hd)
      have V1_3 := hid (V1_2.out.stays hd)
      have V2_3 := hid (V2_2.out.stays hd)
      have B_3 := hid (B_2.out.trans (hd.mono B_2.out.size))
      clear hb hd  M_2 X_2 V1_2 V2_2 B_2
      clear HC
      have HC := hid (Hc4.out w3 M_3.out X_3.out)
      go_wp2_with fail
      refine HC.out.mono ?_
      rintro e w4 ⟨rfl, hb⟩
      have hd : Below w3.heap.size w3 w4 := hb
      have M_4 := hid (M_3.out.stays hd)
      have X_4 := hid (X_3.out.stays hd)
      have V1_4 := hid (V1_3.out.stays hd)
      have V2_4 := hid (V2_3.out.stays hd)
      have B_4 := hid (B_3.out.trans (hd.mono B_3.out.size))
      clear hb hd  M_3 X_3 V1_3 V2_3 B_3
      clear HC
      have HC := hid (numbers_eqb r1 r2 k1 k2 V w4 hV V1_4.out V2_4.out)
      go_wp2_with fail
      refine HC.out.mono ?_
      rintro e w5 ⟨rfl, hb⟩
      have hd : Below w4.heap.size w4 w5 := hb
      have M_5 := hid (M_4.out.stays hd)
      have X_5 := hid (X_4.out.stays hd)
      have V1_5 := hid (V1_4.out.stays hd)
      have V2_5 := hid (V2_4.out.stays hd)
      have B_5 := hid (B_4.out.trans (hd.mono B_4.out.size))
      clear hb hd  M_4 X_4 V1_4 V2_4 B_4
      clear HC
      clear V1_5
      clear V2_5
      have HC := hid (works_any w5)
      go_wp2_with fail
      refine HC.out.mono ?_
      rintro e w6 ⟨rfl, hb⟩
      have hd : Below w5.heap.size w5 w6 := hb
      have M_6 := hid (M_5.out.stays hd)
      have X_6 := hid (X_5.out.stays hd)
      have B_6 := hid (B_5.out.trans (hd.mono B_5.out.size))
      clear hb hd  M_5 X_5 B_5
      clear HC
      go_wp2
      go_ret
      exact ⟨rfl, B_6.out⟩
    · go_wp2_with (go_at_call 15; refine (works_any _).mono ?_; rintro e w' ⟨rfl, hb⟩)
      go_ret
      exact ⟨rfl, hb⟩

/-! The row's frame (the guide's template). -/
set_option linter.unusedVariables false in
set_option maxRecDepth 100000 in
theorem serialNumbers_lifted (os : Os) (started : os.Started) (H : Type) (enc : TypeId × Value → H) :
    ReturnsInHanded {} Try.checked os 7 .any (Rows.serialNumbersSpec.pre6 enc Try.prog Try.f7 Rows.serialNumbersRow.domain false) (Rows.serialNumbersSpec.post enc Try.prog Try.f7 false true false false) := by
  refine returnsInHanded_of_change (C := Try.checked) own started (by kernel_rfl) Try.func7
    (ChangeSpec.witness6 (enc := enc) (C := Try.checked) false ⟨#[], #[.slice none 0 0, .int .i64 0, .int .i64 0, .slice none 0 0], []⟩ 8 (by kernel_rfl) (by kernel_rfl) (by kernel_rfl) (by kernel_rfl)) ?_
  intro W base args ds gs before hval0 hW hcnd _
  have hval : ∀ (j : Nat) t v, Try.f7.params[j]? = some t → args[j]? = some v → Value.okWide Try.prog W .any base t v := hval0
  have hW' := hW
  obtain ⟨p, q, hA0, hV, rfl, hfz, hnd⟩ := hW
  have hA : DataW.TrodAll enc Try.prog W 0 (fun _ => true) true Try.f7.params.toList args.toList ds p := hA0
  rw [Try.params7] at hA hval
  obtain ⟨v0, vs0, d0, ds0, p0, q0, hargs, rfl, rfl, h0, r0⟩ := trodAll_cons hA
  obtain ⟨v1, vs1, d1, ds1, p1, q1, rfl, rfl, rfl, h1, r1⟩ := trodAll_cons r0
  obtain ⟨v2, vs2, d2, ds2, p2, q2, rfl, rfl, rfl, h2, r2⟩ := trodAll_cons r1
  obtain ⟨v3, vs3, d3, ds3, p3, q3, rfl, rfl, rfl, h3, r3⟩ := trodAll_cons r2
  obtain ⟨rfl, rfl, rfl⟩ := trodAll_nil r3
  obtain rfl : args = #[v0, v1, v2, v3] := by cases args; simp_all
  obtain ⟨rfl, rfl⟩ := trodVars_none hV
  have k0 := h0
  have lt0 : ∀ x ∈ p0, x.block < W.heap.size := by obtain ⟨m, hm⟩ := k0; exact DataW.trod_lt m _ _ _ hm
  obtain ⟨a0, len0, cap0, rfl⟩ := okWide_slice Try.underlying26 (hval 0 26 v0 rfl rfl)
  obtain ⟨T0, rfl, hT0, hR0⟩ := open_rdM h0
  have k1 := h1
  have lt1 : ∀ x ∈ p1, x.block < W.heap.size := by obtain ⟨m, hm⟩ := k1; exact DataW.trod_lt m _ _ _ hm
  obtain ⟨a1, rfl, rfl, rfl, w1⟩ := open_int Try.underlying3 (hval 1 3 v1 rfl rfl) h1
  have k2 := h2
  have lt2 : ∀ x ∈ p2, x.block < W.heap.size := by obtain ⟨m, hm⟩ := k2; exact DataW.trod_lt m _ _ _ hm
  obtain ⟨a2, rfl, rfl, rfl, w2⟩ := open_int Try.underlying3 (hval 2 3 v2 rfl rfl) h2
  have k3 := h3
  have lt3 : ∀ x ∈ p3, x.block < W.heap.size := by obtain ⟨m, hm⟩ := k3; exact DataW.trod_lt m _ _ _ hm
  obtain ⟨a3, len3, cap3, rfl⟩ := okWide_slice Try.underlying41 (hval 3 41 v3 rfl rfl)
  obtain ⟨xs3, rfl, hc3, hm3, hR3, hw3⟩ := open_rdI h3
  clear hA0 hval0
  refine (serialNumbers_walk W a0 cap0 T0 hT0 hR0 a1 w1 a2 w2 a3 cap3 xs3 hc3 hm3 hR3 ).mono fun e W' ⟨he, bel⟩ => ?_
  subst he
  exact ⟨_, rfl, _, _, _, [], _, [], hW', trodAll_mk1 (shut_bool Try.underlying4 _), (trodAll_cons_mk (Below.trod laidOut (by kernel_rfl) (of_decide_eq_true (by kernel_rfl)) k0 bel lt0) (trodAll_cons_mk (Below.trod laidOut (by kernel_rfl) (of_decide_eq_true (by kernel_rfl)) k1 bel lt1) (trodAll_cons_mk (Below.trod laidOut (by kernel_rfl) (of_decide_eq_true (by kernel_rfl)) k2 bel lt2) (trodAll_cons_mk (Below.trod laidOut (by kernel_rfl) (of_decide_eq_true (by kernel_rfl)) k3 bel lt3) trodAll_mk0)))), rfl, bel.frame _, fun h => by cases h⟩

theorem serialNumbers_over : Rows.serialNumbersRow.holds Try.pinned (OpenSpec.ofChange Rows.serialNumbersSpec) :=
  OpenClaim.holds_of_wide 7 Try.f7 rfl rfl rfl rfl rfl rfl rfl ⟨rfl, rfl, rfl, rfl, rfl⟩ rfl rfl rfl rfl rfl (by kernel_rfl) Try.func7 (by kernel_rfl)
    (of_decide_eq_true (by kernel_rfl)) (by unfold Func.isWrapper; first | (rw [if_pos (by decide +kernel)]; kernel_rfl) | (rw [if_neg (by decide +kernel)]; exact ⟨rfl, rfl⟩))
    (fun os started H enc _ => serialNumbers_lifted os started H enc)

theorem serialNumbers_proved : Rows.SerialNumbersSaid := serialNumbers_over

end Go.Proofs.Ytafpfcjemlonpaa
