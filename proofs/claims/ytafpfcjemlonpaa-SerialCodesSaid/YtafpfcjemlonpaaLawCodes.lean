/- The law SerialCodes: for every table, digits and index, State, Digit, Right and Restore answer as the document's own answers do. No condition. -/
import Derived.Test.YtafpfcjemlonpaaWorks
import Derived.Test.YtafpfcjemlonpaaRefRes
import Derived.Test.YtafpfcjemlonpaaLarge
import Derived.Test.YtafpfcjemlonpaaOpen
import Derived.ShutString
import Derived.ChangeOld
import Derived.Below
namespace Go.Proofs.Ytafpfcjemlonpaa
open Go.ChangeShapes Go.WideShapes Go.ChangeAt Go.RowKit

set_option maxHeartbeats 8000000 in
set_option maxRecDepth 100000 in
/-- The law's walk. -/
theorem serialCodes_walk (w : World) (a : Option Addr) (c : Nat) (T : List (List Int)) (_hTl : T.length ≤ maxLen) (hT : RdM w a T) (ad : Option Addr) (cd : Nat) (xs : List Int) (hxc : xs.length ≤ cd) (hcd : cd ≤ maxLen) (hX : RdI w ad xs) (i : Int) (_hi : (Lit.int .i64 i).wf = true) :
    Calls Try.prog 5 #[.slice a T.length c, .slice ad xs.length cd, .int .i64 i] w fun e w' => e = .returned (.bool true) ∧ Below w.heap.size w w' := by
  have hm : xs.length ≤ maxLen := Nat.le_trans hxc hcd
  clear _hTl _hi
  have c1 := fun w' (h1 : RdM w' a T) (h2 : RdI w' ad xs) => state_any a ad c cd T xs w' hm h1 h2
  have c2 := fun w' (h1 : RdM w' a T) (h2 : RdI w' ad xs) => refStateF_any a ad c cd T xs w' hm h1 h2
  have c3 := fun w' (h1 : RdM w' a T) (h2 : RdI w' ad xs) => digit_any a ad c cd T xs w' hm h1 h2
  have c4 := fun w' (h1 : RdM w' a T) (h2 : RdI w' ad xs) => refDigit_any a ad c cd T xs w' hm h1 h2
  have c5 := fun w' (h1 : RdM w' a T) (h2 : RdI w' ad xs) => restore_any a ad c cd T xs i w' hm h1 h2
  have c6 := fun w' (h1 : RdM w' a T) (h2 : RdI w' ad xs) => refRestore_any a ad c cd T xs i w' hm h1 h2
  have c7 := fun w' (h1 : RdM w' a T) (h2 : RdI w' ad xs) => right_any a ad c cd T xs w' hm h1 h2
  have c8 := fun w' (h1 : RdM w' a T) (h2 : RdI w' ad xs) => refRight_any a ad c cd T xs w' hm h1 h2
  generalize (P.state T xs).1 = s1 at *
  generalize (P.state T xs).2 = s2 at *
  generalize (P.digit T xs).1 = d1 at *
  generalize (P.digit T xs).2 = d2 at *
  generalize (P.restore T xs i).1 = r1 at *
  generalize (P.restore T xs i).2 = r2 at *
  generalize P.right T xs = q1 at *
  have Hc1 := hid c1
  have Hc2 := hid c2
  have Hc3 := hid c3
  have Hc4 := hid c4
  have Hc5 := hid c5
  have Hc6 := hid c6
  have Hc7 := hid c7
  have Hc8 := hid c8
  have t_s1 : (s1 == s1) = true := by simp
  have t_s2 : (s2 == s2) = true := by simp
  have t_d1 : (d1 == d1) = true := by simp
  have t_d2 : (d2 == d2) = true := by simp
  have t_r1 : (r1 == r1) = true := by simp
  have t_r2 : (r2 == r2) = true := by simp
  have t_q1 : (q1 == q1) = true := by simp
  have HL := hid (large_any a c T w hT)
  have M_0 := hid hT
  have X_0 := hid hX
  clear hT hX c1 c2 c3 c4 c5 c6 c7 c8
  have B_0 : Hid (Below w.heap.size w w) := hid (Below.refl _ _)
  by_cases h40 : 40 < xs.length
  · go_enter Try.func5, Try.ntmps5
    go_wp2_with fail
    refine HL.out.mono ?_
    rintro e w' ⟨b, rfl, rfl⟩
    cases b
    · go_wp2_with (go_at_call 15; refine (works_any _).mono ?_; rintro e w' ⟨rfl, hb⟩)
      go_ret
      exact ⟨rfl, hb⟩
    · go_wp2_with (go_at_call 15; refine (works_any _).mono ?_; rintro e w' ⟨rfl, hb⟩)
      go_ret
      exact ⟨rfl, hb⟩
  · go_enter Try.func5, Try.ntmps5
    go_wp2_with fail
    refine HL.out.mono ?_
    rintro e w' ⟨b, rfl, rfl⟩
    cases b
    · have HC := hid (Hc1.out w M_0.out X_0.out)
      go_wp2_with fail
      refine HC.out.mono ?_
      rintro e w1 ⟨rfl, hb⟩
      have hd : Below w.heap.size w w1 := hb
      have M_1 := hid (M_0.out.stays hd)
      have X_1 := hid (X_0.out.stays hd)
      have B_1 := hid (B_0.out.trans (hd.mono B_0.out.size))
      clear hb hd  M_0 X_0 B_0
      clear HC
      have HC := hid (Hc2.out w1 M_1.out X_1.out)
      go_wp2_with fail
      refine HC.out.mono ?_
      rintro e w2 ⟨rfl, hb⟩
      have hd : Below w1.heap.size w1 w2 := hb
      have M_2 := hid (M_1.out.stays hd)
      have X_2 := hid (X_1.out.stays hd)
      have B_2 := hid (B_1.out.trans (hd.mono B_1.out.size))
      clear hb hd  M_1 X_1 B_1
      clear HC
      have HC := hid (Hc3.out w2 M_2.out X_2.out)
      go_wp2_with fail
      refine HC.out.mono ?_
      rintro e w3 ⟨rfl, hb⟩
      have hd : Below w2.heap.size w2 w3 := hb
      have M_3 := hid (M_2.out.stays hd)
      have X_3 := hid (X_2.out.stays hd)
      have B_3 := hid (B_2.out.trans (hd.mono B_2.out.size))
      clear hb hd  M_2 X_2 B_2
      clear HC
      have HC := hid (Hc4.out w3 M_3.out X_3.out)
      go_wp2_with fail
      refine HC.out.mono ?_
      rintro e w4 ⟨rfl, hb⟩
      have hd : Below w3.heap.size w3 w4 := hb
      have M_4 := hid (M_3.out.stays hd)
      have X_4 := hid (X_3.out.stays hd)
      have B_4 := hid (B_3.out.trans (hd.mono B_3.out.size))
      clear hb hd  M_3 X_3 B_3
      clear HC
      have HC := hid (Hc5.out w4 M_4.out X_4.out)
      go_wp2_with fail
      refine HC.out.mono ?_
      rintro e w5 ⟨rfl, hb⟩
      have hd : Below w4.heap.size w4 w5 := hb
      have M_5 := hid (M_4.out.stays hd)
      have X_5 := hid (X_4.out.stays hd)
      have B_5 := hid (B_4.out.trans (hd.mono B_4.out.size))
      clear hb hd  M_4 X_4 B_4
      clear HC
      have HC := hid (Hc6.out w5 M_5.out X_5.out)
      go_wp2_with fail
      refine HC.out.mono ?_
      rintro e w6 ⟨rfl, hb⟩
      have hd : Below w5.heap.size w5 w6 := hb
      have M_6 := hid (M_5.out.stays hd)
      have X_6 := hid (X_5.out.stays hd)
      have B_6 := hid (B_5.out.trans (hd.mono B_5.out.size))
      clear hb hd  M_5 X_5 B_5
      clear HC
      have HC := hid (Hc7.out w6 M_6.out X_6.out)
      go_wp2_with fail
      refine HC.out.mono ?_
      rintro e w7 ⟨rfl, hb⟩
      have hd : Below w6.heap.size w6 w7 := hb
      have M_7 := hid (M_6.out.stays hd)
      have X_7 := hid (X_6.out.stays hd)
      have B_7 := hid (B_6.out.trans (hd.mono B_6.out.size))
      clear hb hd  M_6 X_6 B_6
      clear HC
      have HC := hid (Hc8.out w7 M_7.out X_7.out)
      go_wp2_with fail
      refine HC.out.mono ?_
      rintro e w8 ⟨rfl, hb⟩
      have hd : Below w7.heap.size w7 w8 := hb
      have M_8 := hid (M_7.out.stays hd)
      have X_8 := hid (X_7.out.stays hd)
      have B_8 := hid (B_7.out.trans (hd.mono B_7.out.size))
      clear hb hd  M_7 X_7 B_7
      clear HC
      have HC := hid (works_any w8)
      go_wp2_with fail
      refine HC.out.mono ?_
      rintro e w9 ⟨rfl, hb⟩
      have hd : Below w8.heap.size w8 w9 := hb
      have M_9 := hid (M_8.out.stays hd)
      have X_9 := hid (X_8.out.stays hd)
      have B_9 := hid (B_8.out.trans (hd.mono B_8.out.size))
      clear hb hd  M_8 X_8 B_8
      clear HC
      go_wp2
      go_ret
      exact ⟨rfl, B_9.out⟩
    · go_wp2_with (go_at_call 15; refine (works_any _).mono ?_; rintro e w' ⟨rfl, hb⟩)
      go_ret
      exact ⟨rfl, hb⟩

/-! The row's frame (the guide's template). -/
set_option linter.unusedVariables false in
set_option maxRecDepth 100000 in
theorem serialCodes_lifted (os : Os) (started : os.Started) (H : Type) (enc : TypeId × Value → H) :
    ReturnsInHanded {} Try.checked os 5 .any (Rows.serialCodesSpec.pre6 enc Try.prog Try.f5 Rows.serialCodesRow.domain false) (Rows.serialCodesSpec.post enc Try.prog Try.f5 false true false false) := by
  refine returnsInHanded_of_change (C := Try.checked) own started (by kernel_rfl) Try.func5
    (ChangeSpec.witness6 (enc := enc) (C := Try.checked) false ⟨#[], #[.slice none 0 0, .slice none 0 0, .int .i64 0], []⟩ 8 (by kernel_rfl) (by kernel_rfl) (by kernel_rfl) (by kernel_rfl)) ?_
  intro W base args ds gs before hval0 hW hcnd _
  have hval : ∀ (j : Nat) t v, Try.f5.params[j]? = some t → args[j]? = some v → Value.okWide Try.prog W .any base t v := hval0
  have hW' := hW
  obtain ⟨p, q, hA0, hV, rfl, hfz, hnd⟩ := hW
  have hA : DataW.TrodAll enc Try.prog W 0 (fun _ => true) true Try.f5.params.toList args.toList ds p := hA0
  rw [Try.params5] at hA hval
  obtain ⟨v0, vs0, d0, ds0, p0, q0, hargs, rfl, rfl, h0, r0⟩ := trodAll_cons hA
  obtain ⟨v1, vs1, d1, ds1, p1, q1, rfl, rfl, rfl, h1, r1⟩ := trodAll_cons r0
  obtain ⟨v2, vs2, d2, ds2, p2, q2, rfl, rfl, rfl, h2, r2⟩ := trodAll_cons r1
  obtain ⟨rfl, rfl, rfl⟩ := trodAll_nil r2
  obtain rfl : args = #[v0, v1, v2] := by cases args; simp_all
  obtain ⟨rfl, rfl⟩ := trodVars_none hV
  have k0 := h0
  have lt0 : ∀ x ∈ p0, x.block < W.heap.size := by obtain ⟨m, hm⟩ := k0; exact DataW.trod_lt m _ _ _ hm
  obtain ⟨a0, len0, cap0, rfl⟩ := okWide_slice Try.underlying26 (hval 0 26 v0 rfl rfl)
  obtain ⟨T0, rfl, hT0, hR0⟩ := open_rdM h0
  have k1 := h1
  have lt1 : ∀ x ∈ p1, x.block < W.heap.size := by obtain ⟨m, hm⟩ := k1; exact DataW.trod_lt m _ _ _ hm
  obtain ⟨a1, len1, cap1, rfl⟩ := okWide_slice Try.underlying41 (hval 1 41 v1 rfl rfl)
  obtain ⟨xs1, rfl, hc1, hm1, hR1, hw1⟩ := open_rdI h1
  have k2 := h2
  have lt2 : ∀ x ∈ p2, x.block < W.heap.size := by obtain ⟨m, hm⟩ := k2; exact DataW.trod_lt m _ _ _ hm
  obtain ⟨a2, rfl, rfl, rfl, w2⟩ := open_int Try.underlying3 (hval 2 3 v2 rfl rfl) h2
  clear hA0 hval0
  refine (serialCodes_walk W a0 cap0 T0 hT0 hR0 a1 cap1 xs1 hc1 hm1 hR1 a2 w2 ).mono fun e W' ⟨he, bel⟩ => ?_
  subst he
  exact ⟨_, rfl, _, _, _, [], _, [], hW', trodAll_mk1 (shut_bool Try.underlying4 _), (trodAll_cons_mk (Below.trod laidOut (by kernel_rfl) (of_decide_eq_true (by kernel_rfl)) k0 bel lt0) (trodAll_cons_mk (Below.trod laidOut (by kernel_rfl) (of_decide_eq_true (by kernel_rfl)) k1 bel lt1) (trodAll_cons_mk (Below.trod laidOut (by kernel_rfl) (of_decide_eq_true (by kernel_rfl)) k2 bel lt2) trodAll_mk0))), rfl, bel.frame _, fun h => by cases h⟩

theorem serialCodes_over : Rows.serialCodesRow.holds Try.pinned (OpenSpec.ofChange Rows.serialCodesSpec) :=
  OpenClaim.holds_of_wide 5 Try.f5 rfl rfl rfl rfl rfl rfl rfl ⟨rfl, rfl, rfl, rfl, rfl⟩ rfl rfl rfl rfl rfl (by kernel_rfl) Try.func5 (by kernel_rfl)
    (of_decide_eq_true (by kernel_rfl)) (by unfold Func.isWrapper; first | (rw [if_pos (by decide +kernel)]; kernel_rfl) | (rw [if_neg (by decide +kernel)]; exact ⟨rfl, rfl⟩))
    (fun os started H enc _ => serialCodes_lifted os started H enc)

theorem serialCodes_proved : Rows.SerialCodesSaid := serialCodes_over

end Go.Proofs.Ytafpfcjemlonpaa
