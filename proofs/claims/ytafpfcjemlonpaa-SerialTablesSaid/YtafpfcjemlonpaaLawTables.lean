/- The law SerialTables: for every table, base and step, Check, Line, Blind and Twins answer as the document's own answers do. No condition. -/
import Derived.Test.YtafpfcjemlonpaaWorks
import Derived.Test.YtafpfcjemlonpaaRefTwins
import Derived.Test.YtafpfcjemlonpaaRefLine
import Derived.Test.YtafpfcjemlonpaaLarge
import Derived.Test.YtafpfcjemlonpaaOpen
import Derived.ShutString
import Derived.ChangeOld
import Derived.Below
namespace Go.Proofs.Ytafpfcjemlonpaa
open Go.ChangeShapes Go.WideShapes Go.ChangeAt Go.RowKit

theorem blind_v (a : Option Addr) (c : Nat) (T : List (List Int)) (w : World) (hT : RdM w a T) :
    Calls Try.prog 23 #[.slice a T.length c] w fun e w' => ∃ r cr, e = .returned (.tuple #[.slice r (P.blind T).length cr, .int .i64 (P.check T)]) ∧ RdT w' r (P.blind T) ∧ Below w.heap.size w w' := by
  refine (blind_any a c T w hT).mono ?_
  rintro e w' ⟨r, cr, xs, rfl, hxs, hr, hb⟩
  subst hxs
  exact ⟨r, cr, rfl, hr, hb⟩

theorem twins_v (a : Option Addr) (c : Nat) (T : List (List Int)) (w : World) (hT : RdM w a T) :
    Calls Try.prog 25 #[.slice a T.length c] w fun e w' => ∃ r cr, e = .returned (.tuple #[.slice r (P.twins T).length cr, .int .i64 (P.check T)]) ∧ RdT w' r (P.twins T) ∧ Below w.heap.size w w' := by
  refine (twins_any a c T w hT).mono ?_
  rintro e w' ⟨r, cr, xs, rfl, hxs, hr, hb⟩
  subst hxs
  exact ⟨r, cr, rfl, hr, hb⟩

theorem line_v2 (base step : Int) (w : World) :
    Calls Try.prog 21 #[.int .i64 base, .int .i64 step] w
      fun e w' => ∃ r cr, e = .returned (.tuple #[.slice r (P.line base step).1.length cr, .int .i64 (P.line base step).2]) ∧ RdM w' r (P.line base step).1 ∧ Below w.heap.size w w' := by
  refine (line_any base step w).mono ?_
  rintro e w' ⟨r, cr, T, rfl, hxs, hr, hb⟩
  subst hxs
  exact ⟨r, cr, rfl, hr, hb⟩

theorem P.line_le (base step : Int) : (P.line base step).1.length ≤ maxLen ∧ ∀ k (h : k < (P.line base step).1.length), (P.line base step).1[k].length ≤ maxLen := by
  unfold P.line
  split
  · exact ⟨Nat.zero_le _, fun k h => absurd h (Nat.not_lt_zero _)⟩
  · rename_i h1
    split
    · exact ⟨Nat.zero_le _, fun k h => absurd h (Nat.not_lt_zero _)⟩
    · refine ⟨?_, fun k h => ?_⟩
      · simp only [P.lineT, List.length_map, List.length_range]
        unfold maxLen
        omega
      · simp only [P.lineT, List.getElem_map, P.lineRow, List.length_map, List.length_range]
        unfold maxLen
        omega

theorem P.spK_le (pr : Nat → Nat → Nat → Bool) (s a k : Nat) : (P.spK pr s a k).length ≤ k := by
  unfold P.spK
  rw [List.length_map]
  have := List.length_filter_le (fun b => decide (a < b) && pr s a b) (List.range k)
  simpa using this

theorem P.spA_le (pr : Nat → Nat → Nat → Bool) (n s : Nat) : ∀ j, (P.spA pr n s j).length ≤ j * n
  | 0 => by simp [P.spA]
  | j + 1 => by
    rw [P.spA_succ, List.length_append, Nat.succ_mul]
    have h1 := P.spA_le pr n s j
    have h2 := P.spK_le pr s j n
    omega

theorem P.spS_le (pr : Nat → Nat → Nat → Bool) (n : Nat) : ∀ i, (P.spS pr n i).length ≤ i * (n * n)
  | 0 => by simp [P.spS]
  | i + 1 => by
    rw [P.spS_succ, List.length_append, Nat.succ_mul]
    have h1 := P.spS_le pr n i
    have h2 := P.spA_le pr n i n
    omega

theorem spS_max (T : List (List Int)) (pr : Nat → Nat → Nat → Bool) : (if P.check T ≠ 0 then [] else P.spS pr T.length T.length).length ≤ maxLen := by
  split
  · exact Nat.zero_le _
  · rename_i h
    have h10 := (tab_of_check (T := T) (by simpa using h)).hi
    have h1 := P.spS_le pr T.length T.length
    have h2 : T.length * (T.length * T.length) ≤ 10 * (10 * 10) := Nat.mul_le_mul h10 (Nat.mul_le_mul h10 h10)
    unfold maxLen
    omega

theorem tables_eqb (a b : Option Addr) (ca cb : Nat) (T : List (List Int)) (w : World) (hm : T.length ≤ maxLen) (hr : ∀ k (h : k < T.length), T[k].length ≤ maxLen) (ha : RdM w a T) (hb : RdM w b T) :
    Calls Try.prog 27 #[.slice a T.length ca, .slice b T.length cb] w fun e w' => e = .returned (.bool true) ∧ Below w.heap.size w w' :=
  (tables_eq a b ca cb T w hm hr ha hb).mono fun _ _ ⟨h1, h2⟩ => ⟨h1, Quiet.below h2⟩

set_option maxHeartbeats 8000000 in
set_option maxRecDepth 100000 in
/-- The law's walk. -/
theorem serialTables_walk (w : World) (a : Option Addr) (c : Nat) (T : List (List Int)) (_hTl : T.length ≤ maxLen) (hT : RdM w a T) (base : Int) (_hs : (Lit.int .i64 base).wf = true) (step : Int) (_hn : (Lit.int .i64 step).wf = true) :
    Calls Try.prog 4 #[.slice a T.length c, .int .i64 base, .int .i64 step] w fun e w' => e = .returned (.bool true) ∧ Below w.heap.size w w' := by
  obtain ⟨hL1, hL2⟩ := P.line_le base step
  have hV : (P.blind T).length ≤ maxLen := spS_max T _
  have hU : (P.twins T).length ≤ maxLen := spS_max T _
  clear _hTl _hn _hs
  have c1 := fun w' => line_v2 base step w'
  have c2 := fun w' => refLine_any base step w'
  have c3 := fun w' (h1 : RdM w' a T) => blind_v a c T w' h1
  have c4 := fun w' (h1 : RdM w' a T) => refBlind_any a c T w' h1
  have c5 := fun w' (h1 : RdM w' a T) => twins_v a c T w' h1
  have c6 := fun w' (h1 : RdM w' a T) => refTwins_any a c T w' h1
  have c7 := fun w' (h1 : RdM w' a T) => check_any a c T w' h1
  have c8 := fun w' (h1 : RdM w' a T) => refCheck_any a c T w' h1
  generalize (P.line base step).1 = L at *
  generalize (P.line base step).2 = q1 at *
  generalize P.blind T = V at *
  generalize P.twins T = U at *
  generalize P.check T = q2 at *
  have Hc1 := hid c1
  have Hc2 := hid c2
  have Hc3 := hid c3
  have Hc4 := hid c4
  have Hc5 := hid c5
  have Hc6 := hid c6
  have Hc7 := hid c7
  have Hc8 := hid c8
  have t_q1 : (q1 == q1) = true := by simp
  have t_q2 : (q2 == q2) = true := by simp
  have HL := hid (large_any a c T w hT)
  have M_0 := hid hT
  clear hT  c1 c2 c3 c4 c5 c6 c7 c8
  have B_0 : Hid (Below w.heap.size w w) := hid (Below.refl _ _)
  go_enter Try.func4, Try.ntmps4
  go_wp2_with fail
  refine HL.out.mono ?_
  rintro e w' ⟨b, rfl, rfl⟩
  cases b
  · have HC := hid (Hc1.out w)
    go_wp2_with fail
    refine HC.out.mono ?_
    rintro e w1 ⟨r1, k1, rfl, hr, hb⟩
    have hd : Below w.heap.size w w1 := hb
    have M_1 := hid (M_0.out.stays hd)
    have B_1 := hid (B_0.out.trans (hd.mono B_0.out.size))
    have L1_1 := hid hr
    clear hb hd hr M_0 B_0
    clear HC
    have HC := hid (Hc2.out w1)
    go_wp2_with fail
    refine HC.out.mono ?_
    rintro e w2 ⟨r2, k2, rfl, hr, hb⟩
    have hd : Below w1.heap.size w1 w2 := hb
    have M_2 := hid (M_1.out.stays hd)
    have L1_2 := hid (L1_1.out.stays hd)
    have B_2 := hid (B_1.out.trans (hd.mono B_1.out.size))
    have L2_2 := hid hr
    clear hb hd hr M_1 L1_1 B_1
    clear HC
    have HC := hid (Hc3.out w2 M_2.out)
    go_wp2_with fail
    refine HC.out.mono ?_
    rintro e w3 ⟨r3, k3, rfl, hr, hb⟩
    have hd : Below w2.heap.size w2 w3 := hb
    have M_3 := hid (M_2.out.stays hd)
    have L1_3 := hid (L1_2.out.stays hd)
    have L2_3 := hid (L2_2.out.stays hd)
    have B_3 := hid (B_2.out.trans (hd.mono B_2.out.size))
    have V1_3 := hid hr
    clear hb hd hr M_2 L1_2 L2_2 B_2
    clear HC
    have HC := hid (Hc4.out w3 M_3.out)
    go_wp2_with fail
    refine HC.out.mono ?_
    rintro e w4 ⟨r4, k4, rfl, hr, hb⟩
    have hd : Below w3.heap.size w3 w4 := hb
    have M_4 := hid (M_3.out.stays hd)
    have L1_4 := hid (L1_3.out.stays hd)
    have L2_4 := hid (L2_3.out.stays hd)
    have V1_4 := hid (V1_3.out.stays hd)
    have B_4 := hid (B_3.out.trans (hd.mono B_3.out.size))
    have V2_4 := hid hr
    clear hb hd hr M_3 L1_3 L2_3 V1_3 B_3
    clear HC
    have HC := hid (Hc5.out w4 M_4.out)
    go_wp2_with fail
    refine HC.out.mono ?_
    rintro e w5 ⟨r5, k5, rfl, hr, hb⟩
    have hd : Below w4.heap.size w4 w5 := hb
    have M_5 := hid (M_4.out.stays hd)
    have L1_5 := hid (L1_4.out.stays hd)
    have L2_5 := hid (L2_4.out.stays hd)
    have V1_5 := hid (V1_4.out.stays hd)
    have V2_5 := hid (V2_4.out.stays hd)
    have B_5 := hid (B_4.out.trans (hd.mono B_4.out.size))
    have U1_5 := hid hr
    clear hb hd hr M_4 L1_4 L2_4 V1_4 V2_4 B_4
    clear HC
    have HC := hid (Hc6.out w5 M_5.out)
    go_wp2_with fail
    refine HC.out.mono ?_
    rintro e w6 ⟨r6, k6, rfl, hr, hb⟩
    have hd : Below w5.heap.size w5 w6 := hb
    have M_6 := hid (M_5.out.stays hd)
    have L1_6 := hid (L1_5.out.stays hd)
    have L2_6 := hid (L2_5.out.stays hd)
    have V1_6 := hid (V1_5.out.stays hd)
    have V2_6 := hid (V2_5.out.stays hd)
    have U1_6 := hid (U1_5.out.stays hd)
    have B_6 := hid (B_5.out.trans (hd.mono B_5.out.size))
    have U2_6 := hid hr
    clear hb hd hr M_5 L1_5 L2_5 V1_5 V2_5 U1_5 B_5
    clear HC
    have HC := hid (tables_eqb r1 r2 k1 k2 L w6 hL1 hL2 L1_6.out L2_6.out)
    go_wp2_with fail
    refine HC.out.mono ?_
    rintro e w7 ⟨rfl, hb⟩
    have hd : Below w6.heap.size w6 w7 := hb
    have M_7 := hid (M_6.out.stays hd)
    have L1_7 := hid (L1_6.out.stays hd)
    have L2_7 := hid (L2_6.out.stays hd)
    have V1_7 := hid (V1_6.out.stays hd)
    have V2_7 := hid (V2_6.out.stays hd)
    have U1_7 := hid (U1_6.out.stays hd)
    have U2_7 := hid (U2_6.out.stays hd)
    have B_7 := hid (B_6.out.trans (hd.mono B_6.out.size))
    clear hb hd  M_6 L1_6 L2_6 V1_6 V2_6 U1_6 U2_6 B_6
    clear HC
    clear L1_7
    clear L2_7
    have HC := hid (spots_eq r3 r4 k3 k4 V w7 hV V1_7.out V2_7.out)
    go_wp2_with fail
    refine HC.out.mono ?_
    rintro e w8 ⟨rfl, hb⟩
    have hd : Below w7.heap.size w7 w8 := hb
    have M_8 := hid (M_7.out.stays hd)
    have V1_8 := hid (V1_7.out.stays hd)
    have V2_8 := hid (V2_7.out.stays hd)
    have U1_8 := hid (U1_7.out.stays hd)
    have U2_8 := hid (U2_7.out.stays hd)
    have B_8 := hid (B_7.out.trans (hd.mono B_7.out.size))
    clear hb hd  M_7 V1_7 V2_7 U1_7 U2_7 B_7
    clear HC
    clear V1_8
    clear V2_8
    have HC := hid (spots_eq r5 r6 k5 k6 U w8 hU U1_8.out U2_8.out)
    go_wp2_with fail
    refine HC.out.mono ?_
    rintro e w9 ⟨rfl, hb⟩
    have hd : Below w8.heap.size w8 w9 := hb
    have M_9 := hid (M_8.out.stays hd)
    have U1_9 := hid (U1_8.out.stays hd)
    have U2_9 := hid (U2_8.out.stays hd)
    have B_9 := hid (B_8.out.trans (hd.mono B_8.out.size))
    clear hb hd  M_8 U1_8 U2_8 B_8
    clear HC
    clear U1_9
    clear U2_9
    have HC := hid (Hc7.out w9 M_9.out)
    go_wp2_with fail
    refine HC.out.mono ?_
    rintro e w10 ⟨rfl, hb⟩
    have hd : Below w9.heap.size w9 w10 := hb
    have M_10 := hid (M_9.out.stays hd)
    have B_10 := hid (B_9.out.trans (hd.mono B_9.out.size))
    clear hb hd  M_9 B_9
    clear HC
    have HC := hid (Hc8.out w10 M_10.out)
    go_wp2_with fail
    refine HC.out.mono ?_
    rintro e w11 ⟨rfl, hb⟩
    have hd : Below w10.heap.size w10 w11 := hb
    have M_11 := hid (M_10.out.stays hd)
    have B_11 := hid (B_10.out.trans (hd.mono B_10.out.size))
    clear hb hd  M_10 B_10
    clear HC
    have HC := hid (works_any w11)
    go_wp2_with fail
    refine HC.out.mono ?_
    rintro e w12 ⟨rfl, hb⟩
    have hd : Below w11.heap.size w11 w12 := hb
    have M_12 := hid (M_11.out.stays hd)
    have B_12 := hid (B_11.out.trans (hd.mono B_11.out.size))
    clear hb hd  M_11 B_11
    clear HC
    go_wp2
    go_ret
    exact ⟨rfl, B_12.out⟩
  · go_wp2_with (go_at_call 15; refine (works_any _).mono ?_; rintro e w' ⟨rfl, hb⟩)
    go_ret
    exact ⟨rfl, hb⟩

/-! The row's frame (the guide's template). -/
set_option linter.unusedVariables false in
set_option maxRecDepth 100000 in
theorem serialTables_lifted (os : Os) (started : os.Started) (H : Type) (enc : TypeId × Value → H) :
    ReturnsInHanded {} Try.checked os 4 .any (Rows.serialTablesSpec.pre6 enc Try.prog Try.f4 Rows.serialTablesRow.domain false) (Rows.serialTablesSpec.post enc Try.prog Try.f4 false true false false) := by
  refine returnsInHanded_of_change (C := Try.checked) own started (by kernel_rfl) Try.func4
    (ChangeSpec.witness6 (enc := enc) (C := Try.checked) false ⟨#[], #[.slice none 0 0, .int .i64 0, .int .i64 0], []⟩ 8 (by kernel_rfl) (by kernel_rfl) (by kernel_rfl) (by kernel_rfl)) ?_
  intro W base args ds gs before hval0 hW hcnd _
  have hval : ∀ (j : Nat) t v, Try.f4.params[j]? = some t → args[j]? = some v → Value.okWide Try.prog W .any base t v := hval0
  have hW' := hW
  obtain ⟨p, q, hA0, hV, rfl, hfz, hnd⟩ := hW
  have hA : DataW.TrodAll enc Try.prog W 0 (fun _ => true) true Try.f4.params.toList args.toList ds p := hA0
  rw [Try.params4] at hA hval
  obtain ⟨v0, vs0, d0, ds0, p0, q0, hargs, rfl, rfl, h0, r0⟩ := trodAll_cons hA
  obtain ⟨v1, vs1, d1, ds1, p1, q1, rfl, rfl, rfl, h1, r1⟩ := trodAll_cons r0
  obtain ⟨v2, vs2, d2, ds2, p2, q2, rfl, rfl, rfl, h2, r2⟩ := trodAll_cons r1
  obtain ⟨rfl, rfl, rfl⟩ := trodAll_nil r2
  obtain rfl : args = #[v0, v1, v2] := by cases args; simp_all
  obtain ⟨rfl, rfl⟩ := trodVars_none hV
  have k0 := h0
  have lt0 : ∀ x ∈ p0, x.block < W.heap.size := by obtain ⟨m, hm⟩ := k0; exact DataW.trod_lt m _ _ _ hm
  obtain ⟨a0, len0, cap0, rfl⟩ := okWide_slice Try.underlying26 (hval 0 26 v0 rfl rfl)
  obtain ⟨T0, rfl, hT0, hR0⟩ := open_rdM h0
  have k1 := h1
  have lt1 : ∀ x ∈ p1, x.block < W.heap.size := by obtain ⟨m, hm⟩ := k1; exact DataW.trod_lt m _ _ _ hm
  obtain ⟨a1, rfl, rfl, rfl, w1⟩ := open_int Try.underlying3 (hval 1 3 v1 rfl rfl) h1
  have k2 := h2
  have lt2 : ∀ x ∈ p2, x.block < W.heap.size := by obtain ⟨m, hm⟩ := k2; exact DataW.trod_lt m _ _ _ hm
  obtain ⟨a2, rfl, rfl, rfl, w2⟩ := open_int Try.underlying3 (hval 2 3 v2 rfl rfl) h2
  clear hA0 hval0
  refine (serialTables_walk W a0 cap0 T0 hT0 hR0 a1 w1 a2 w2 ).mono fun e W' ⟨he, bel⟩ => ?_
  subst he
  exact ⟨_, rfl, _, _, _, [], _, [], hW', trodAll_mk1 (shut_bool Try.underlying4 _), (trodAll_cons_mk (Below.trod laidOut (by kernel_rfl) (of_decide_eq_true (by kernel_rfl)) k0 bel lt0) (trodAll_cons_mk (Below.trod laidOut (by kernel_rfl) (of_decide_eq_true (by kernel_rfl)) k1 bel lt1) (trodAll_cons_mk (Below.trod laidOut (by kernel_rfl) (of_decide_eq_true (by kernel_rfl)) k2 bel lt2) trodAll_mk0))), rfl, bel.frame _, fun h => by cases h⟩

theorem serialTables_over : Rows.serialTablesRow.holds Try.pinned (OpenSpec.ofChange Rows.serialTablesSpec) :=
  OpenClaim.holds_of_wide 4 Try.f4 rfl rfl rfl rfl rfl rfl rfl ⟨rfl, rfl, rfl, rfl, rfl⟩ rfl rfl rfl rfl rfl (by kernel_rfl) Try.func4 (by kernel_rfl)
    (of_decide_eq_true (by kernel_rfl)) (by unfold Func.isWrapper; first | (rw [if_pos (by decide +kernel)]; kernel_rfl) | (rw [if_neg (by decide +kernel)]; exact ⟨rfl, rfl⟩))
    (fun os started H enc _ => serialTables_lifted os started H enc)

theorem serialTables_proved : Rows.SerialTablesSaid := serialTables_over

end Go.Proofs.Ytafpfcjemlonpaa
