/- The law SerialFixes: for every table and digits, Fixes and Swaps answer as the document's own answers do. No condition. -/
import Derived.Test.YtafpfcjemlonpaaWorks
import Derived.Test.YtafpfcjemlonpaaRefSwp
import Derived.Test.YtafpfcjemlonpaaLarge
import Derived.Test.YtafpfcjemlonpaaOpen
import Derived.ShutString
import Derived.ChangeOld
import Derived.Below
namespace Go.Proofs.Ytafpfcjemlonpaa
open Go.ChangeShapes Go.WideShapes Go.ChangeAt Go.RowKit

def P.fixesV (T : List (List Int)) (l : List Int) : List (Int × Int) := if P.wrong T l ≠ 0 then [] else P.fixes T l
def P.swapsV (T : List (List Int)) (l : List Int) : List Int := if P.wrong T l ≠ 0 then [] else P.swaps T l (l.length - 1)

theorem P.fixesV_le (T : List (List Int)) (l : List Int) : (P.fixesV T l).length ≤ l.length := by
  unfold P.fixesV
  split
  · simp
  · simp [P.fixes]

theorem P.swapsV_le (T : List (List Int)) (l : List Int) : (P.swapsV T l).length ≤ l.length := by
  unfold P.swapsV
  split
  · simp
  · have := P.swaps_le T l (l.length - 1)
    omega

theorem fixes_v (a ad : Option Addr) (c cd : Nat) (T : List (List Int)) (l : List Int) (w : World) (hm : l.length ≤ maxLen) (hT : RdM w a T) (hx : RdI w ad l) :
    Calls Try.prog 39 #[.slice a T.length c, .slice ad l.length cd] w fun e w' => ∃ r cr, e = .returned (.tuple #[.slice r (P.fixesV T l).length cr, .int .i64 (P.wrong T l)]) ∧ RdP w' r (P.fixesV T l) ∧ Below w.heap.size w w' := by
  refine (fixes_any a ad c cd T l w hm hT hx).mono ?_
  rintro e w' ⟨r, cr, xs, rfl, hxs, hr, hb⟩
  have hxs : xs = P.fixesV T l := hxs
  subst hxs
  exact ⟨r, cr, rfl, hr, hb⟩

theorem refFixes_v (a ad : Option Addr) (c cd : Nat) (T : List (List Int)) (l : List Int) (w : World) (hm : l.length ≤ maxLen) (hT : RdM w a T) (hx : RdI w ad l) :
    Calls Try.prog 40 #[.slice a T.length c, .slice ad l.length cd] w fun e w' => ∃ r cr, e = .returned (.tuple #[.slice r (P.fixesV T l).length cr, .int .i64 (P.wrong T l)]) ∧ RdP w' r (P.fixesV T l) ∧ Below w.heap.size w w' := by
  refine (refFixes_any a ad c cd T l w hm hT hx).mono ?_
  rintro e w' ⟨r, cr, xs, rfl, hxs, hr, hb⟩
  have hxs : xs = P.fixesV T l := hxs
  subst hxs
  exact ⟨r, cr, rfl, hr, hb⟩

theorem swaps_v (a ad : Option Addr) (c cd : Nat) (T : List (List Int)) (l : List Int) (w : World) (hm : l.length ≤ maxLen) (hT : RdM w a T) (hx : RdI w ad l) :
    Calls Try.prog 41 #[.slice a T.length c, .slice ad l.length cd] w fun e w' => ∃ r cr, e = .returned (.tuple #[.slice r (P.swapsV T l).length cr, .int .i64 (P.wrong T l)]) ∧ RdI w' r (P.swapsV T l) ∧ Below w.heap.size w w' := by
  refine (swaps_any a ad c cd T l w hm hT hx).mono ?_
  rintro e w' ⟨r, cr, xs, rfl, hxs, hr, hb⟩
  have hxs : xs = P.swapsV T l := hxs
  subst hxs
  exact ⟨r, cr, rfl, hr, hb⟩

theorem refSwaps_v (a ad : Option Addr) (c cd : Nat) (T : List (List Int)) (l : List Int) (w : World) (hm : l.length ≤ maxLen) (hT : RdM w a T) (hx : RdI w ad l) :
    Calls Try.prog 42 #[.slice a T.length c, .slice ad l.length cd] w fun e w' => ∃ r cr, e = .returned (.tuple #[.slice r (P.swapsV T l).length cr, .int .i64 (P.wrong T l)]) ∧ RdI w' r (P.swapsV T l) ∧ Below w.heap.size w w' := by
  refine (refSwaps_any a ad c cd T l w hm hT hx).mono ?_
  rintro e w' ⟨r, cr, xs, rfl, hxs, hr, hb⟩
  have hxs : xs = P.swapsV T l := hxs
  subst hxs
  exact ⟨r, cr, rfl, hr, hb⟩

theorem fixes_eqb (a b : Option Addr) (ca cb : Nat) (xs : List (Int × Int)) (w : World) (hm : xs.length ≤ maxLen) (ha : RdP w a xs) (hb : RdP w b xs) :
    Calls Try.prog 43 #[.slice a xs.length ca, .slice b xs.length cb] w fun e w' => e = .returned (.bool true) ∧ Below w.heap.size w w' :=
  (fixes_eq a b ca cb xs w hm ha hb).mono fun _ _ ⟨h1, h2⟩ => ⟨h1, Quiet.below h2⟩

theorem numbers_eqb (a b : Option Addr) (ca cb : Nat) (xs : List Int) (w : World) (hm : xs.length ≤ maxLen) (ha : RdI w a xs) (hb : RdI w b xs) :
    Calls Try.prog 44 #[.slice a xs.length ca, .slice b xs.length cb] w fun e w' => e = .returned (.bool true) ∧ Below w.heap.size w w' :=
  (numbers_eq a b ca cb xs w hm ha hb).mono fun _ _ ⟨h1, h2⟩ => ⟨h1, Quiet.below h2⟩

set_option maxHeartbeats 8000000 in
set_option maxRecDepth 100000 in
/-- The law's walk. -/
theorem serialFixes_walk (w : World) (a : Option Addr) (c : Nat) (T : List (List Int)) (_hTl : T.length ≤ maxLen) (hT : RdM w a T) (ad : Option Addr) (cd : Nat) (xs : List Int) (hxc : xs.length ≤ cd) (hcd : cd ≤ maxLen) (hX : RdI w ad xs) :
    Calls Try.prog 6 #[.slice a T.length c, .slice ad xs.length cd] w fun e w' => e = .returned (.bool true) ∧ Below w.heap.size w w' := by
  have hm : xs.length ≤ maxLen := Nat.le_trans hxc hcd
  have hV := Nat.le_trans (P.fixesV_le T xs) hm
  have hS := Nat.le_trans (P.swapsV_le T xs) hm
  clear _hTl
  have c1 := fun w' (h1 : RdM w' a T) (h2 : RdI w' ad xs) => fixes_v a ad c cd T xs w' hm h1 h2
  have c2 := fun w' (h1 : RdM w' a T) (h2 : RdI w' ad xs) => refFixes_v a ad c cd T xs w' hm h1 h2
  have c3 := fun w' (h1 : RdM w' a T) (h2 : RdI w' ad xs) => swaps_v a ad c cd T xs w' hm h1 h2
  have c4 := fun w' (h1 : RdM w' a T) (h2 : RdI w' ad xs) => refSwaps_v a ad c cd T xs w' hm h1 h2
  generalize P.fixesV T xs = V at *
  generalize P.swapsV T xs = S at *
  generalize P.wrong T xs = q1 at *
  have Hc1 := hid c1
  have Hc2 := hid c2
  have Hc3 := hid c3
  have Hc4 := hid c4
  have t_q1 : (q1 == q1) = true := by simp
  have HL := hid (large_any a c T w hT)
  have M_0 := hid hT
  have X_0 := hid hX
  clear hT hX c1 c2 c3 c4
  have B_0 : Hid (Below w.heap.size w w) := hid (Below.refl _ _)
  by_cases h40 : 40 < xs.length
  · go_enter Try.func6, Try.ntmps6
    go_wp2_with fail
    refine HL.out.mono ?_
    rintro e w' ⟨b, rfl, rfl⟩
    cases b
    · go_wp2_with (go_at_call 15; refine (works_any _).mono ?_; rintro e w' ⟨rfl, hb⟩)
      go_ret
      exact ⟨rfl, hb⟩
    · go_wp2_with (go_at_call 15; refine (works_any _).mono ?_; rintro e w' ⟨rfl, hb⟩)
      go_ret
      exact ⟨rfl, hb⟩
  · go_enter Try.func6, Try.ntmps6
    go_wp2_with fail
    refine HL.out.mono ?_
    rintro e w' ⟨b, rfl, rfl⟩
    cases b
    · have HC := hid (Hc1.out w M_0.out X_0.out)
      go_wp2_with fail
      refine HC.out.mono ?_
      rintro e w1 ⟨r1, k1, rfl, hr, hb⟩
      have hd : Below w.heap.size w w1 := hb
      have M_1 := hid (M_0.out.stays hd)
      have X_1 := hid (X_0.out.stays hd)
      have B_1 := hid (B_0.out.trans (hd.mono B_0.out.size))
      have V1_1 := hid hr
      clear hb hd hr M_0 X_0 B_0
      clear HC
      have HC := hid (Hc2.out w1 M_1.out X_1.out)
      go_wp2_with fail
      refine HC.out.mono ?_
      rintro e w2 ⟨r2, k2, rfl, hr, hb⟩
      have hd : Below w1.heap.size w1 w2 := hb
      have M_2 := hid (M_1.out.stays hd)
      have X_2 := hid (X_1.out.stays hd)
      have V1_2 := hid (V1_1.out.stays hd)
      have B_2 := hid (B_1.out.trans (hd.mono B_1.out.size))
      have V2_2 := hid hr
      clear hb hd hr M_1 X_1 V1_1 B_1
      clear HC
      have HC := hid (Hc3.out w2 M_2.out X_2.out)
      go_wp2_with fail
      refine HC.out.mono ?_
      rintro e w3 ⟨r3, k3, rfl, hr, hb⟩
      have hd : Below w2.heap.size w2 w3 := hb
      have M_3 := hid (M_2.out.stays hd)
      have X_3 := hid (X_2.out.stays hd)
      have V1_3 := hid (V1_2.out.stays hd)
      have V2_3 := hid (V2_2.out.stays hd)
      have B_3 := hid (B_2.out.trans (hd.mono B_2.out.size))
      have S1_3 := hid hr
      clear hb hd hr M_2 X_2 V1_2 V2_2 B_2
      clear HC
      have HC := hid (Hc4.out w3 M_3.out X_3.out)
      go_wp2_with fail
      refine HC.out.mono ?_
      rintro e w4 ⟨r4, k4, rfl, hr, hb⟩
      have hd : Below w3.heap.size w3 w4 := hb
      have M_4 := hid (M_3.out.stays hd)
      have X_4 := hid (X_3.out.stays hd)
      have V1_4 := hid (V1_3.out.stays hd)
      have V2_4 := hid (V2_3.out.stays hd)
      have S1_4 := hid (S1_3.out.stays hd)
      have B_4 := hid (B_3.out.trans (hd.mono B_3.out.size))
      have S2_4 := hid hr
      clear hb hd hr M_3 X_3 V1_3 V2_3 S1_3 B_3
      clear HC
      have HC := hid (fixes_eqb r1 r2 k1 k2 V w4 hV V1_4.out V2_4.out)
      go_wp2_with fail
      refine HC.out.mono ?_
      rintro e w5 ⟨rfl, hb⟩
      have hd : Below w4.heap.size w4 w5 := hb
      have M_5 := hid (M_4.out.stays hd)
      have X_5 := hid (X_4.out.stays hd)
      have V1_5 := hid (V1_4.out.stays hd)
      have V2_5 := hid (V2_4.out.stays hd)
      have S1_5 := hid (S1_4.out.stays hd)
      have S2_5 := hid (S2_4.out.stays hd)
      have B_5 := hid (B_4.out.trans (hd.mono B_4.out.size))
      clear hb hd  M_4 X_4 V1_4 V2_4 S1_4 S2_4 B_4
      clear HC
      clear V1_5
      clear V2_5
      have HC := hid (numbers_eqb r3 r4 k3 k4 S w5 hS S1_5.out S2_5.out)
      go_wp2_with fail
      refine HC.out.mono ?_
      rintro e w6 ⟨rfl, hb⟩
      have hd : Below w5.heap.size w5 w6 := hb
      have M_6 := hid (M_5.out.stays hd)
      have X_6 := hid (X_5.out.stays hd)
      have S1_6 := hid (S1_5.out.stays hd)
      have S2_6 := hid (S2_5.out.stays hd)
      have B_6 := hid (B_5.out.trans (hd.mono B_5.out.size))
      clear hb hd  M_5 X_5 S1_5 S2_5 B_5
      clear HC
      clear S1_6
      clear S2_6
      have HC := hid (works_any w6)
      go_wp2_with fail
      refine HC.out.mono ?_
      rintro e w7 ⟨rfl, hb⟩
      have hd : Below w6.heap.size w6 w7 := hb
      have M_7 := hid (M_6.out.stays hd)
      have X_7 := hid (X_6.out.stays hd)
      have B_7 := hid (B_6.out.trans (hd.mono B_6.out.size))
      clear hb hd  M_6 X_6 B_6
      clear HC
      go_wp2
      go_ret
      exact ⟨rfl, B_7.out⟩
    · go_wp2_with (go_at_call 15; refine (works_any _).mono ?_; rintro e w' ⟨rfl, hb⟩)
      go_ret
      exact ⟨rfl, hb⟩

/-! The row's frame (the guide's template). -/
set_option linter.unusedVariables false in
set_option maxRecDepth 100000 in
theorem serialFixes_lifted (os : Os) (started : os.Started) (H : Type) (enc : TypeId × Value → H) :
    ReturnsInHanded {} Try.checked os 6 .any (Rows.serialFixesSpec.pre6 enc Try.prog Try.f6 Rows.serialFixesRow.domain false) (Rows.serialFixesSpec.post enc Try.prog Try.f6 false true false false) := by
  refine returnsInHanded_of_change (C := Try.checked) own started (by kernel_rfl) Try.func6
    (ChangeSpec.witness6 (enc := enc) (C := Try.checked) false ⟨#[], #[.slice none 0 0, .slice none 0 0], []⟩ 8 (by kernel_rfl) (by kernel_rfl) (by kernel_rfl) (by kernel_rfl)) ?_
  intro W base args ds gs before hval0 hW hcnd _
  have hval : ∀ (j : Nat) t v, Try.f6.params[j]? = some t → args[j]? = some v → Value.okWide Try.prog W .any base t v := hval0
  have hW' := hW
  obtain ⟨p, q, hA0, hV, rfl, hfz, hnd⟩ := hW
  have hA : DataW.TrodAll enc Try.prog W 0 (fun _ => true) true Try.f6.params.toList args.toList ds p := hA0
  rw [Try.params6] at hA hval
  obtain ⟨v0, vs0, d0, ds0, p0, q0, hargs, rfl, rfl, h0, r0⟩ := trodAll_cons hA
  obtain ⟨v1, vs1, d1, ds1, p1, q1, rfl, rfl, rfl, h1, r1⟩ := trodAll_cons r0
  obtain ⟨rfl, rfl, rfl⟩ := trodAll_nil r1
  obtain rfl : args = #[v0, v1] := by cases args; simp_all
  obtain ⟨rfl, rfl⟩ := trodVars_none hV
  have k0 := h0
  have lt0 : ∀ x ∈ p0, x.block < W.heap.size := by obtain ⟨m, hm⟩ := k0; exact DataW.trod_lt m _ _ _ hm
  obtain ⟨a0, len0, cap0, rfl⟩ := okWide_slice Try.underlying26 (hval 0 26 v0 rfl rfl)
  obtain ⟨T0, rfl, hT0, hR0⟩ := open_rdM h0
  have k1 := h1
  have lt1 : ∀ x ∈ p1, x.block < W.heap.size := by obtain ⟨m, hm⟩ := k1; exact DataW.trod_lt m _ _ _ hm
  obtain ⟨a1, len1, cap1, rfl⟩ := okWide_slice Try.underlying41 (hval 1 41 v1 rfl rfl)
  obtain ⟨xs1, rfl, hc1, hm1, hR1, hw1⟩ := open_rdI h1
  clear hA0 hval0
  refine (serialFixes_walk W a0 cap0 T0 hT0 hR0 a1 cap1 xs1 hc1 hm1 hR1 ).mono fun e W' ⟨he, bel⟩ => ?_
  subst he
  exact ⟨_, rfl, _, _, _, [], _, [], hW', trodAll_mk1 (shut_bool Try.underlying4 _), (trodAll_cons_mk (Below.trod laidOut (by kernel_rfl) (of_decide_eq_true (by kernel_rfl)) k0 bel lt0) (trodAll_cons_mk (Below.trod laidOut (by kernel_rfl) (of_decide_eq_true (by kernel_rfl)) k1 bel lt1) trodAll_mk0)), rfl, bel.frame _, fun h => by cases h⟩

theorem serialFixes_over : Rows.serialFixesRow.holds Try.pinned (OpenSpec.ofChange Rows.serialFixesSpec) :=
  OpenClaim.holds_of_wide 6 Try.f6 rfl rfl rfl rfl rfl rfl rfl ⟨rfl, rfl, rfl, rfl, rfl⟩ rfl rfl rfl rfl rfl (by kernel_rfl) Try.func6 (by kernel_rfl)
    (of_decide_eq_true (by kernel_rfl)) (by unfold Func.isWrapper; first | (rw [if_pos (by decide +kernel)]; kernel_rfl) | (rw [if_neg (by decide +kernel)]; exact ⟨rfl, rfl⟩))
    (fun os started H enc _ => serialFixes_lifted os started H enc)

theorem serialFixes_proved : Rows.SerialFixesSaid := serialFixes_over

end Go.Proofs.Ytafpfcjemlonpaa
