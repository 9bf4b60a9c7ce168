/- The law InkNever holds: all colours that can be given, and lists that exclude others, are as the document's own answers say. No condition. -/
import Derived.Test.YtapndndbibgjoaaIOpen
import Derived.ShutString
import Derived.ChangeOld
import Derived.Below
import Derived.Deep.RegionHeld3
namespace Go.Proofs.Ytapndndbibgjoaa
open Go.ChangeShapes Go.WideShapes Go.ChangeAt Go.RowKit

set_option maxHeartbeats 8000000 in
set_option maxRecDepth 100000 in
theorem inkNever_walk (n : Int) (a : Option Addr) (c : Nat) (T : List (List Int)) (al : Option Addr) (cl : Nat) (l : List Int) (x : Int) (w : World) (hm : T.length ≤ maxLen) (hT : RdM w a T) (hlc : l.length ≤ cl) (hcm : cl ≤ maxLen) (hl : RdI w al l) :
    Calls Try.prog 5 #[K.pal n a T.length c, .slice al l.length cl, .int .i64 x] w fun e w' => e = .returned (.bool true) ∧ Below w.heap.size w w' := by
  have hml : l.length ≤ maxLen := Nat.le_trans hlc hcm
  have hb0 : Below w.heap.size w (w.alloc (.cells #[.int .i64 n, .slice a T.length c] 24)) := (Below.refl _ _).alloc (Nat.le_refl _) _
  have k0 : (w.alloc (.cells #[.int .i64 n, .slice a T.length c] 24)).cell? ⟨w.heap.size, 0, none⟩ = some (.int .i64 n) := by rw [World.cell?_alloc_at _ _ _ _ rfl]; rfl
  have k1 : (w.alloc (.cells #[.int .i64 n, .slice a T.length c] 24)).cell? ⟨w.heap.size, 1, none⟩ = some (.slice a T.length c) := by rw [World.cell?_alloc_at _ _ _ _ rfl]; rfl
  have HB0 := hid hb0
  have HK0 := hid k0
  have HK1 := hid k1
  have HSZ := hid (show w.heap.size < (w.alloc (.cells #[.int .i64 n, .slice a T.length c] 24)).heap.size by simp)
  have HT := hid (hT.stays hb0)
  have HL := hid (hl.stays hb0)
  have HLG := hid (fun W hx => large_any n a c T W hm hx)
  have HE1 := hid (fun W hx => ever_any n a c T W hm hx)
  have HE2 := hid (fun W hx => refEver_any n a c T W hm hx)
  have HX1 := hid (fun W hx hy => excludes_any n x a al c cl T l W hm hml hx hy)
  have HX2 := hid (fun W hx hy => refExcludes_any n x a al c cl T l W hm hml hx hy)
  unfold maxLen at hml
  clear hb0 hT hl hm hlc hcm
  unfold K.pal at HLG HE1 HE2 HX1 HX2 ⊢
  by_cases h40 : 40 < l.length
  · go_enter Try.func5, Try.ntmps5
    go_wp2_with fail
    generalize w.alloc (.cells #[.int .i64 n, .slice a T.length c] 24) = w1 at *
    refine (HLG.out _ HT.out).mono ?_
    rintro e w2 ⟨⟨v, rfl⟩, hb⟩
    have HB2 := hid (HB0.out.trans (hb.mono HB0.out.size))
    clear hb k0 k1
    cases v
    all_goals
      go_wp2_with fail
      refine (ink_works _).mono ?_
      rintro e w3 ⟨rfl, hb⟩
      have HB3 := hid (HB2.out.trans (hb.mono HB2.out.size))
      clear hb
      go_wp2
      go_ret
      exact ⟨rfl, HB3.out⟩
  go_enter Try.func5, Try.ntmps5
  go_wp2_with fail
  generalize w.alloc (.cells #[.int .i64 n, .slice a T.length c] 24) = w1 at *
  refine (HLG.out _ HT.out).mono ?_
  rintro e w2 ⟨⟨v, rfl⟩, hb⟩
  have HB2 := hid (HB0.out.trans (hb.mono HB0.out.size))
  have HSZ2 := hid (Nat.lt_of_lt_of_le HSZ.out hb.size)
  have q0 := cell_stays hb (Nat.le_refl _) HK0.out
  have q1 := cell_stays hb (Nat.le_refl _) HK1.out
  have HT2 := hid (HT.out.stays hb)
  have HL2 := hid (HL.out.stays hb)
  clear hb k0 k1
  cases v with
  | true =>
    go_wp2_with fail
    refine (ink_works _).mono ?_
    rintro e w3 ⟨rfl, hb⟩
    have HB3 := hid (HB2.out.trans (hb.mono HB2.out.size))
    clear hb q0 q1
    go_wp2
    go_ret
    exact ⟨rfl, HB3.out⟩
  | false =>
    have hsz2 := HSZ2.out
    have hbA : Below w2.heap.size w2 (w2.alloc (.cells #[.int .i64 n, .slice a T.length c] 29)) := (Below.refl _ _).alloc (Nat.le_refl _) _
    have HJ0 : Hid ((w2.alloc (.cells #[.int .i64 n, .slice a T.length c] 29)).cell? ⟨w2.heap.size, 0, none⟩ = some (.int .i64 n)) := hid (by rw [World.cell?_alloc_at _ _ _ _ rfl]; rfl)
    have HJ1 : Hid ((w2.alloc (.cells #[.int .i64 n, .slice a T.length c] 29)).cell? ⟨w2.heap.size, 1, none⟩ = some (.slice a T.length c)) := hid (by rw [World.cell?_alloc_at _ _ _ _ rfl]; rfl)
    have HQ0 := hid (cell_stays hbA (Nat.le_refl _) q0)
    have HQ1 := hid (cell_stays hbA (Nat.le_refl _) q1)
    have HT3 := hid (HT2.out.stays hbA)
    have HL3 := hid (HL2.out.stays hbA)
    have HB3 := hid (HB2.out.trans (hbA.mono HB2.out.size))
    clear hbA
    go_wp2_with fail
    clear q0 q1 hsz2 HSZ HSZ2 HK0 HK1 HB0 HB2 HT HT2 HL HL2 HLG
    generalize w2.alloc (.cells #[.int .i64 n, .slice a T.length c] 29) = w3 at *
    generalize w2.heap.size = g at *
    generalize w1.heap.size = g1 at *
    clear w2
    refine (HE1.out w3 HT3.out).mono ?_
    rintro e w4 ⟨r1, c1, xs1, rfl, hz1, hg1, hlc1, hr1, hb⟩
    have HB4 := hid (HB3.out.trans (hb.mono HB3.out.size))
    have p0 := cell_stays hb (Nat.le_refl _) HQ0.out
    have p1 := cell_stays hb (Nat.le_refl _) HQ1.out
    have u0 := cell_stays hb (Nat.le_refl _) HJ0.out
    have u1 := cell_stays hb (Nat.le_refl _) HJ1.out
    have HT4 := hid (HT3.out.stays hb)
    have HL4 := hid (HL3.out.stays hb)
    have HR1 := hid hr1
    have HZ1 := hid hz1
    have HG1 := hid hg1
    clear hb hr1 hz1 hg1 HQ0 HQ1 HJ0 HJ1
    go_wp2_with fail
    refine (HE2.out w4 HT4.out).mono ?_
    rintro e w5 ⟨r2, c2, xs2, rfl, hz2, hg2, hlc2, hr2, hb⟩
    have hxs : xs1 = xs2 := by
      by_cases h : K.check n T = 0
      · obtain ⟨y1, e1, rfl⟩ := HG1.out h
        obtain ⟨y2, e2, rfl⟩ := hg2 h
        rw [e1.unique e2]
      · rw [HZ1.out h, hz2 h]
    have hxm : xs1.length ≤ maxLen := by
      by_cases h : K.check n T = 0
      · obtain ⟨y1, e1, rfl⟩ := HG1.out h
        exact Nat.le_trans (Nat.le_trans (by unfold K.list; rw [List.length_map]; exact List.length_filter_le _ _) (Nat.le_of_eq (List.length_range))) (by decide)
      · rw [HZ1.out h]; exact Nat.zero_le _
    subst hxs
    have HB5 := hid (HB4.out.trans (hb.mono HB4.out.size))
    have HT5 := hid (HT4.out.stays hb)
    have HL5 := hid (HL4.out.stays hb)
    have HNQ := hid (fun W (h : Below w5.heap.size w5 W) => (numbers_eq r1 r2 c1 c2 xs1 W hxm ((HR1.out.stays hb).stays h) (hr2.stays h)).mono (R' := fun e w' => e = .returned (.bool true) ∧ Hid (Below w5.heap.size w5 w')) (fun e w' hq => ⟨hq.1, by obtain ⟨_, q, rfl⟩ := hq; exact hid (below_drewN h _)⟩))
    have HCL := hid (fun W (h : Below w5.heap.size w5 W) => show W.cell? ⟨w.heap.size, 0, none⟩ = some (.int .i64 n) ∧ W.cell? ⟨w.heap.size, 1, none⟩ = some (.slice a T.length c) ∧ W.cell? ⟨g, 0, none⟩ = some (.int .i64 n) ∧ W.cell? ⟨g, 1, none⟩ = some (.slice a T.length c) from
      ⟨cell_stays h (Nat.le_refl _) (cell_stays hb (Nat.le_refl _) p0), cell_stays h (Nat.le_refl _) (cell_stays hb (Nat.le_refl _) p1), cell_stays h (Nat.le_refl _) (cell_stays hb (Nat.le_refl _) u0), cell_stays h (Nat.le_refl _) (cell_stays hb (Nat.le_refl _) u1)⟩)
    have H1 := hid (fun W (h : Hid (Below w5.heap.size w5 W)) => (HX1.out W (HT5.out.stays h.out) (HL5.out.stays h.out)).mono (R' := fun e w' => e = .returned (.int .i64 (K.excl n T l x)) ∧ Hid (Below w5.heap.size w5 w')) (fun e w' hq => ⟨hq.1, hid (h.out.trans (hq.2.mono h.out.size))⟩))
    have H2 := hid (fun W (h : Hid (Below w5.heap.size w5 W)) => (HX2.out W (HT5.out.stays h.out) (HL5.out.stays h.out)).mono (R' := fun e w' => e = .returned (.int .i64 (K.excl n T l x)) ∧ Hid (Below w5.heap.size w5 w')) (fun e w' hq => ⟨hq.1, hid (h.out.trans (hq.2.mono h.out.size))⟩))
    have H3 := hid (fun W (h : Hid (Below w5.heap.size w5 W)) => (ink_works W).mono (R' := fun e w' => e = .returned (.bool true) ∧ Hid (Below w5.heap.size w5 w')) (fun e w' hq => ⟨hq.1, hid (h.out.trans (hq.2.mono h.out.size))⟩))
    clear hb hr2 hz2 hg2 HZ1 HG1 p0 p1 u0 u1 hlc1 hlc2 HB4 HT4 HL4 HR1 HX1 HX2 HE1 HE2 HT3 HL3 HB3
    generalize K.check n T = ce at *
    generalize K.excl n T l x = ex at *
    have hd : Hid (Below w5.heap.size w5 w5.drew) := hid (Below.refl _ _).drew
    obtain ⟨p0, p1, u0, u1⟩ := HCL.out _ hd.out
    go_wp2
    trace_state
    go_region_held3 (fun W => W.cell? ⟨w.heap.size, 0, none⟩ = some (.int .i64 n) ∧ W.cell? ⟨w.heap.size, 1, none⟩ = some (.slice a T.length c) ∧ W.cell? ⟨g, 0, none⟩ = some (.int .i64 n) ∧ W.cell? ⟨g, 1, none⟩ = some (.slice a T.length c)) (first | exact HCL.out _ (Hid.out (by assumption)) | go_keep) (first | (go_at_call 23; (with_reducible refine (HNQ.out _ (Hid.out (by assumption))).mono ?_); rintro e w6 ⟨rfl, hb6⟩) | (go_at_call 31; (with_reducible refine (H1.out _ (by assumption)).mono ?_); rintro e w7 ⟨rfl, hb7⟩) | (go_at_call 32; (with_reducible refine (H2.out _ (by assumption)).mono ?_); rintro e w8 ⟨rfl, hb8⟩) | (go_at_call 16; (with_reducible refine (H3.out _ (by assumption)).mono ?_); rintro e w9 ⟨rfl, hb9⟩))
    all_goals
      go_wp2
      go_ret
      exact ⟨rfl, HB5.out.trans (Below.mono (Hid.out (by assumption)) HB5.out.size)⟩
/-! The row's frame (the guide's template). -/
set_option linter.unusedVariables false in
set_option maxRecDepth 100000 in
theorem inkNever_lifted (os : Os) (started : os.Started) (H : Type) (enc : TypeId × Value → H) :
    ReturnsInHanded {} Try.checked os 5 .any (Rows.inkNeverSpec.pre6 enc Try.prog Try.f5 Rows.inkNeverRow.domain false) (Rows.inkNeverSpec.post enc Try.prog Try.f5 false true false false) := by
  refine returnsInHanded_of_change (C := Try.checked) own started (by kernel_rfl) Try.func5
    (ChangeSpec.witness6 (enc := enc) (C := Try.checked) false ⟨#[], #[.agg #[.int .i64 0, .slice none 0 0], .slice none 0 0, .int .i64 0], []⟩ 8 (by kernel_rfl) (by kernel_rfl) (by kernel_rfl) (by kernel_rfl)) ?_
  intro W base args ds gs before hval0 hW hcnd _
  have hval : ∀ (j : Nat) t v, Try.f5.params[j]? = some t → args[j]? = some v → Value.okWide Try.prog W .any base t v := hval0
  have hW' := hW
  obtain ⟨p, q, hA0, hV, rfl, hfz, hnd⟩ := hW
  have hA : DataW.TrodAll enc Try.prog W 0 (fun _ => true) true Try.f5.params.toList args.toList ds p := hA0
  rw [Try.params5] at hA hval
  obtain ⟨v0, vs0, d0, ds0, p0, q0, hargs, rfl, rfl, h0, r0⟩ := trodAll_cons hA
  obtain ⟨v1, vs1, d1, ds1, p1, q1, rfl, rfl, rfl, h1, r1⟩ := trodAll_cons r0
  obtain ⟨v2, vs2, d2, ds2, p2, q2, rfl, rfl, rfl, h2, r2⟩ := trodAll_cons r1
  obtain ⟨rfl, rfl, rfl⟩ := trodAll_nil r2
  obtain rfl : args = #[v0, v1, v2] := by cases args; simp_all
  obtain ⟨rfl, rfl⟩ := trodVars_none hV
  have k0 := h0
  have lt0 : ∀ x ∈ p0, x.block < W.heap.size := by obtain ⟨m, hm⟩ := k0; exact DataW.trod_lt m _ _ _ hm
  obtain ⟨n0, a0, cap0, T0, hv0, hm0, hR0⟩ := open_pal (hval 0 24 v0 rfl rfl) h0
  subst hv0
  have k1 := h1
  have lt1 : ∀ x ∈ p1, x.block < W.heap.size := by obtain ⟨m, hm⟩ := k1; exact DataW.trod_lt m _ _ _ hm
  obtain ⟨a1, len1, cap1, rfl⟩ := okWide_slice Try.underlying25 (hval 1 25 v1 rfl rfl)
  obtain ⟨xs1, rfl, hc1, hm1, hR1, hw1⟩ := open_rdI h1
  have k2 := h2
  have lt2 : ∀ x ∈ p2, x.block < W.heap.size := by obtain ⟨m, hm⟩ := k2; exact DataW.trod_lt m _ _ _ hm
  obtain ⟨a2, rfl, rfl, rfl, w2⟩ := open_int Try.underlying3 (hval 2 3 v2 rfl rfl) h2
  clear hA0 hval0
  refine (inkNever_walk n0 a0 cap0 T0 a1 cap1 xs1 a2 W hm0 hR0 hc1 hm1 hR1).mono fun e W' ⟨he, bel⟩ => ?_
  subst he
  exact ⟨_, rfl, _, _, _, [], _, [], hW', trodAll_mk1 (shut_bool Try.underlying4 _), (trodAll_cons_mk (Below.trod laidOut (by kernel_rfl) (of_decide_eq_true (by kernel_rfl)) k0 bel lt0) (trodAll_cons_mk (Below.trod laidOut (by kernel_rfl) (of_decide_eq_true (by kernel_rfl)) k1 bel lt1) (trodAll_cons_mk (Below.trod laidOut (by kernel_rfl) (of_decide_eq_true (by kernel_rfl)) k2 bel lt2) trodAll_mk0))), rfl, bel.frame _, fun h => by cases h⟩

theorem inkNever_over : Rows.inkNeverRow.holds Try.pinned (OpenSpec.ofChange Rows.inkNeverSpec) :=
  OpenClaim.holds_of_wide 5 Try.f5 rfl rfl rfl rfl rfl rfl rfl ⟨rfl, rfl, rfl, rfl, rfl⟩ rfl rfl rfl rfl rfl (by kernel_rfl) Try.func5 (by kernel_rfl)
    (of_decide_eq_true (by kernel_rfl)) (by unfold Func.isWrapper; first | (rw [if_pos (by decide +kernel)]; kernel_rfl) | (rw [if_neg (by decide +kernel)]; exact ⟨rfl, rfl⟩))
    (fun os started H enc _ => inkNever_lifted os started H enc)

theorem inkNever_proved : Rows.InkNeverSaid := inkNever_over

end Go.Proofs.Ytapndndbibgjoaa
