/- The law InkGives holds: palettes are checked, and sequences give colours, as the document's own answers say. No condition. -/
import Derived.Test.YtapndndbibgjoaaIOpen
import Derived.Test.YtapndndbibgjoaaIGives
import Derived.Test.YtapndndbibgjoaaIRSpare
import Derived.Test.YtapndndbibgjoaaIRColour
import Derived.Deep.Grids
import Derived.ShutString
import Derived.ChangeOld
import Derived.Below
import Derived.Deep.RegionHeld3
namespace Go.Proofs.Ytapndndbibgjoaa
open Go.ChangeShapes Go.WideShapes Go.ChangeAt Go.RowKit

set_option maxHeartbeats 16000000 in
set_option maxRecDepth 100000 in
theorem inkGives_walk (n : Int) (a : Option Addr) (c : Nat) (T : List (List Int)) (al : Option Addr) (cl : Nat) (l : List Int) (ac : Option Addr) (cc : Nat) (ch : List Bool) (w : World) (hm : T.length ≤ maxLen) (hT : RdM w a T) (hlc : l.length ≤ cl) (hcm : cl ≤ maxLen) (hl : RdI w al l) (hlb : ch.length ≤ maxLen) (hch : RdB w ac ch) :
    Calls Try.prog 3 #[K.pal n a T.length c, .slice al l.length cl, .slice ac ch.length cc] w fun e w' => e = .returned (.bool true) ∧ Below w.heap.size w w' := by
  have hml : l.length ≤ maxLen := Nat.le_trans hlc hcm
  have hb0 : Below w.heap.size w (w.alloc (.cells #[.int .i64 n, .slice a T.length c] 24)) := (Below.refl _ _).alloc (Nat.le_refl _) _
  have k0 : (w.alloc (.cells #[.int .i64 n, .slice a T.length c] 24)).cell? ⟨w.heap.size, 0, none⟩ = some (.int .i64 n) := by rw [World.cell?_alloc_at _ _ _ _ rfl]; rfl
  have k1 : (w.alloc (.cells #[.int .i64 n, .slice a T.length c] 24)).cell? ⟨w.heap.size, 1, none⟩ = some (.slice a T.length c) := by rw [World.cell?_alloc_at _ _ _ _ rfl]; rfl
  have HB0 := hid hb0
  have HK0 := hid k0
  have HK1 := hid k1
  have HSZ := hid (show w.heap.size < (w.alloc (.cells #[.int .i64 n, .slice a T.length c] 24)).heap.size by simp)
  have HT := hid (hT.stays hb0)
  have HL := hid (hl.stays hb0)
  have HCH := hid (hch.stays hb0)
  have HLG := hid (fun W hx => large_any n a c T W hm hx)
  have HG1 := hid (fun W hx hy => inkGivesP_any n a al c cl T l W hm hml hx hy)
  have HG2 := hid (fun W hx hy => refGives_any n a al c cl T l W hm hml hx hy)
  have HC1 := hid (fun W hx hy hz => inkColour_any n a al ac c cl cc T l ch W hm hml hlb hx hy hz)
  have HC2 := hid (fun W hx hy hz => refColour_any n a al ac c cl cc T l ch W hm hml hlb hx hy hz)
  have HS1 := hid (fun W hx hy => inkSpare_any n a al c cl T l W hm hml hx hy)
  have HS2 := hid (fun W hx hy => refSpare_any n a al c cl T l W hm hml hlc hx hy)
  have HK1C := hid (fun W hx => inkCheck_any n a c T W hm hx)
  have HK2C := hid (fun W hx => refCheck_any n a c T W hm hx)
  unfold maxLen at hml hlb
  clear hb0 hT hl hm hlc hcm hch
  unfold K.pal at HLG HG1 HG2 HC1 HC2 HS1 HS2 HK1C HK2C ⊢
  by_cases h40 : 40 < l.length
  · go_enter Try.func3, Try.ntmps3
    go_wp2_with fail
    generalize w.alloc (.cells #[.int .i64 n, .slice a T.length c] 24) = w1 at *
    refine (HLG.out _ HT.out).mono ?_
    rintro e w2 ⟨⟨v, rfl⟩, hb⟩
    have HB2 := hid (HB0.out.trans (hb.mono HB0.out.size))
    clear hb k0 k1
    cases v
    all_goals
      go_wp2_with fail
      refine (ink_works _).mono ?_
      rintro e w3 ⟨rfl, hb⟩
      have HB3 := hid (HB2.out.trans (hb.mono HB2.out.size))
      clear hb
      go_wp2
      go_ret
      exact ⟨rfl, HB3.out⟩
  by_cases h41 : 40 < ch.length
  · go_enter Try.func3, Try.ntmps3
    go_wp2_with fail
    generalize w.alloc (.cells #[.int .i64 n, .slice a T.length c] 24) = w1 at *
    refine (HLG.out _ HT.out).mono ?_
    rintro e w2 ⟨⟨v, rfl⟩, hb⟩
    have HB2 := hid (HB0.out.trans (hb.mono HB0.out.size))
    clear hb k0 k1
    cases v
    all_goals
      go_wp2_with fail
      refine (ink_works _).mono ?_
      rintro e w3 ⟨rfl, hb⟩
      have HB3 := hid (HB2.out.trans (hb.mono HB2.out.size))
      clear hb
      go_wp2
      go_ret
      exact ⟨rfl, HB3.out⟩
  go_enter Try.func3, Try.ntmps3
  go_wp2_with fail
  generalize w.alloc (.cells #[.int .i64 n, .slice a T.length c] 24) = w1 at *
  refine (HLG.out _ HT.out).mono ?_
  rintro e w2 ⟨⟨v, rfl⟩, hb⟩
  have HB2 := hid (HB0.out.trans (hb.mono HB0.out.size))
  have HSZ2 := hid (Nat.lt_of_lt_of_le HSZ.out hb.size)
  have q0 := cell_stays hb (Nat.le_refl _) HK0.out
  have q1 := cell_stays hb (Nat.le_refl _) HK1.out
  have HT2 := hid (HT.out.stays hb)
  have HL2 := hid (HL.out.stays hb)
  have HH2 := hid (HCH.out.stays hb)
  clear hb k0 k1
  cases v with
  | true =>
    go_wp2_with fail
    refine (ink_works _).mono ?_
    rintro e w3 ⟨rfl, hb⟩
    have HB3 := hid (HB2.out.trans (hb.mono HB2.out.size))
    clear hb q0 q1
    go_wp2
    go_ret
    exact ⟨rfl, HB3.out⟩
  | false =>
    have hsz2 := HSZ2.out
    have hbA : Below w2.heap.size w2 (w2.alloc (.cells #[.int .i64 n, .slice a T.length c] 29)) := (Below.refl _ _).alloc (Nat.le_refl _) _
    have HJ0 : Hid ((w2.alloc (.cells #[.int .i64 n, .slice a T.length c] 29)).cell? ⟨w2.heap.size, 0, none⟩ = some (.int .i64 n)) := hid (by rw [World.cell?_alloc_at _ _ _ _ rfl]; rfl)
    have HJ1 : Hid ((w2.alloc (.cells #[.int .i64 n, .slice a T.length c] 29)).cell? ⟨w2.heap.size, 1, none⟩ = some (.slice a T.length c)) := hid (by rw [World.cell?_alloc_at _ _ _ _ rfl]; rfl)
    have HQ0 := hid (cell_stays hbA (Nat.le_refl _) q0)
    have HQ1 := hid (cell_stays hbA (Nat.le_refl _) q1)
    have HT3 := hid (HT2.out.stays hbA)
    have HL3 := hid (HL2.out.stays hbA)
    have HH3 := hid (HH2.out.stays hbA)
    have HB3 := hid (HB2.out.trans (hbA.mono HB2.out.size))
    clear hbA
    go_wp2_with fail
    clear q0 q1 hsz2 HSZ HSZ2 HK0 HK1 HB0 HB2 HT HT2 HL HL2 HCH HH2 HLG
    generalize w2.alloc (.cells #[.int .i64 n, .slice a T.length c] 29) = w3 at *
    generalize w2.heap.size = g at *
    generalize w1.heap.size = g1 at *
    clear w2
    have HCELL := hid (fun W (h : Below w3.heap.size w3 W) => show W.cell? ⟨w.heap.size, 0, none⟩ = some (.int .i64 n) ∧ W.cell? ⟨w.heap.size, 1, none⟩ = some (.slice a T.length c) ∧ W.cell? ⟨g, 0, none⟩ = some (.int .i64 n) ∧ W.cell? ⟨g, 1, none⟩ = some (.slice a T.length c) from
      ⟨cell_stays h (Nat.le_refl _) HQ0.out, cell_stays h (Nat.le_refl _) HQ1.out, cell_stays h (Nat.le_refl _) HJ0.out, cell_stays h (Nat.le_refl _) HJ1.out⟩)
    have HRT := hid (fun W (h : Below w3.heap.size w3 W) => HT3.out.stays h)
    have HRL := hid (fun W (h : Below w3.heap.size w3 W) => HL3.out.stays h)
    have HRC := hid (fun W (h : Below w3.heap.size w3 W) => HH3.out.stays h)
    refine (HG1.out w3 HT3.out HL3.out).mono ?_
    rintro e w4 ⟨r1, c1, rfl, hr1, hb⟩
    have HE4 := hid hb
    have HR1 := hid hr1
    obtain ⟨p0, p1, u0, u1⟩ := HCELL.out _ hb
    clear hb hr1 HQ0 HQ1 HJ0 HJ1 HT3 HL3 HH3 HG1
    go_wp2_with fail
    refine (HG2.out w4 (HRT.out _ HE4.out) (HRL.out _ HE4.out)).mono ?_
    rintro e w5 ⟨r2, c2, rfl, hr2, hb⟩
    have HE5 := hid (HE4.out.trans (hb.mono HE4.out.size))
    have HR15 := hid (HR1.out.stays hb)
    have HR25 := hid hr2
    clear hb hr2 HR1 HE4 HG2 p0 p1 u0 u1
    obtain ⟨p0, p1, u0, u1⟩ := HCELL.out _ HE5.out
    go_wp2_with fail
    refine (HC1.out w5 (HRT.out _ HE5.out) (HRL.out _ HE5.out) (HRC.out _ HE5.out)).mono ?_
    rintro e w6 ⟨rfl, hb⟩
    have HE6 := hid (HE5.out.trans (hb.mono HE5.out.size))
    have HR16 := hid (HR15.out.stays hb)
    have HR26 := hid (HR25.out.stays hb)
    clear hb HR15 HR25 HE5 HC1 p0 p1 u0 u1
    obtain ⟨p0, p1, u0, u1⟩ := HCELL.out _ HE6.out
    go_wp2_with fail
    refine (HC2.out w6 (HRT.out _ HE6.out) (HRL.out _ HE6.out) (HRC.out _ HE6.out)).mono ?_
    rintro e w7 ⟨rfl, hb⟩
    have HE7 := hid (HE6.out.trans (hb.mono HE6.out.size))
    have HR17 := hid (HR16.out.stays hb)
    have HR27 := hid (HR26.out.stays hb)
    clear hb HR16 HR26 HE6 HC2 p0 p1 u0 u1
    obtain ⟨p0, p1, u0, u1⟩ := HCELL.out _ HE7.out
    go_wp2_with fail
    refine (HS1.out w7 (HRT.out _ HE7.out) (HRL.out _ HE7.out)).mono ?_
    rintro e w8 ⟨r3, c3, xs3, rfl, hz3, hy3, hr3, hb⟩
    have HE8 := hid (HE7.out.trans (hb.mono HE7.out.size))
    have HR18 := hid (HR17.out.stays hb)
    have HR28 := hid (HR27.out.stays hb)
    have HR38 := hid hr3
    have HZ3 := hid hz3
    have HY3 := hid hy3
    clear hb hr3 hz3 hy3 HR17 HR27 HE7 HS1 p0 p1 u0 u1
    obtain ⟨p0, p1, u0, u1⟩ := HCELL.out _ HE8.out
    go_wp2_with fail
    refine (HS2.out w8 (HRT.out _ HE8.out) (HRL.out _ HE8.out)).mono ?_
    rintro e w9 ⟨r4, c4, xs4, rfl, hz4, hy4, hr4, hb⟩
    have hxs : xs3 = xs4 := by
      by_cases h : K.sq n T l 12 = 0
      · rw [HY3.out h, hy4 h]
      · rw [HZ3.out h, hz4 h]
    have hxm : xs3.length ≤ maxLen := by
      by_cases h : K.sq n T l 12 = 0
      · rw [HY3.out h]
        exact Nat.le_trans (K.spare_len _ _) hml
      · rw [HZ3.out h]; exact Nat.zero_le _
    have hgm : (K.gvl n T l).length ≤ maxLen := Nat.le_trans (K.gvl_len n T l) (by decide)
    subst hxs
    have HE9 := hid (HE8.out.trans (hb.mono HE8.out.size))
    have HB9 := hid (HB3.out.trans (HE9.out.mono HB3.out.size))
    have HNA := hid (fun W (h : Hid (Below w9.heap.size w9 W)) => (numbers_eq r1 r2 c1 c2 (K.gvl n T l) W hgm ((HR18.out.stays hb).stays h.out) ((HR28.out.stays hb).stays h.out)).mono (R' := fun e w' => e = .returned (.bool true) ∧ Hid (Below w9.heap.size w9 w')) (fun e w' hq => ⟨hq.1, by obtain ⟨_, q, rfl⟩ := hq; exact hid (below_drewN h.out _)⟩))
    have HNB := hid (fun W (h : Hid (Below w9.heap.size w9 W)) => (numbers_eq r3 r4 c3 c4 xs3 W hxm ((HR38.out.stays hb).stays h.out) (hr4.stays h.out)).mono (R' := fun e w' => e = .returned (.bool true) ∧ Hid (Below w9.heap.size w9 w')) (fun e w' hq => ⟨hq.1, by obtain ⟨_, q, rfl⟩ := hq; exact hid (below_drewN h.out _)⟩))
    have HCL := hid (fun W (h : Below w9.heap.size w9 W) => HCELL.out W (HE9.out.trans (h.mono HE9.out.size)))
    have H1 := hid (fun W (h : Hid (Below w9.heap.size w9 W)) => (HK1C.out W (HRT.out _ (HE9.out.trans (h.out.mono HE9.out.size)))).mono (R' := fun e w' => e = .returned (.int .i64 (K.check n T)) ∧ Hid (Below w9.heap.size w9 w')) (fun e w' hq => ⟨hq.1, hid (h.out.trans (hq.2.mono h.out.size))⟩))
    have H2 := hid (fun W (h : Hid (Below w9.heap.size w9 W)) => (HK2C.out W (HRT.out _ (HE9.out.trans (h.out.mono HE9.out.size)))).mono (R' := fun e w' => e = .returned (.int .i64 (K.check n T)) ∧ Hid (Below w9.heap.size w9 w')) (fun e w' hq => ⟨hq.1, hid (h.out.trans (hq.2.mono h.out.size))⟩))
    have H3 := hid (fun W (h : Hid (Below w9.heap.size w9 W)) => (ink_works W).mono (R' := fun e w' => e = .returned (.bool true) ∧ Hid (Below w9.heap.size w9 w')) (fun e w' hq => ⟨hq.1, hid (h.out.trans (hq.2.mono h.out.size))⟩))
    clear hb hr4 hz4 hy4 HZ3 HY3 p0 p1 u0 u1 HE8 HR18 HR28 HR38 HS2 HK1C HK2C HRT HRL HRC HB3
    generalize K.check n T = ce at *
    generalize K.sq n T l 12 = sq at *
    generalize K.clrV n T l ch = cv at *
    generalize K.clrE n T l ch = ce2 at *
    generalize K.gvl n T l = gv at *
    have hd : Hid (Below w9.heap.size w9 w9.drew) := hid (Below.refl _ _).drew
    obtain ⟨p0, p1, u0, u1⟩ := HCL.out _ hd.out
    go_wp2
    go_region_held3 (fun W => W.cell? ⟨w.heap.size, 0, none⟩ = some (.int .i64 n) ∧ W.cell? ⟨w.heap.size, 1, none⟩ = some (.slice a T.length c) ∧ W.cell? ⟨g, 0, none⟩ = some (.int .i64 n) ∧ W.cell? ⟨g, 1, none⟩ = some (.slice a T.length c)) (first | exact HCL.out _ (Hid.out (by assumption)) | go_keep) (first | (go_at_call 23; (with_reducible refine (HNA.out _ (by assumption)).mono ?_); rintro e w10 ⟨rfl, hb10⟩) | (go_at_call 23; (with_reducible refine (HNB.out _ (by assumption)).mono ?_); rintro e w11 ⟨rfl, hb11⟩) | (go_at_call 24; (with_reducible refine (H1.out _ (by assumption)).mono ?_); rintro e w12 ⟨rfl, hb12⟩) | (go_at_call 25; (with_reducible refine (H2.out _ (by assumption)).mono ?_); rintro e w13 ⟨rfl, hb13⟩) | (go_at_call 16; (with_reducible refine (H3.out _ (by assumption)).mono ?_); rintro e w14 ⟨rfl, hb14⟩))
    all_goals
      go_wp2
      go_ret
      exact ⟨rfl, HB9.out.trans (Below.mono (Hid.out (by assumption)) HB9.out.size)⟩
/-! Slices of bools that came in. -/
theorem open_rdB {H : Type} {enc : TypeId × Value → H} {W : World} {a : Option Addr} {len cap : Nat} {d : DataW H} {ps : List MemPlace}
    (h : DataW.Trod enc Try.prog W 0 (fun _ => true) true 26 (.slice a len cap) d ps) :
    ∃ xs : List Bool, xs.length = len ∧ len ≤ cap ∧ cap ≤ maxLen ∧ RdB W a xs := by
  obtain ⟨fuel, hf⟩ := h
  rcases Go.Deep.open_bools Try.underlying26 Try.underlying4 (by kernel_rfl) hf with ⟨hcs, _⟩ | ⟨x, l, c, B, hcs, _, hl, hm, _, hcell⟩
  · simp [Value.cells] at hcs
    obtain ⟨rfl, rfl, rfl⟩ := hcs
    exact ⟨[], rfl, Nat.le_refl _, Nat.zero_le _, fun k hk => absurd hk (Nat.not_lt_zero _)⟩
  · simp [Value.cells] at hcs
    obtain ⟨rfl, rfl, rfl⟩ := hcs
    refine ⟨(List.range len).map B, by simp, hl, hm, fun k hk => ?_⟩
    have hk' : k < len := by simpa using hk
    obtain ⟨b, off, rfl⟩ := addr_plain (hcell 0 (by omega))
    refine ⟨b, off, rfl, ?_⟩
    have h1 := hcell k (by omega)
    rw [Go.WideShapes.add_plain] at h1
    simpa using h1

/-! The row's frame (the guide's template). -/
set_option linter.unusedVariables false in
set_option maxRecDepth 100000 in
theorem inkGives_lifted (os : Os) (started : os.Started) (H : Type) (enc : TypeId × Value → H) :
    ReturnsInHanded {} Try.checked os 3 .any (Rows.inkGivesSpec.pre6 enc Try.prog Try.f3 Rows.inkGivesRow.domain false) (Rows.inkGivesSpec.post enc Try.prog Try.f3 false true false false) := by
  refine returnsInHanded_of_change (C := Try.checked) own started (by kernel_rfl) Try.func3
    (ChangeSpec.witness6 (enc := enc) (C := Try.checked) false ⟨#[], #[.agg #[.int .i64 0, .slice none 0 0], .slice none 0 0, .slice none 0 0], []⟩ 8 (by kernel_rfl) (by kernel_rfl) (by kernel_rfl) (by kernel_rfl)) ?_
  intro W base args ds gs before hval0 hW hcnd _
  have hval : ∀ (j : Nat) t v, Try.f3.params[j]? = some t → args[j]? = some v → Value.okWide Try.prog W .any base t v := hval0
  have hW' := hW
  obtain ⟨p, q, hA0, hV, rfl, hfz, hnd⟩ := hW
  have hA : DataW.TrodAll enc Try.prog W 0 (fun _ => true) true Try.f3.params.toList args.toList ds p := hA0
  rw [Try.params3] at hA hval
  obtain ⟨v0, vs0, d0, ds0, p0, q0, hargs, rfl, rfl, h0, r0⟩ := trodAll_cons hA
  obtain ⟨v1, vs1, d1, ds1, p1, q1, rfl, rfl, rfl, h1, r1⟩ := trodAll_cons r0
  obtain ⟨v2, vs2, d2, ds2, p2, q2, rfl, rfl, rfl, h2, r2⟩ := trodAll_cons r1
  obtain ⟨rfl, rfl, rfl⟩ := trodAll_nil r2
  obtain rfl : args = #[v0, v1, v2] := by cases args; simp_all
  obtain ⟨rfl, rfl⟩ := trodVars_none hV
  have k0 := h0
  have lt0 : ∀ x ∈ p0, x.block < W.heap.size := by obtain ⟨m, hm⟩ := k0; exact DataW.trod_lt m _ _ _ hm
  obtain ⟨n0, a0, cap0, T0, hv0, hm0, hR0⟩ := open_pal (hval 0 24 v0 rfl rfl) h0
  subst hv0
  have k1 := h1
  have lt1 : ∀ x ∈ p1, x.block < W.heap.size := by obtain ⟨m, hm⟩ := k1; exact DataW.trod_lt m _ _ _ hm
  obtain ⟨a1, len1, cap1, rfl⟩ := okWide_slice Try.underlying25 (hval 1 25 v1 rfl rfl)
  obtain ⟨xs1, rfl, hc1, hm1, hR1, hw1⟩ := open_rdI h1
  have k2 := h2
  have lt2 : ∀ x ∈ p2, x.block < W.heap.size := by obtain ⟨m, hm⟩ := k2; exact DataW.trod_lt m _ _ _ hm
  obtain ⟨a2, len2, cap2, rfl⟩ := okWide_slice Try.underlying26 (hval 2 26 v2 rfl rfl)
  obtain ⟨xs2, rfl, hc2, hm2, hR2⟩ := open_rdB h2
  clear hA0 hval0
  refine (inkGives_walk n0 a0 cap0 T0 a1 cap1 xs1 a2 cap2 xs2 W hm0 hR0 hc1 hm1 hR1 (Nat.le_trans hc2 hm2) hR2).mono fun e W' ⟨he, bel⟩ => ?_
  subst he
  exact ⟨_, rfl, _, _, _, [], _, [], hW', trodAll_mk1 (shut_bool Try.underlying4 _), (trodAll_cons_mk (Below.trod laidOut (by kernel_rfl) (of_decide_eq_true (by kernel_rfl)) k0 bel lt0) (trodAll_cons_mk (Below.trod laidOut (by kernel_rfl) (of_decide_eq_true (by kernel_rfl)) k1 bel lt1) (trodAll_cons_mk (Below.trod laidOut (by kernel_rfl) (of_decide_eq_true (by kernel_rfl)) k2 bel lt2) trodAll_mk0))), rfl, bel.frame _, fun h => by cases h⟩

theorem inkGives_over : Rows.inkGivesRow.holds Try.pinned (OpenSpec.ofChange Rows.inkGivesSpec) :=
  OpenClaim.holds_of_wide 3 Try.f3 rfl rfl rfl rfl rfl rfl rfl ⟨rfl, rfl, rfl, rfl, rfl⟩ rfl rfl rfl rfl rfl (by kernel_rfl) Try.func3 (by kernel_rfl)
    (of_decide_eq_true (by kernel_rfl)) (by unfold Func.isWrapper; first | (rw [if_pos (by decide +kernel)]; kernel_rfl) | (rw [if_neg (by decide +kernel)]; exact ⟨rfl, rfl⟩))
    (fun os started H enc _ => inkGives_lifted os started H enc)

theorem inkGives_proved : Rows.InkGivesSaid := inkGives_over
end Go.Proofs.Ytapndndbibgjoaa
