/- The walk of the law MarkMakes. -/
import Derived.Test.YthnklabdjaiplaaDoorMRef2
import Derived.Test.YthnklabdjaiplaaDoorMRef5
import Derived.Test.YthnklabdjaiplaaDoorMWorks
namespace Go.Proofs.YthnklabdjaiplaaDoor
open Go.RowKit

def M.mmD (i : Nat) : Nat := if i = 39 then 6 else 52 + i
theorem M.mmD_inj (i j : Nat) (hi : i < 40) (hj : j < 40) (h : M.mmD i = M.mmD j) : i = j := by
  unfold M.mmD at h
  split at h <;> split at h <;> omega
theorem M.mmD_lt (i : Nat) (hi : i < 40) : M.mmD i < 91 := by
  unfold M.mmD
  split <;> omega
set_option maxHeartbeats 0 in
set_option maxRecDepth 100000 in
theorem markMakes_any (m : Int) (ad : Option Addr) (c : Nat) (T : List (List Int)) (al : Option Addr) (cl : Nat) (l : List Int) (aw : Option Addr) (cw : Nat) (wd : List Int) (wo : World) (htb : M.TB wo) (hm : T.length ≤ maxLen) (hml : ∀ i, i < T.length → (T.getD i []).length ≤ maxLen) (hc : T.length ≤ c) (hll : l.length ≤ maxLen) (hwl : wd.length ≤ maxLen) (hT : RdM wo ad T) (hl : RdI wo al l) (hw : RdI wo aw wd) :
    Calls Tryd.prog 3 #[M.cv m ad T.length c, .slice al l.length cl, .slice aw wd.length cw] wo fun e w' => e = .returned (.bool true) ∧ Below wo.heap.size wo w' := by
  obtain ⟨W, hW, c0, c1, hB, hlt⟩ := M.newT wo 24 (.int .i64 m) (.slice ad T.length c)
  have HB := hid hB
  have HTB := hid (htb.stays hB)
  have HT := hid (hT.stays hB)
  have HL := hid (hl.stays hB)
  have HWD := hid (hw.stays hB)
  have HLG := hid (large_any m ad c T W hm HT.out)
  have KWK0 := hid (fun (w1 : World) (hb : Below W.heap.size W w1) => works_any w1 (HTB.out.stays hb))
  have hll' := hll
  have hwl' := hwl
  unfold maxLen at hll' hwl'
  unfold M.cv at *
  have big : ∀ b : Bool, b = true → True := fun _ _ => trivial
  clear big
  by_cases h1 : M.lrg T = true
  · rw [h1] at HLG
    clear hB htb hT hl hw h1
    go_enter Tryd.func3, Tryd.ntmps3
    go_wp2_with fail
    rw [hW] at *
    refine HLG.out.mono ?_
    rintro e w2 ⟨rfl, hb2⟩
    have HB2 := hid hb2
    clear hb2
    go_wp2_with fail
    refine (KWK0.out w2 HB2.out).mono ?_
    rintro e w3 ⟨rfl, hb3⟩
    have HB3 := hid (HB.out.trans ((HB2.out.trans (hb3.mono HB2.out.size)).mono HB.out.size))
    clear hb3
    go_wp2
    go_ret
    exact ⟨rfl, HB3.out⟩
  have h1' : M.lrg T = false := by simpa using h1
  rw [h1'] at HLG
  clear h1 h1'
  by_cases h2 : 40 < l.length
  · have h2' : decide ((40 : Int) < (l.length : Int)) = true := decide_eq_true (by omega)
    clear hB htb hT hl hw
    go_enter Tryd.func3, Tryd.ntmps3
    go_wp2_with fail
    rw [hW] at *
    refine HLG.out.mono ?_
    rintro e w2 ⟨rfl, hb2⟩
    have HB2 := hid hb2
    clear hb2
    go_wp2_with fail
    refine (KWK0.out w2 HB2.out).mono ?_
    rintro e w3 ⟨rfl, hb3⟩
    have HB3 := hid (HB.out.trans ((HB2.out.trans (hb3.mono HB2.out.size)).mono HB.out.size))
    clear hb3
    go_wp2
    go_ret
    exact ⟨rfl, HB3.out⟩
  have h2' : decide ((40 : Int) < (l.length : Int)) = false := decide_eq_false (by omega)
  by_cases h3 : 40 < wd.length
  · have h3' : decide ((40 : Int) < (wd.length : Int)) = true := decide_eq_true (by omega)
    clear hB htb hT hl hw
    go_enter Tryd.func3, Tryd.ntmps3
    go_wp2_with fail
    rw [hW] at *
    refine HLG.out.mono ?_
    rintro e w2 ⟨rfl, hb2⟩
    have HB2 := hid hb2
    clear hb2
    go_wp2_with fail
    refine (KWK0.out w2 HB2.out).mono ?_
    rintro e w3 ⟨rfl, hb3⟩
    have HB3 := hid (HB.out.trans ((HB2.out.trans (hb3.mono HB2.out.size)).mono HB.out.size))
    clear hb3
    go_wp2
    go_ret
    exact ⟨rfl, HB3.out⟩
  have h3' : decide ((40 : Int) < (wd.length : Int)) = false := decide_eq_false (by omega)
  have KD1 := hid (fun (w1 : World) (hb : Below W.heap.size W w1) => Distance_any m ad c T w1 hm hml hc (HT.out.stays hb))
  have KD2 := hid (fun (w1 : World) (hb : Below W.heap.size W w1) => refDistance_any m ad c T w1 hm hml (HT.out.stays hb))
  have KP1 := hid (fun (w1 : World) (hb : Below W.heap.size W w1) => Copies_any m ad c T al cl l w1 (HTB.out.stays hb) hm hml hll (HT.out.stays hb) (HL.out.stays hb))
  have KP2 := hid (fun (w1 : World) (hb : Below W.heap.size W w1) => refCopies_any m ad c T al cl l w1 hm hml hll (HT.out.stays hb) (HL.out.stays hb))
  have KM10 := hid (fun (w1 : World) (hb : Below W.heap.size W w1) => Makes_any m ad c T al cl l aw cw wd w1 hm hml hll hwl (HT.out.stays hb) (HL.out.stays hb) (HWD.out.stays hb))
  have KM20 := hid (fun (w1 : World) (hb : Below W.heap.size W w1) => refMakes_any m ad c T al cl l aw cw wd w1 hm hml hll hwl (HT.out.stays hb) (HL.out.stays hb) (HWD.out.stays hb))
  have KC10 := hid (fun (w1 : World) (hb : Below W.heap.size W w1) => check_any m ad c T w1 hm hml (HT.out.stays hb))
  have KC20 := hid (fun (w1 : World) (hb : Below W.heap.size W w1) => refCheck_any m ad c T w1 hm hml (HT.out.stays hb))
  unfold M.cv at *
  clear hB htb hT hl hw h2 h3 hml hm hc hll hwl
  generalize M.distV m T = dd at *
  generalize M.cps m T l = ee at *
  generalize M.mks m T l wd = vk at *
  generalize M.chk m T = vh at *
  obtain ⟨vd, vf⟩ := dd
  obtain ⟨vp, vq⟩ := ee
  dsimp only at KD1 KD2 KP1 KP2
  go_enter Tryd.func3, Tryd.ntmps3
  go_wp2_with fail
  rw [hW] at *
  refine HLG.out.mono ?_
  rintro e w2 ⟨rfl, hb2⟩
  have HB2 := hid hb2
  have q0 := cell_stays hb2 (Nat.le_refl _) c0
  have q1 := cell_stays hb2 (Nat.le_refl _) c1
  clear hb2 c0 c1
  obtain ⟨w3, hx, q2, q3, hb3, -⟩ := M.newT w2 28 (.int .i64 m) (.slice ad T.length c)
  have p0 := cell_stays hb3 (Nat.le_refl _) q0
  have p1 := cell_stays hb3 (Nat.le_refl _) q1
  go_wp2_with fail
  clear q0 q1
  have q0 := p0
  have q1 := p1
  clear p0 p1
  obtain ⟨g7, hg7⟩ : ∃ g7, w2.heap.size = g7 := ⟨_, rfl⟩
  rw [hg7] at q2 q3 ⊢
  have HB3 := hid (HB2.out.trans (hb3.mono HB2.out.size))
  clear hb3 hx hg7

  refine (KD1.out _ HB3.out).mono ?_
  rintro e w4 ⟨rfl, b⟩
  replace q0 := cell_stays b (Nat.le_refl _) q0
  replace q1 := cell_stays b (Nat.le_refl _) q1
  replace q2 := cell_stays b (Nat.le_refl _) q2
  replace q3 := cell_stays b (Nat.le_refl _) q3
  have HB4 := hid (HB3.out.trans (b.mono HB3.out.size))
  clear b
  go_wp2_with fail
  refine (KD2.out _ HB4.out).mono ?_
  rintro e w5 ⟨rfl, b⟩
  replace q0 := cell_stays b (Nat.le_refl _) q0
  replace q1 := cell_stays b (Nat.le_refl _) q1
  replace q2 := cell_stays b (Nat.le_refl _) q2
  replace q3 := cell_stays b (Nat.le_refl _) q3
  have HB5 := hid (HB4.out.trans (b.mono HB4.out.size))
  clear b
  go_wp2_with fail
  refine (KP1.out _ HB5.out).mono ?_
  rintro e w6 ⟨rfl, b⟩
  replace q0 := cell_stays b (Nat.le_refl _) q0
  replace q1 := cell_stays b (Nat.le_refl _) q1
  replace q2 := cell_stays b (Nat.le_refl _) q2
  replace q3 := cell_stays b (Nat.le_refl _) q3
  have HB6 := hid (HB5.out.trans (b.mono HB5.out.size))
  clear b
  go_wp2_with fail
  refine (KP2.out _ HB6.out).mono ?_
  rintro e w7 ⟨rfl, b⟩
  replace q0 := cell_stays b (Nat.le_refl _) q0
  replace q1 := cell_stays b (Nat.le_refl _) q1
  replace q2 := cell_stays b (Nat.le_refl _) q2
  replace q3 := cell_stays b (Nat.le_refl _) q3
  have HB7 := hid (HB6.out.trans (b.mono HB6.out.size))
  clear b
  go_wp2_with fail
  have b : Below w7.heap.size w7 w7.drew := (Below.refl _ _).drew
  replace q0 := cell_stays b (Nat.le_refl _) q0
  replace q1 := cell_stays b (Nat.le_refl _) q1
  replace q2 := cell_stays b (Nat.le_refl _) q2
  replace q3 := cell_stays b (Nat.le_refl _) q3
  have HB8 := hid (HB7.out.trans (b.mono HB7.out.size))
  have KM1 := hid (fun (w1 : World) (hb : Below w7.drew.heap.size w7.drew w1) => KM10.out w1 (HB8.out.trans (hb.mono HB8.out.size)))
  have KM2 := hid (fun (w1 : World) (hb : Below w7.drew.heap.size w7.drew w1) => KM20.out w1 (HB8.out.trans (hb.mono HB8.out.size)))
  have KC1 := hid (fun (w1 : World) (hb : Below w7.drew.heap.size w7.drew w1) => KC10.out w1 (HB8.out.trans (hb.mono HB8.out.size)))
  have KC2 := hid (fun (w1 : World) (hb : Below w7.drew.heap.size w7.drew w1) => KC20.out w1 (HB8.out.trans (hb.mono HB8.out.size)))
  have KWK := hid (fun (w1 : World) (hb : Below w7.drew.heap.size w7.drew w1) => KWK0.out w1 (HB8.out.trans (hb.mono HB8.out.size)))
  have HBE := hid (HB.out.trans (HB8.out.mono HB.out.size))
  clear b KD1 KD2 KP1 KP2 KM10 KM20 KC10 KC20 KWK0 HB2 HB3 HB4 HB5 HB6 HB7 HB8 HB HT HL HWD HTB HLG
  obtain ⟨KS, hKS⟩ : ∃ KS : List M.Ky, KS = [.val (.int .i64 vd), .val (.int .i64 vd), .val (.bool true), .val (.bool true), .val (.int .i64 vf), .val (.int .i64 vf), .val (.bool true), .val (.bool true), .val (.bool true), .val (.int .i64 vp), .val (.int .i64 vp), .val (.bool true), .val (.bool true), .val (.bool true), .val (.int .i64 vq), .val (.int .i64 vq), .val (.bool true), .val (.bool true), .val (.bool true), .val (.agg #[.int .i64 m, .slice ad T.length c]), .val (.slice al l.length cl), .val (.slice aw wd.length cw), .val (.int .i64 vk), .val (.agg #[.int .i64 m, .slice ad T.length c]), .val (.slice al l.length cl), .val (.slice aw wd.length cw), .val (.int .i64 vk), .val (.bool true), .val (.bool true), .val (.bool true), .val (.agg #[.int .i64 m, .slice ad T.length c]), .val (.int .i64 vh), .val (.agg #[.int .i64 m, .slice ad T.length c]), .val (.int .i64 vh), .val (.bool true), .val (.bool true), .val (.bool true), .val (.bool true), .val (.bool true), .val (.bool true)] := ⟨_, rfl⟩
  refine M.region_inv 40 91 M.mmD (M.kz KS) (by kernel_rfl) rfl rfl (fun _ _ _ _ hb h => M.Ky.Holds.stays hb h) M.mmD_inj M.mmD_lt ?_ ?_
  case refine_1 =>
    intro T0 hT
    have s1 : T0 1 = .slice al l.length cl := (hT 1).symm
    have s2 : T0 2 = .slice aw wd.length cw := (hT 2).symm
    have s8 : T0 8 = .int .i64 vd := (hT 8).symm
    have s9 : T0 9 = .int .i64 vf := (hT 9).symm
    have s10 : T0 10 = .int .i64 vd := (hT 10).symm
    have s11 : T0 11 = .int .i64 vf := (hT 11).symm
    have s12 : T0 12 = .int .i64 vp := (hT 12).symm
    have s13 : T0 13 = .int .i64 vq := (hT 13).symm
    have s14 : T0 14 = .int .i64 vp := (hT 14).symm
    have s15 : T0 15 = .int .i64 vq := (hT 15).symm
    have s3 : T0 3 = .pointer (some ⟨wo.heap.size, 0, none⟩) := (hT 3).symm
    have s7 : T0 7 = .pointer (some ⟨g7, 0, none⟩) := (hT 7).symm
    clear hT
    refine And.intro ?_ (And.intro ?_ (And.intro ?_ (And.intro ?_ (And.intro ?_ (And.intro ?_ (And.intro ?_ (And.intro ?_ (And.intro ?_ (And.intro ?_ (And.intro ?_ (And.intro ?_ (And.intro ?_ (And.intro ?_ (And.intro ?_ (And.intro ?_ (And.intro ?_ (And.intro ?_ (And.intro ?_ (And.intro ?_ (And.intro ?_ (And.intro ?_ (And.intro ?_ (And.intro ?_ (And.intro ?_ (And.intro ?_ (And.intro ?_ (And.intro ?_ (And.intro ?_ (And.intro ?_ (And.intro ?_ (And.intro ?_ (And.intro ?_ (And.intro ?_ (And.intro ?_ (And.intro ?_ (And.intro ?_ (And.intro ?_ (And.intro ?_ (And.intro ?_ (trivial))))))))))))))))))))))))))))))))))))))))
    · refine M.R.of rfl (by kernel_rfl) (.inl rfl) (fun Q listed a w h hd => ?_)
      have b := h.base 8 (by intro j hj; unfold M.mmD; split <;> omega)
      refine M.wp_pure (a.tmps.getD 8 undef) rfl rfl (M.kz_of (k := .val (.int .i64 vd)) (by rw [hKS]; kernel_rfl) ?_)
      rw [b]
      exact M.Ky.Holds.stays h.below (s8)
    · refine M.R.of rfl (by kernel_rfl) (.inl rfl) (fun Q listed a w h hd => ?_)
      have b := h.base 10 (by intro j hj; unfold M.mmD; split <;> omega)
      refine M.wp_pure (a.tmps.getD 10 undef) rfl rfl (M.kz_of (k := .val (.int .i64 vd)) (by rw [hKS]; kernel_rfl) ?_)
      rw [b]
      exact M.Ky.Holds.stays h.below (s10)
    · refine M.R.of rfl (by kernel_rfl) (.inl rfl) (fun Q listed a w h hd => ?_)
      have e1 : a.tmps.getD 52 undef = .int .i64 vd := M.got h 0 (by decide) (.val (.int .i64 vd)) (by rw [hKS]; kernel_rfl) (hd 0 (by kernel_rfl))
      have e2 : a.tmps.getD 53 undef = .int .i64 vd := M.got h 1 (by decide) (.val (.int .i64 vd)) (by rw [hKS]; kernel_rfl) (hd 1 (by kernel_rfl))
      exact M.wp_pure (.bool true) rfl (by rw [M.run_env [(52, .int .i64 vd), (53, .int .i64 vd)] ⟨e1, e2, trivial⟩ rfl (by kernel_rfl)]; have f0 : M.env [(52, .int .i64 vd), (53, .int .i64 vd)] (.tmp 52) = .int .i64 vd := rfl; have f1 : M.env [(52, .int .i64 vd), (53, .int .i64 vd)] (.tmp 53) = .int .i64 vd := rfl; simp only [execOp, f0, f1]; go_simp) (M.kz_of (k := .val (.bool true)) (by rw [hKS]; kernel_rfl) rfl)
    · refine M.R.of rfl (by kernel_rfl) (.inl rfl) (fun Q listed a w h hd => ?_)
      exact M.wp_pure _ rfl rfl (M.kz_of (k := .val (.bool true)) (by rw [hKS]; kernel_rfl) (M.got h 2 (by decide) (.val (.bool true)) (by rw [hKS]; kernel_rfl) (hd 2 (by kernel_rfl))))
    · refine M.R.of rfl (by kernel_rfl) (.inr ⟨3, true, rfl, by decide, (by rw [hKS]; kernel_rfl), by kernel_rfl⟩) (fun Q listed a w h hd => ?_)
      have b := h.base 9 (by intro j hj; unfold M.mmD; split <;> omega)
      refine M.wp_pure (a.tmps.getD 9 undef) rfl rfl (M.kz_of (k := .val (.int .i64 vf)) (by rw [hKS]; kernel_rfl) ?_)
      rw [b]
      exact M.Ky.Holds.stays h.below (s9)
    · refine M.R.of rfl (by kernel_rfl) (.inr ⟨3, true, rfl, by decide, (by rw [hKS]; kernel_rfl), by kernel_rfl⟩) (fun Q listed a w h hd => ?_)
      have b := h.base 11 (by intro j hj; unfold M.mmD; split <;> omega)
      refine M.wp_pure (a.tmps.getD 11 undef) rfl rfl (M.kz_of (k := .val (.int .i64 vf)) (by rw [hKS]; kernel_rfl) ?_)
      rw [b]
      exact M.Ky.Holds.stays h.below (s11)
    · refine M.R.of rfl (by kernel_rfl) (.inr ⟨3, true, rfl, by decide, (by rw [hKS]; kernel_rfl), by kernel_rfl⟩) (fun Q listed a w h hd => ?_)
      have e1 : a.tmps.getD 56 undef = .int .i64 vf := M.got h 4 (by decide) (.val (.int .i64 vf)) (by rw [hKS]; kernel_rfl) (hd 4 (by kernel_rfl))
      have e2 : a.tmps.getD 57 undef = .int .i64 vf := M.got h 5 (by decide) (.val (.int .i64 vf)) (by rw [hKS]; kernel_rfl) (hd 5 (by kernel_rfl))
      exact M.wp_pure (.bool true) rfl (by rw [M.run_env [(56, .int .i64 vf), (57, .int .i64 vf)] ⟨e1, e2, trivial⟩ rfl (by kernel_rfl)]; have f0 : M.env [(56, .int .i64 vf), (57, .int .i64 vf)] (.tmp 56) = .int .i64 vf := rfl; have f1 : M.env [(56, .int .i64 vf), (57, .int .i64 vf)] (.tmp 57) = .int .i64 vf := rfl; simp only [execOp, f0, f1]; go_simp) (M.kz_of (k := .val (.bool true)) (by rw [hKS]; kernel_rfl) rfl)
    · refine M.R.of rfl (by kernel_rfl) (.inl rfl) (fun Q listed a w h hd => ?_)
      have e0 : a.tmps.getD 55 undef = .bool true := M.got h 3 (by decide) (.val (.bool true)) (by rw [hKS]; kernel_rfl) (hd 3 (by kernel_rfl))
      have e1 : a.tmps.getD 58 undef = .bool true := M.got h 6 (by decide) (.val (.bool true)) (by rw [hKS]; kernel_rfl) (hd 6 (by kernel_rfl))
      exact M.wp_pure (.bool true) rfl (by rw [M.run_env [(55, .bool true), (58, .bool true)] ⟨e0, e1, trivial⟩ rfl (by kernel_rfl)]; kernel_rfl) (M.kz_of (k := .val (.bool true)) (by rw [hKS]; kernel_rfl) rfl)
    · refine M.R.of rfl (by kernel_rfl) (.inl rfl) (fun Q listed a w h hd => ?_)
      exact M.wp_pure _ rfl rfl (M.kz_of (k := .val (.bool true)) (by rw [hKS]; kernel_rfl) (M.got h 7 (by decide) (.val (.bool true)) (by rw [hKS]; kernel_rfl) (hd 7 (by kernel_rfl))))
    · refine M.R.of rfl (by kernel_rfl) (.inr ⟨8, true, rfl, by decide, (by rw [hKS]; kernel_rfl), by kernel_rfl⟩) (fun Q listed a w h hd => ?_)
      have b := h.base 12 (by intro j hj; unfold M.mmD; split <;> omega)
      refine M.wp_pure (a.tmps.getD 12 undef) rfl rfl (M.kz_of (k := .val (.int .i64 vp)) (by rw [hKS]; kernel_rfl) ?_)
      rw [b]
      exact M.Ky.Holds.stays h.below (s12)
    · refine M.R.of rfl (by kernel_rfl) (.inr ⟨8, true, rfl, by decide, (by rw [hKS]; kernel_rfl), by kernel_rfl⟩) (fun Q listed a w h hd => ?_)
      have b := h.base 14 (by intro j hj; unfold M.mmD; split <;> omega)
      refine M.wp_pure (a.tmps.getD 14 undef) rfl rfl (M.kz_of (k := .val (.int .i64 vp)) (by rw [hKS]; kernel_rfl) ?_)
      rw [b]
      exact M.Ky.Holds.stays h.below (s14)
    · refine M.R.of rfl (by kernel_rfl) (.inr ⟨8, true, rfl, by decide, (by rw [hKS]; kernel_rfl), by kernel_rfl⟩) (fun Q listed a w h hd => ?_)
      have e1 : a.tmps.getD 61 undef = .int .i64 vp := M.got h 9 (by decide) (.val (.int .i64 vp)) (by rw [hKS]; kernel_rfl) (hd 9 (by kernel_rfl))
      have e2 : a.tmps.getD 62 undef = .int .i64 vp := M.got h 10 (by decide) (.val (.int .i64 vp)) (by rw [hKS]; kernel_rfl) (hd 10 (by kernel_rfl))
      exact M.wp_pure (.bool true) rfl (by rw [M.run_env [(61, .int .i64 vp), (62, .int .i64 vp)] ⟨e1, e2, trivial⟩ rfl (by kernel_rfl)]; have f0 : M.env [(61, .int .i64 vp), (62, .int .i64 vp)] (.tmp 61) = .int .i64 vp := rfl; have f1 : M.env [(61, .int .i64 vp), (62, .int .i64 vp)] (.tmp 62) = .int .i64 vp := rfl; simp only [execOp, f0, f1]; go_simp) (M.kz_of (k := .val (.bool true)) (by rw [hKS]; kernel_rfl) rfl)
    · refine M.R.of rfl (by kernel_rfl) (.inl rfl) (fun Q listed a w h hd => ?_)
      have e0 : a.tmps.getD 60 undef = .bool true := M.got h 8 (by decide) (.val (.bool true)) (by rw [hKS]; kernel_rfl) (hd 8 (by kernel_rfl))
      have e1 : a.tmps.getD 63 undef = .bool true := M.got h 11 (by decide) (.val (.bool true)) (by rw [hKS]; kernel_rfl) (hd 11 (by kernel_rfl))
      exact M.wp_pure (.bool true) rfl (by rw [M.run_env [(60, .bool true), (63, .bool true)] ⟨e0, e1, trivial⟩ rfl (by kernel_rfl)]; kernel_rfl) (M.kz_of (k := .val (.bool true)) (by rw [hKS]; kernel_rfl) rfl)
    · refine M.R.of rfl (by kernel_rfl) (.inl rfl) (fun Q listed a w h hd => ?_)
      exact M.wp_pure _ rfl rfl (M.kz_of (k := .val (.bool true)) (by rw [hKS]; kernel_rfl) (M.got h 12 (by decide) (.val (.bool true)) (by rw [hKS]; kernel_rfl) (hd 12 (by kernel_rfl))))
    · refine M.R.of rfl (by kernel_rfl) (.inr ⟨13, true, rfl, by decide, (by rw [hKS]; kernel_rfl), by kernel_rfl⟩) (fun Q listed a w h hd => ?_)
      have b := h.base 13 (by intro j hj; unfold M.mmD; split <;> omega)
      refine M.wp_pure (a.tmps.getD 13 undef) rfl rfl (M.kz_of (k := .val (.int .i64 vq)) (by rw [hKS]; kernel_rfl) ?_)
      rw [b]
      exact M.Ky.Holds.stays h.below (s13)
    · refine M.R.of rfl (by kernel_rfl) (.inr ⟨13, true, rfl, by decide, (by rw [hKS]; kernel_rfl), by kernel_rfl⟩) (fun Q listed a w h hd => ?_)
      have b := h.base 15 (by intro j hj; unfold M.mmD; split <;> omega)
      refine M.wp_pure (a.tmps.getD 15 undef) rfl rfl (M.kz_of (k := .val (.int .i64 vq)) (by rw [hKS]; kernel_rfl) ?_)
      rw [b]
      exact M.Ky.Holds.stays h.below (s15)
    · refine M.R.of rfl (by kernel_rfl) (.inr ⟨13, true, rfl, by decide, (by rw [hKS]; kernel_rfl), by kernel_rfl⟩) (fun Q listed a w h hd => ?_)
      have e1 : a.tmps.getD 66 undef = .int .i64 vq := M.got h 14 (by decide) (.val (.int .i64 vq)) (by rw [hKS]; kernel_rfl) (hd 14 (by kernel_rfl))
      have e2 : a.tmps.getD 67 undef = .int .i64 vq := M.got h 15 (by decide) (.val (.int .i64 vq)) (by rw [hKS]; kernel_rfl) (hd 15 (by kernel_rfl))
      exact M.wp_pure (.bool true) rfl (by rw [M.run_env [(66, .int .i64 vq), (67, .int .i64 vq)] ⟨e1, e2, trivial⟩ rfl (by kernel_rfl)]; have f0 : M.env [(66, .int .i64 vq), (67, .int .i64 vq)] (.tmp 66) = .int .i64 vq := rfl; have f1 : M.env [(66, .int .i64 vq), (67, .int .i64 vq)] (.tmp 67) = .int .i64 vq := rfl; simp only [execOp, f0, f1]; go_simp) (M.kz_of (k := .val (.bool true)) (by rw [hKS]; kernel_rfl) rfl)
    · refine M.R.of rfl (by kernel_rfl) (.inl rfl) (fun Q listed a w h hd => ?_)
      have e0 : a.tmps.getD 65 undef = .bool true := M.got h 13 (by decide) (.val (.bool true)) (by rw [hKS]; kernel_rfl) (hd 13 (by kernel_rfl))
      have e1 : a.tmps.getD 68 undef = .bool true := M.got h 16 (by decide) (.val (.bool true)) (by rw [hKS]; kernel_rfl) (hd 16 (by kernel_rfl))
      exact M.wp_pure (.bool true) rfl (by rw [M.run_env [(65, .bool true), (68, .bool true)] ⟨e0, e1, trivial⟩ rfl (by kernel_rfl)]; kernel_rfl) (M.kz_of (k := .val (.bool true)) (by rw [hKS]; kernel_rfl) rfl)
    · refine M.R.of rfl (by kernel_rfl) (.inl rfl) (fun Q listed a w h hd => ?_)
      exact M.wp_pure _ rfl rfl (M.kz_of (k := .val (.bool true)) (by rw [hKS]; kernel_rfl) (M.got h 17 (by decide) (.val (.bool true)) (by rw [hKS]; kernel_rfl) (hd 17 (by kernel_rfl))))
    · refine M.R.of rfl (by kernel_rfl) (.inr ⟨18, true, rfl, by decide, (by rw [hKS]; kernel_rfl), by kernel_rfl⟩) (fun Q listed a w h hd => ?_)
      have b := h.base 3 (by intro j hj; unfold M.mmD; split <;> omega)
      replace b := b.trans s3
      have k0 := cell_stays h.below (Nat.le_refl _) q0
      have k1 := cell_stays h.below (Nat.le_refl _) q1
      exact M.wp_pure (.agg #[.int .i64 m, .slice ad T.length c]) rfl (by rw [M.run_env [(3, .pointer (some ⟨wo.heap.size, 0, none⟩))] ⟨b, trivial⟩ rfl (by kernel_rfl)]; go_simp; simp [M.env, k0, k1]) (M.kz_of (k := .val (.agg #[.int .i64 m, .slice ad T.length c])) (by rw [hKS]; kernel_rfl) rfl)
    · refine M.R.of rfl (by kernel_rfl) (.inr ⟨18, true, rfl, by decide, (by rw [hKS]; kernel_rfl), by kernel_rfl⟩) (fun Q listed a w h hd => ?_)
      have b := h.base 1 (by intro j hj; unfold M.mmD; split <;> omega)
      refine M.wp_pure (a.tmps.getD 1 undef) rfl rfl (M.kz_of (k := .val (.slice al l.length cl)) (by rw [hKS]; kernel_rfl) ?_)
      rw [b]
      exact M.Ky.Holds.stays h.below (s1)
    · refine M.R.of rfl (by kernel_rfl) (.inr ⟨18, true, rfl, by decide, (by rw [hKS]; kernel_rfl), by kernel_rfl⟩) (fun Q listed a w h hd => ?_)
      have b := h.base 2 (by intro j hj; unfold M.mmD; split <;> omega)
      refine M.wp_pure (a.tmps.getD 2 undef) rfl rfl (M.kz_of (k := .val (.slice aw wd.length cw)) (by rw [hKS]; kernel_rfl) ?_)
      rw [b]
      exact M.Ky.Holds.stays h.below (s2)
    · refine M.R.of rfl (by kernel_rfl) (.inr ⟨18, true, rfl, by decide, (by rw [hKS]; kernel_rfl), by kernel_rfl⟩) (fun Q listed a w h hd => ?_)
      have e0 : a.tmps.getD 71 undef = .agg #[.int .i64 m, .slice ad T.length c] := M.got h 19 (by decide) (.val (.agg #[.int .i64 m, .slice ad T.length c])) (by rw [hKS]; kernel_rfl) (hd 19 (by kernel_rfl))
      have e1 : a.tmps.getD 72 undef = .slice al l.length cl := M.got h 20 (by decide) (.val (.slice al l.length cl)) (by rw [hKS]; kernel_rfl) (hd 20 (by kernel_rfl))
      have e2 : a.tmps.getD 73 undef = .slice aw wd.length cw := M.got h 21 (by decide) (.val (.slice aw wd.length cw)) (by rw [hKS]; kernel_rfl) (hd 21 (by kernel_rfl))
      refine M.wp_call 18 #[.agg #[.int .i64 m, .slice ad T.length c], .slice al l.length cl, .slice aw wd.length cw] rfl (by rw [M.run_env [(71, .agg #[.int .i64 m, .slice ad T.length c]), (72, .slice al l.length cl), (73, .slice aw wd.length cw)] ⟨e0, e1, e2, trivial⟩ rfl (by kernel_rfl)]; kernel_rfl) ?_
      exact (KM1.out w h.below).mono fun e w' ⟨h1, h2⟩ => ⟨_, h1, M.kz_of (k := .val (.int .i64 vk)) (by rw [hKS]; kernel_rfl) rfl, h2⟩
    · refine M.R.of rfl (by kernel_rfl) (.inr ⟨18, true, rfl, by decide, (by rw [hKS]; kernel_rfl), by kernel_rfl⟩) (fun Q listed a w h hd => ?_)
      have b := h.base 7 (by intro j hj; unfold M.mmD; split <;> omega)
      replace b := b.trans s7
      have k0 := cell_stays h.below (Nat.le_refl _) q2
      have k1 := cell_stays h.below (Nat.le_refl _) q3
      exact M.wp_pure (.agg #[.int .i64 m, .slice ad T.length c]) rfl (by rw [M.run_env [(7, .pointer (some ⟨g7, 0, none⟩))] ⟨b, trivial⟩ rfl (by kernel_rfl)]; go_simp; simp [M.env, k0, k1]) (M.kz_of (k := .val (.agg #[.int .i64 m, .slice ad T.length c])) (by rw [hKS]; kernel_rfl) rfl)
    · refine M.R.of rfl (by kernel_rfl) (.inr ⟨18, true, rfl, by decide, (by rw [hKS]; kernel_rfl), by kernel_rfl⟩) (fun Q listed a w h hd => ?_)
      have b := h.base 1 (by intro j hj; unfold M.mmD; split <;> omega)
      refine M.wp_pure (a.tmps.getD 1 undef) rfl rfl (M.kz_of (k := .val (.slice al l.length cl)) (by rw [hKS]; kernel_rfl) ?_)
      rw [b]
      exact M.Ky.Holds.stays h.below (s1)
    · refine M.R.of rfl (by kernel_rfl) (.inr ⟨18, true, rfl, by decide, (by rw [hKS]; kernel_rfl), by kernel_rfl⟩) (fun Q listed a w h hd => ?_)
      have b := h.base 2 (by intro j hj; unfold M.mmD; split <;> omega)
      refine M.wp_pure (a.tmps.getD 2 undef) rfl rfl (M.kz_of (k := .val (.slice aw wd.length cw)) (by rw [hKS]; kernel_rfl) ?_)
      rw [b]
      exact M.Ky.Holds.stays h.below (s2)
    · refine M.R.of rfl (by kernel_rfl) (.inr ⟨18, true, rfl, by decide, (by rw [hKS]; kernel_rfl), by kernel_rfl⟩) (fun Q listed a w h hd => ?_)
      have e0 : a.tmps.getD 75 undef = .agg #[.int .i64 m, .slice ad T.length c] := M.got h 23 (by decide) (.val (.agg #[.int .i64 m, .slice ad T.length c])) (by rw [hKS]; kernel_rfl) (hd 23 (by kernel_rfl))
      have e1 : a.tmps.getD 76 undef = .slice al l.length cl := M.got h 24 (by decide) (.val (.slice al l.length cl)) (by rw [hKS]; kernel_rfl) (hd 24 (by kernel_rfl))
      have e2 : a.tmps.getD 77 undef = .slice aw wd.length cw := M.got h 25 (by decide) (.val (.slice aw wd.length cw)) (by rw [hKS]; kernel_rfl) (hd 25 (by kernel_rfl))
      refine M.wp_call 19 #[.agg #[.int .i64 m, .slice ad T.length c], .slice al l.length cl, .slice aw wd.length cw] rfl (by rw [M.run_env [(75, .agg #[.int .i64 m, .slice ad T.length c]), (76, .slice al l.length cl), (77, .slice aw wd.length cw)] ⟨e0, e1, e2, trivial⟩ rfl (by kernel_rfl)]; kernel_rfl) ?_
      exact (KM2.out w h.below).mono fun e w' ⟨h1, h2⟩ => ⟨_, h1, M.kz_of (k := .val (.int .i64 vk)) (by rw [hKS]; kernel_rfl) rfl, h2⟩
    · refine M.R.of rfl (by kernel_rfl) (.inr ⟨18, true, rfl, by decide, (by rw [hKS]; kernel_rfl), by kernel_rfl⟩) (fun Q listed a w h hd => ?_)
      have e1 : a.tmps.getD 74 undef = .int .i64 vk := M.got h 22 (by decide) (.val (.int .i64 vk)) (by rw [hKS]; kernel_rfl) (hd 22 (by kernel_rfl))
      have e2 : a.tmps.getD 78 undef = .int .i64 vk := M.got h 26 (by decide) (.val (.int .i64 vk)) (by rw [hKS]; kernel_rfl) (hd 26 (by kernel_rfl))
      exact M.wp_pure (.bool true) rfl (by rw [M.run_env [(74, .int .i64 vk), (78, .int .i64 vk)] ⟨e1, e2, trivial⟩ rfl (by kernel_rfl)]; have f0 : M.env [(74, .int .i64 vk), (78, .int .i64 vk)] (.tmp 74) = .int .i64 vk := rfl; have f1 : M.env [(74, .int .i64 vk), (78, .int .i64 vk)] (.tmp 78) = .int .i64 vk := rfl; simp only [execOp, f0, f1]; go_simp) (M.kz_of (k := .val (.bool true)) (by rw [hKS]; kernel_rfl) rfl)
    · refine M.R.of rfl (by kernel_rfl) (.inl rfl) (fun Q listed a w h hd => ?_)
      have e0 : a.tmps.getD 70 undef = .bool true := M.got h 18 (by decide) (.val (.bool true)) (by rw [hKS]; kernel_rfl) (hd 18 (by kernel_rfl))
      have e1 : a.tmps.getD 79 undef = .bool true := M.got h 27 (by decide) (.val (.bool true)) (by rw [hKS]; kernel_rfl) (hd 27 (by kernel_rfl))
      exact M.wp_pure (.bool true) rfl (by rw [M.run_env [(70, .bool true), (79, .bool true)] ⟨e0, e1, trivial⟩ rfl (by kernel_rfl)]; kernel_rfl) (M.kz_of (k := .val (.bool true)) (by rw [hKS]; kernel_rfl) rfl)
    · refine M.R.of rfl (by kernel_rfl) (.inl rfl) (fun Q listed a w h hd => ?_)
      exact M.wp_pure _ rfl rfl (M.kz_of (k := .val (.bool true)) (by rw [hKS]; kernel_rfl) (M.got h 28 (by decide) (.val (.bool true)) (by rw [hKS]; kernel_rfl) (hd 28 (by kernel_rfl))))
    · refine M.R.of rfl (by kernel_rfl) (.inr ⟨29, true, rfl, by decide, (by rw [hKS]; kernel_rfl), by kernel_rfl⟩) (fun Q listed a w h hd => ?_)
      have b := h.base 3 (by intro j hj; unfold M.mmD; split <;> omega)
      replace b := b.trans s3
      have k0 := cell_stays h.below (Nat.le_refl _) q0
      have k1 := cell_stays h.below (Nat.le_refl _) q1
      exact M.wp_pure (.agg #[.int .i64 m, .slice ad T.length c]) rfl (by rw [M.run_env [(3, .pointer (some ⟨wo.heap.size, 0, none⟩))] ⟨b, trivial⟩ rfl (by kernel_rfl)]; go_simp; simp [M.env, k0, k1]) (M.kz_of (k := .val (.agg #[.int .i64 m, .slice ad T.length c])) (by rw [hKS]; kernel_rfl) rfl)
    · refine M.R.of rfl (by kernel_rfl) (.inr ⟨29, true, rfl, by decide, (by rw [hKS]; kernel_rfl), by kernel_rfl⟩) (fun Q listed a w h hd => ?_)
      have e0 : a.tmps.getD 82 undef = .agg #[.int .i64 m, .slice ad T.length c] := M.got h 30 (by decide) (.val (.agg #[.int .i64 m, .slice ad T.length c])) (by rw [hKS]; kernel_rfl) (hd 30 (by kernel_rfl))
      refine M.wp_call 20 #[.agg #[.int .i64 m, .slice ad T.length c]] rfl (by rw [M.run_env [(82, .agg #[.int .i64 m, .slice ad T.length c])] ⟨e0, trivial⟩ rfl (by kernel_rfl)]; kernel_rfl) ?_
      exact (KC1.out w h.below).mono fun e w' ⟨h1, h2⟩ => ⟨_, h1, M.kz_of (k := .val (.int .i64 vh)) (by rw [hKS]; kernel_rfl) rfl, h2⟩
    · refine M.R.of rfl (by kernel_rfl) (.inr ⟨29, true, rfl, by decide, (by rw [hKS]; kernel_rfl), by kernel_rfl⟩) (fun Q listed a w h hd => ?_)
      have b := h.base 7 (by intro j hj; unfold M.mmD; split <;> omega)
      replace b := b.trans s7
      have k0 := cell_stays h.below (Nat.le_refl _) q2
      have k1 := cell_stays h.below (Nat.le_refl _) q3
      exact M.wp_pure (.agg #[.int .i64 m, .slice ad T.length c]) rfl (by rw [M.run_env [(7, .pointer (some ⟨g7, 0, none⟩))] ⟨b, trivial⟩ rfl (by kernel_rfl)]; go_simp; simp [M.env, k0, k1]) (M.kz_of (k := .val (.agg #[.int .i64 m, .slice ad T.length c])) (by rw [hKS]; kernel_rfl) rfl)
    · refine M.R.of rfl (by kernel_rfl) (.inr ⟨29, true, rfl, by decide, (by rw [hKS]; kernel_rfl), by kernel_rfl⟩) (fun Q listed a w h hd => ?_)
      have e0 : a.tmps.getD 84 undef = .agg #[.int .i64 m, .slice ad T.length c] := M.got h 32 (by decide) (.val (.agg #[.int .i64 m, .slice ad T.length c])) (by rw [hKS]; kernel_rfl) (hd 32 (by kernel_rfl))
      refine M.wp_call 21 #[.agg #[.int .i64 m, .slice ad T.length c]] rfl (by rw [M.run_env [(84, .agg #[.int .i64 m, .slice ad T.length c])] ⟨e0, trivial⟩ rfl (by kernel_rfl)]; kernel_rfl) ?_
      exact (KC2.out w h.below).mono fun e w' ⟨h1, h2⟩ => ⟨_, h1, M.kz_of (k := .val (.int .i64 vh)) (by rw [hKS]; kernel_rfl) rfl, h2⟩
    · refine M.R.of rfl (by kernel_rfl) (.inr ⟨29, true, rfl, by decide, (by rw [hKS]; kernel_rfl), by kernel_rfl⟩) (fun Q listed a w h hd => ?_)
      have e1 : a.tmps.getD 83 undef = .int .i64 vh := M.got h 31 (by decide) (.val (.int .i64 vh)) (by rw [hKS]; kernel_rfl) (hd 31 (by kernel_rfl))
      have e2 : a.tmps.getD 85 undef = .int .i64 vh := M.got h 33 (by decide) (.val (.int .i64 vh)) (by rw [hKS]; kernel_rfl) (hd 33 (by kernel_rfl))
      exact M.wp_pure (.bool true) rfl (by rw [M.run_env [(83, .int .i64 vh), (85, .int .i64 vh)] ⟨e1, e2, trivial⟩ rfl (by kernel_rfl)]; have f0 : M.env [(83, .int .i64 vh), (85, .int .i64 vh)] (.tmp 83) = .int .i64 vh := rfl; have f1 : M.env [(83, .int .i64 vh), (85, .int .i64 vh)] (.tmp 85) = .int .i64 vh := rfl; simp only [execOp, f0, f1]; go_simp) (M.kz_of (k := .val (.bool true)) (by rw [hKS]; kernel_rfl) rfl)
    · refine M.R.of rfl (by kernel_rfl) (.inl rfl) (fun Q listed a w h hd => ?_)
      have e0 : a.tmps.getD 81 undef = .bool true := M.got h 29 (by decide) (.val (.bool true)) (by rw [hKS]; kernel_rfl) (hd 29 (by kernel_rfl))
      have e1 : a.tmps.getD 86 undef = .bool true := M.got h 34 (by decide) (.val (.bool true)) (by rw [hKS]; kernel_rfl) (hd 34 (by kernel_rfl))
      exact M.wp_pure (.bool true) rfl (by rw [M.run_env [(81, .bool true), (86, .bool true)] ⟨e0, e1, trivial⟩ rfl (by kernel_rfl)]; kernel_rfl) (M.kz_of (k := .val (.bool true)) (by rw [hKS]; kernel_rfl) rfl)
    · refine M.R.of rfl (by kernel_rfl) (.inl rfl) (fun Q listed a w h hd => ?_)
      exact M.wp_pure _ rfl rfl (M.kz_of (k := .val (.bool true)) (by rw [hKS]; kernel_rfl) (M.got h 35 (by decide) (.val (.bool true)) (by rw [hKS]; kernel_rfl) (hd 35 (by kernel_rfl))))
    · refine M.R.of rfl (by kernel_rfl) (.inr ⟨36, true, rfl, by decide, (by rw [hKS]; kernel_rfl), by kernel_rfl⟩) (fun Q listed a w h hd => ?_)
      refine M.wp_call 13 #[] rfl (by rw [M.run_env [] trivial rfl (by kernel_rfl)]; kernel_rfl) ?_
      exact (KWK.out w h.below).mono fun e w' ⟨h1, h2⟩ => ⟨_, h1, M.kz_of (k := .val (.bool true)) (by rw [hKS]; kernel_rfl) rfl, h2⟩
    · refine M.R.of rfl (by kernel_rfl) (.inl rfl) (fun Q listed a w h hd => ?_)
      have e0 : a.tmps.getD 88 undef = .bool true := M.got h 36 (by decide) (.val (.bool true)) (by rw [hKS]; kernel_rfl) (hd 36 (by kernel_rfl))
      have e1 : a.tmps.getD 89 undef = .bool true := M.got h 37 (by decide) (.val (.bool true)) (by rw [hKS]; kernel_rfl) (hd 37 (by kernel_rfl))
      exact M.wp_pure (.bool true) rfl (by rw [M.run_env [(88, .bool true), (89, .bool true)] ⟨e0, e1, trivial⟩ rfl (by kernel_rfl)]; kernel_rfl) (M.kz_of (k := .val (.bool true)) (by rw [hKS]; kernel_rfl) rfl)
    · refine M.R.of rfl (by kernel_rfl) (.inl rfl) (fun Q listed a w h hd => ?_)
      exact M.wp_pure _ rfl rfl (M.kz_of (k := .val (.bool true)) (by rw [hKS]; kernel_rfl) (M.got h 38 (by decide) (.val (.bool true)) (by rw [hKS]; kernel_rfl) (hd 38 (by kernel_rfl))))
  case refine_2 =>
    intro a' w' hd hb hbs hk
    have e0 : a'.tmps.getD 6 undef = .bool true := M.kz_val (by rw [hKS]; kernel_rfl) (hk 39 (by decide))
    have HBF := hid (HBE.out.trans (hb.mono HBE.out.size))
    obtain ⟨tmps, defers⟩ := a'
    go_wp2
    go_ret
    exact ⟨congrArg Ending.returned e0, HBF.out⟩
end Go.Proofs.YthnklabdjaiplaaDoor
