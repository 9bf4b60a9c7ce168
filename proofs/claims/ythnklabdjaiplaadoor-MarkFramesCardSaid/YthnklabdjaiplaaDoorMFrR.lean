/- Package tuscheref09: the walk of Frames. -/
import Derived.Test.YthnklabdjaiplaaDoorMFrP
import Derived.Test.YthnklabdjaiplaaDoorMCoa
import Derived.Test.YthnklabdjaiplaaDoorMKy
namespace Go.Proofs.YthnklabdjaiplaaDoor
open Go.RowKit

def M.frD (i : Nat) : Nat := 42 + i
theorem M.toI_in {N : Nat} {l : List Nat} (h : M.asc 0 N l) : ∀ i, i < (M.toI l).length → 0 ≤ (M.toI l).getD i 0 ∧ (M.toI l).getD i 0 < N := fun i hi => by
  have hi' : i < l.length := by rw [← M.toI_len]; exact hi
  have e : (M.toI l).getD i 0 = (l[i] : Int) := by
    unfold M.toI
    rw [List.getD_eq_getElem?_getD, List.getElem?_map, List.getElem?_eq_getElem hi']
    rfl
  have := M.asc_lt h l[i] (List.getElem_mem _)
  rw [e]
  omega

set_option maxHeartbeats 16000000 in
set_option maxRecDepth 100000 in
theorem refFrames_any (m : Int) (a : Option Addr) (c : Nat) (T : List (List Int)) (sz : Int) (w : World) (hm : T.length ≤ maxLen) (hml : ∀ i, i < T.length → (T.getD i []).length ≤ maxLen) (hT : RdM w a T) :
    Calls Tryd.prog 23 #[M.cv m a T.length c, .int .i64 sz] w (M.FE (M.fraV m T sz) w) := by
  obtain ⟨W, hW, c0, c1, hB, hlt⟩ := M.newT w 28 (.int .i64 m) (.slice a T.length c)
  have HB := hid hB
  have HT := hid (hT.stays hB)
  have HC := hid (refCheck_any m a c T W hm hml HT.out)
  unfold M.cv at *
  by_cases h0 : M.chk m T = 0
  · have HOK := hid (M.chk_zero.1 h0)
    rw [h0] at HC
    by_cases h1 : 1 ≤ sz ∧ sz ≤ 10
    · have HV : Hid (M.fraV m T sz = M.frR T (M.fra T sz.toNat)) := hid (by unfold M.fraV M.sz; rw [if_pos h0, if_pos h1, if_pos rfl])
      rw [HV.out]
      have HI := hid (fun W => is_b sz 1 10 true (decide_eq_true h1) W)
      have h10 := HOK.out.n10
      have hn1 := HOK.out.n1
      have hp8 := HOK.out.p8
      have HCO := hid (fun w' => coalitions_any m a c T sz w' h10)
      unfold M.cv at HCO
      have HSZ := hid h1
      obtain ⟨bT, oT, -, -, rfl, -⟩ := M.row0 HT.out (by omega)
      obtain ⟨R, hR⟩ : ∃ R, M.frR T (M.fra T sz.toNat) = R := ⟨_, rfl⟩
      rw [hR]
      have HRR := hid hR
      clear hB hT h0 hml h1 hR hm
      go_enter Tryd.func23, Tryd.ntmps23
      go_wp2_with fail
      rw [hW] at *
      go_wp2_with (first
        | (refine HC.out.mono ?_; rintro e w7 ⟨rfl, hb7⟩; have q0 := cell_stays hb7 (Nat.le_refl _) c0; have q1 := cell_stays hb7 (Nat.le_refl _) c1; replace hb7 := hid hb7)
        | (refine (HI.out _).mono ?_; rintro e w8 ⟨rfl, rfl⟩))
      refine (HCO.out _).mono ?_
      rintro e V ⟨v, xs, rfl, hsm, hxs, hbV⟩
      have r0 := cell_stays hbV (Nat.le_refl _) q0
      have r1 := cell_stays hbV (Nat.le_refl _) q1
      have HTV := hid (HT.out.stays (hb7.out.trans (hbV.mono hb7.out.size)))
      have HBV := hid (HB.out.trans ((hb7.out.trans (hbV.mono hb7.out.size)).mono HB.out.size))
      generalize hg2 : w.heap.size = g2 at *
      have HG2 := hid hg2
      clear hg2
      have HSM := hid hsm
      have HXS := hid hxs
      obtain ⟨aL, cL, rfl⟩ := hsm.len
      have HSRT : Hid ((xs.map (·.l)).Pairwise M.lex) := hid (by rw [hxs]; exact M.lxs_sorted _ _)
      have HASC : Hid (∀ x ∈ xs, 0 < x.l.length ∧ M.asc 0 T.length x.l ∧ x.l.length ≤ 10) := hid (fun x hx => by
        have h : x.l ∈ M.lxs T.length sz.toNat := by rw [← hxs]; exact List.mem_map_of_mem hx
        have h2 := M.mem_all.1 (M.mem_lxs.1 h)
        have := HSZ.out
        exact ⟨h2.1, h2.2.2, by omega⟩)
      have hx23 : xs.length ≤ 1023 := by
        have h : ((List.range 11).all fun a => (List.range 11).all fun b => decide ((M.lxs a b).length ≤ 1023)) = true := by kernel_rfl
        have h2 := List.all_eq_true.1 (List.all_eq_true.1 h T.length (List.mem_range.2 (by omega))) sz.toNat (List.mem_range.2 (by have := HSZ.out; omega))
        have h3 := congrArg List.length hxs
        rw [List.length_map] at h3
        rw [h3]
        simpa using h2
      clear hsm hxs hbV q0 q1 c0 c1
      generalize hN : T.length = N at *
      have HN := hid hN
      clear hN
      go_wp2
      go_loopw [8, 9, 11] (fun bv cu i wr => ∃ ix : Nat, ix ≤ xs.length ∧ i = .int .i64 ix ∧ ∃ (ab : Option Addr) (cb : Nat) (b : List Nat) (cn : Nat), bv = .slice ab b.length cb ∧ cu = .int .i64 cn ∧ RdI wr ab (M.toI b) ∧ M.St T ((xs.map (·.l)).take ix) b cn ∧ Below V.heap.size V wr) (fun _ _ i _ => xs.length - (intOf i).toNat)
      case atStart => exact ⟨0, Nat.zero_le _, rfl, none, 0, [], 0, rfl, rfl, fun _ h => absurd h (Nat.not_lt_zero _), ⟨fun _ => ⟨rfl, fun _ h => by simp at h⟩, fun h => absurd rfl h⟩, Below.refl _ _⟩
      case round => as_aux_lemma =>
        obtain ⟨ix, hix, rfl, ab, cb, b0, c0, rfl, rfl, hrd, hst, hb⟩ := hrel
        have HST := hid hst
        have HRD := hid hrd
        have HBR0 := hid hb
        have d0 := cell_stays hb (Nat.le_refl _) r0
        have d1 := cell_stays hb (Nat.le_refl _) r1
        generalize wr = wo at *
        by_cases hlt2 : ix < xs.length
        · obtain ⟨gL, cL', hform, -⟩ := HSM.out.form (by omega)
          simp only [Value.slice.injEq, true_and] at hform
          obtain ⟨rfl, rfl⟩ := hform
          obtain ⟨x, hx⟩ : ∃ x, xs.getD ix ⟨0, 0, []⟩ = x := ⟨_, rfl⟩
          have hxm : x ∈ xs := by
            rw [← hx, List.getD_eq_getElem?_getD, List.getElem?_eq_getElem hlt2]
            exact List.getElem_mem _
          have hcx := HSM.out.at hlt2
          rw [hx] at hcx
          have HXE : Hid (M.enc1 x = .slice (some ⟨x.g, 0, none⟩) x.l.length x.cap) := hid rfl
          rw [HXE.out] at hcx
          have HXA := hid (HASC.out x hxm)
          have HXRV := hid ((HSM.out.rc x hxm).1.rdI)
          have HTK : Hid ((xs.map (·.l)).take (ix + 1) = (xs.map (·.l)).take ix ++ [x.l]) := hid (by
            rw [List.take_succ_eq_append_getElem (by simpa using hlt2)]
            congr 1
            rw [List.getElem_map, ← hx, List.getD_eq_getElem?_getD, List.getElem?_eq_getElem hlt2]
            rfl)
          have HPL : Hid (∀ y ∈ (xs.map (·.l)).take ix, M.lex y x.l) := hid (fun y hy => by
            have h := HSRT.out
            rw [← List.take_append_drop (ix + 1) (xs.map (·.l)), HTK.out, List.pairwise_append, List.pairwise_append] at h
            exact h.1.2.2 y hy x.l (by simp))
          have hxl := HXA.out.2.2
          generalize hcc : x.l = cc at *
          generalize x.g = xg at *
          generalize x.cap = xc at *
          have HCX := hid hcx
          clear hx hxm hrd hst hb hcc
          generalize hxn : cc.length = xn at *
          have HXN := hid hxn
          clear hxn
          go_wp2
          go_loopw [8, 9, 12] (fun bv cu i wr => ∃ j : Nat, j ≤ N ∧ i = .int .i64 ((j : Int) - 1) ∧ ∃ (ab : Option Addr) (cb : Nat) (b : List Nat) (cn : Nat), bv = .slice ab b.length cb ∧ cu = .int .i64 cn ∧ RdI wr ab (M.toI b) ∧ M.Mid T cc b0 c0 j b cn ∧ Below V.heap.size V wr) (fun _ _ i _ => (intOf i + 1).toNat)
          case atStart => exact ⟨N, Nat.le_refl _, by go_num, ab, cb, b0, c0, rfl, rfl, HRD.out, by rw [← HN.out]; exact M.Mid.start _ _ _ _, HBR0.out⟩
          case round => as_aux_lemma =>
            obtain ⟨j, hj, rfl, ab, cb, b, cn, rfl, rfl, hrd, hmid, hb⟩ := hrel
            have HRB := hid hrd
            have HBN0 := hid hb
            have HMID0 := hid hmid
            have f0 := cell_stays hb (Nat.le_refl _) r0
            have f1 := cell_stays hb (Nat.le_refl _) r1
            clear hrd hb hmid
            by_cases hj0 : j = 0
            · subst hj0
              have HSTEP := hid (HST.out.step HPL.out (by rw [HXN.out]; exact HXA.out.1) HMID0.out)
              have hneg : ((0 : Nat) : Int) - 1 = -1 := rfl
              rw [hneg]
              go_wp2
              refine ⟨⟨ix + 1, by omega, by go_num, ab, cb, b, cn, rfl, rfl, HRB.out, by rw [HTK.out]; exact HSTEP.out, HBN0.out⟩, by simp [intOf]; omega⟩
            · obtain ⟨q, hjq⟩ : ∃ q, j = q + 1 := ⟨j - 1, by omega⟩
              subst hjq
              have hq1 : (((q + 1 : Nat) : Int) - 1) = (q : Int) := by omega
              rw [hq1]
              have HQN : Hid (q < T.length) := hid (by rw [HN.out]; omega)
              have HMID := hid HMID0.out
              obtain ⟨bT', oT', rq, cq, heT, hcq, hrq⟩ := M.row HTV.out (show q < T.length from HQN.out)
              simp only [Option.some.injEq, Addr.mk.injEq, and_true] at heT
              obtain ⟨rfl, rfl⟩ := heT
              have hlq := HOK.out.len q HQN.out
              rw [hlq] at hcq
              have hkq : (0 : Int) ≤ (q : Int) ∧ (q : Int) < (N : Int) := by omega
              have hkx : (0 : Int) ≤ (ix : Int) ∧ (ix : Int) < (xs.length : Int) := by omega
              have HMKK : Hid (M.Mk T (M.toI cc) (T.getD q [])) := hid ⟨by rw [HN.out]; omega, HOK.out.len, by rw [M.toI_len, HXN.out]; unfold maxLen; omega, fun i hi => by
                have h := M.toI_in HXA.out.2.1 i hi
                rw [HN.out]
                exact h, hlq, by omega⟩
              obtain ⟨b1, hb1⟩ : ∃ b1, decide ((q : Int) ∈ M.toI cc) = b1 := ⟨_, rfl⟩
              obtain ⟨b2, hb2⟩ : ∃ b2, M.can T (M.toI cc) (T.getD q []) = b2 := ⟨_, rfl⟩
              obtain ⟨b5, hb5⟩ : ∃ b5, M.bef (M.toI b) (M.toI cc) = b5 := ⟨_, rfl⟩
              have HFR : Hid (M.frp T cc q = (!b1 && b2)) := hid (by unfold M.frp; rw [hb1, hb2])
              have HLX : Hid (b5 = true ↔ M.lex b cc) := hid (by rw [← hb5]; exact M.bef_lex b cc)
              have HBL : Hid (b.length ≤ 10) := hid (by
                rcases HMID.out with ⟨rfl, _, _⟩ | ⟨_, rfl, _⟩
                · by_cases e : b = []
                  · rw [e]; simp
                  · have h := (HST.out.ss e).1
                    obtain ⟨y, hy, hyb⟩ := List.mem_map.1 (List.mem_of_mem_take h)
                    have := (HASC.out y hy).2.2
                    rw [← hyb]; exact this
                · rw [HXN.out]; exact HXA.out.2.2)
              have hbl := HBL.out
              have HCL : Hid (∀ W', Hid (Below wr.heap.size wr W') → (W'.cell? ⟨g2, 0, none⟩ = some (.int .i64 m) ∧ W'.cell? ⟨g2, 1, none⟩ = some (.slice (some ⟨bT, oT, none⟩) N c) ∧ W'.cell? ⟨gL, ix, none⟩ = some (.slice (some ⟨xg, 0, none⟩) xn xc) ∧ W'.cell? ⟨bT, oT + q, none⟩ = some (.slice rq (M.pl T) cq))) := hid (fun W' h =>
                have hV : Below V.heap.size V W' := HBN0.out.trans (h.out.mono HBN0.out.size)
                ⟨cell_stays hV (Nat.le_refl _) r0, cell_stays hV (Nat.le_refl _) r1, cell_stays hV (Nat.le_refl _) HCX.out, cell_stays hV (Nat.le_refl _) hcq⟩)
              have HIN3 := hid (fun W' (h : Hid (Below wr.heap.size wr W')) => (in_any (some ⟨xg, 0, none⟩) xc (M.toI cc) (q : Int) W' (by rw [M.toI_len, HXN.out]; unfold maxLen; omega) (HXRV.out.stays (HBN0.out.trans (h.out.mono HBN0.out.size)))).mono (fun e w' he => (⟨he.1, by rw [he.2]; exact Below.refl _ _⟩ : e = .returned (.bool (decide ((q : Int) ∈ M.toI cc))) ∧ Below W'.heap.size W' w')))
              have HMK := hid (fun W' (h : Hid (Below wr.heap.size wr W')) => (makes_any m (some ⟨bT, oT, none⟩) c T (some ⟨xg, 0, none⟩) xc (M.toI cc) rq cq (T.getD q []) W' HMKK.out (HTV.out.stays (HBN0.out.trans (h.out.mono HBN0.out.size))) (HXRV.out.stays (HBN0.out.trans (h.out.mono HBN0.out.size))) (hrq.stays (HBN0.out.trans (h.out.mono HBN0.out.size)))).mono (fun e w' he => (⟨he.1, he.2⟩ : e = .returned (.bool (M.can T (M.toI cc) (T.getD q []))) ∧ Below W'.heap.size W' w')))
              have HBE := hid (fun W' (h : Hid (Below wr.heap.size wr W')) => (before_any ab (some ⟨xg, 0, none⟩) cb xc (M.toI b) (M.toI cc) W' (by rw [M.toI_len]; unfold maxLen; omega) (by rw [M.toI_len, HXN.out]; unfold maxLen; omega) (HRB.out.stays h.out) (HXRV.out.stays (HBN0.out.trans (h.out.mono HBN0.out.size)))).mono (fun e w' he => (⟨he.1, by obtain ⟨n, hn⟩ := he.2; rw [hn]; exact below_drewN (Below.refl _ _) n⟩ : e = .returned (.bool (M.bef (M.toI b) (M.toI cc))) ∧ Below W'.heap.size W' w')))
              simp only [M.toI_len, HXN.out, HN.out, hlq, hb1, hb2, hb5] at HIN3 HMK HBE
              unfold M.cv at HMK
              have HFIN : Hid (∀ W', Hid (Below wr.heap.size wr W') → Below V.heap.size V W') := hid (fun W' h => HBN0.out.trans (h.out.mono HBN0.out.size))
              have HXR : Hid (∀ W', Hid (Below wr.heap.size wr W') → RdI W' (some ⟨xg, 0, none⟩) (M.toI cc)) := hid (fun W' h => HXRV.out.stays (HBN0.out.trans (h.out.mono HBN0.out.size)))
              have HBR : Hid (∀ W', Hid (Below wr.heap.size wr W') → RdI W' ab (M.toI b)) := hid (fun W' h => HRB.out.stays h.out)
              have HCL0 : Hid (0 < cc.length) := hid (by rw [HXN.out]; exact HXA.out.1)
              generalize hpl : M.pl T = pl at *
              have hd0 : Hid (Below wr.heap.size wr wr.drew) := hid (Below.refl _ _).drew
              have HEL : Hid (M.elig b cc ↔ (b.length = 0 ∨ xn < b.length ∨ b5 = false)) := hid (by
                unfold M.elig
                rw [HXN.out, ← HLX.out]
                cases b5 <;> simp)
              clear hb1 hb2 hb5 hcq hrq hlq hpl r0 r1 hj0
              obtain ⟨bn, hbn⟩ : ∃ bn, b.length = bn := ⟨_, rfl⟩
              have HBN := hid hbn
              rw [hbn] at hbl HBE HEL ⊢
              clear hbn HBL
              have HCL2 := hid (fun (W' : World) (h : Below wr.drew.heap.size wr.drew W') => HCL.out W' (hid (hd0.out.trans (h.mono hd0.out.size))))
              have HIN2 := hid (fun (W' : World) (h : Below wr.drew.heap.size wr.drew W') => HIN3.out W' (hid (hd0.out.trans (h.mono hd0.out.size))))
              have HMK2 := hid (fun (W' : World) (h : Below wr.drew.heap.size wr.drew W') => HMK.out W' (hid (hd0.out.trans (h.mono hd0.out.size))))
              have HBE2 := hid (fun (W' : World) (h : Below wr.drew.heap.size wr.drew W') => HBE.out W' (hid (hd0.out.trans (h.mono hd0.out.size))))
              have HFIN2 := hid (fun (W' : World) (h : Below wr.drew.heap.size wr.drew W') => HFIN.out W' (hid (hd0.out.trans (h.mono hd0.out.size))))
              have HXR2 := hid (fun (W' : World) (h : Below wr.drew.heap.size wr.drew W') => HXR.out W' (hid (hd0.out.trans (h.mono hd0.out.size))))
              have HBR2 := hid (fun (W' : World) (h : Below wr.drew.heap.size wr.drew W') => HBR.out W' (hid (hd0.out.trans (h.mono hd0.out.size))))
              clear HCL HIN3 HMK HBE HFIN HXR HBR hd0
              cases b1 with
              | true =>
                go_wp2_with fail
                obtain ⟨KS, hKS⟩ : ∃ KS : List M.Ky, KS = [.val (.slice (some ⟨gL, 0, none⟩) xs.length cL), .val (.int .i64 (ix : Int)), .val (.pointer (some ⟨gL, ix, none⟩)), .val (.slice (some ⟨xg, 0, none⟩) xn xc), .val (.int .i64 (q : Int)), .val (.bool true), .val (.bool false), .val (.bool false), .val (undef), .val (undef), .val (undef), .val (undef), .val (undef), .val (undef), .val (undef), .val (undef), .val (undef), .val (undef), .val (undef), .val (.bool false), .val (.bool false), .val (undef), .val (undef), .val (undef), .val (undef), .val (undef), .val (undef), .val (undef), .val (undef), .val (undef), .val (undef), .val (undef), .val (undef), .val (undef), .val (undef), .val (undef), .val (undef), .val (undef), .val (undef), .val (undef), .val (undef), .val (undef), .val (undef), .val (.bool false)] := ⟨_, rfl⟩
                refine M.region_inv2 44 96 M.frD (M.kz KS) (by kernel_rfl) rfl rfl (fun _ _ _ _ hb h => M.Ky.Holds.stays hb h) (fun i j _ _ h => by unfold M.frD at h; omega) (fun i hi => by unfold M.frD; omega) ?_ ?_
                case refine_1 =>
                  intro T0 hT
                  have s2 : T0 2 = .pointer (some ⟨g2, 0, none⟩) := (hT 2).symm
                  have s8 : T0 8 = .slice ab bn cb := (hT 8).symm
                  have s10 : T0 10 = .slice (some ⟨gL, 0, none⟩) xs.length cL := (hT 10).symm
                  have s11 : T0 11 = .int .i64 (ix : Int) := (hT 11).symm
                  have s12 : T0 12 = .int .i64 (q : Int) := (hT 12).symm
                  clear hT
                  refine And.intro ?_ (And.intro ?_ (And.intro ?_ (And.intro ?_ (And.intro ?_ (And.intro ?_ (And.intro ?_ (And.intro ?_ (And.intro ?_ (And.intro ?_ (And.intro ?_ (And.intro ?_ (And.intro ?_ (And.intro ?_ (And.intro ?_ (And.intro ?_ (And.intro ?_ (And.intro ?_ (And.intro ?_ (And.intro ?_ (And.intro ?_ (And.intro ?_ (And.intro ?_ (And.intro ?_ (And.intro ?_ (And.intro ?_ (And.intro ?_ (And.intro ?_ (And.intro ?_ (And.intro ?_ (And.intro ?_ (And.intro ?_ (And.intro ?_ (And.intro ?_ (And.intro ?_ (And.intro ?_ (And.intro ?_ (And.intro ?_ (And.intro ?_ (And.intro ?_ (And.intro ?_ (And.intro ?_ (And.intro ?_ (And.intro ?_ (trivial))))))))))))))))))))))))))))))))))))))))))))
                  · refine M.R.of rfl (by kernel_rfl) (.inl rfl) (fun Q listed a w h hd => ?_)
                    have z10 : a.tmps.getD 10 undef = .slice (some ⟨gL, 0, none⟩) xs.length cL := (h.base 10 (by intro j hj; unfold M.frD; omega)).trans s10
                    exact M.wp_pure (.slice (some ⟨gL, 0, none⟩) xs.length cL) rfl (by rw [M.run_env [(10, .slice (some ⟨gL, 0, none⟩) xs.length cL)] ⟨z10, trivial⟩ rfl (by kernel_rfl)]; kernel_rfl) (M.kz_of (k := .val (.slice (some ⟨gL, 0, none⟩) xs.length cL)) (by rw [hKS]; kernel_rfl) rfl)
                  · refine M.R.of rfl (by kernel_rfl) (.inl rfl) (fun Q listed a w h hd => ?_)
                    have z11 : a.tmps.getD 11 undef = .int .i64 (ix : Int) := (h.base 11 (by intro j hj; unfold M.frD; omega)).trans s11
                    exact M.wp_pure (.int .i64 (ix : Int)) rfl (by rw [M.run_env [(11, .int .i64 (ix : Int))] ⟨z11, trivial⟩ rfl (by kernel_rfl)]; kernel_rfl) (M.kz_of (k := .val (.int .i64 (ix : Int))) (by rw [hKS]; kernel_rfl) rfl)
                  · refine M.R.of rfl (by kernel_rfl) (.inl rfl) (fun Q listed a w h hd => ?_)
                    have z42 : a.tmps.getD 42 undef = .slice (some ⟨gL, 0, none⟩) xs.length cL := M.kz_val (by rw [hKS]; kernel_rfl) (h.done 0 (by decide) (hd 0 (by kernel_rfl)))
                    have z43 : a.tmps.getD 43 undef = .int .i64 (ix : Int) := M.kz_val (by rw [hKS]; kernel_rfl) (h.done 1 (by decide) (hd 1 (by kernel_rfl)))
                    exact M.wp_pure (.pointer (some ⟨gL, ix, none⟩)) rfl (by rw [M.run_env [(42, .slice (some ⟨gL, 0, none⟩) xs.length cL), (43, .int .i64 (ix : Int))] ⟨z42, z43, trivial⟩ rfl (by kernel_rfl)]; have f0 : M.env [(42, .slice (some ⟨gL, 0, none⟩) xs.length cL), (43, .int .i64 (ix : Int))] (.tmp 42) = .slice (some ⟨gL, 0, none⟩) xs.length cL := rfl; have f1 : M.env [(42, .slice (some ⟨gL, 0, none⟩) xs.length cL), (43, .int .i64 (ix : Int))] (.tmp 43) = .int .i64 (ix : Int) := rfl; simp only [execOp, f0, f1]; go_simp) (M.kz_of (k := .val (.pointer (some ⟨gL, ix, none⟩))) (by rw [hKS]; kernel_rfl) rfl)
                  · refine M.R.of rfl (by kernel_rfl) (.inl rfl) (fun Q listed a w h hd => ?_)
                    have z44 : a.tmps.getD 44 undef = .pointer (some ⟨gL, ix, none⟩) := M.kz_val (by rw [hKS]; kernel_rfl) (h.done 2 (by decide) (hd 2 (by kernel_rfl)))
                    have k2 := (HCL2.out w h.below).2.2.1
                    exact M.wp_pure (.slice (some ⟨xg, 0, none⟩) xn xc) rfl (by rw [M.run_env [(44, .pointer (some ⟨gL, ix, none⟩))] ⟨z44, trivial⟩ rfl (by kernel_rfl)]; go_simp; simp [M.env, k2]) (M.kz_of (k := .val (.slice (some ⟨xg, 0, none⟩) xn xc)) (by rw [hKS]; kernel_rfl) rfl)
                  · refine M.R.of rfl (by kernel_rfl) (.inl rfl) (fun Q listed a w h hd => ?_)
                    have z12 : a.tmps.getD 12 undef = .int .i64 (q : Int) := (h.base 12 (by intro j hj; unfold M.frD; omega)).trans s12
                    exact M.wp_pure (.int .i64 (q : Int)) rfl (by rw [M.run_env [(12, .int .i64 (q : Int))] ⟨z12, trivial⟩ rfl (by kernel_rfl)]; kernel_rfl) (M.kz_of (k := .val (.int .i64 (q : Int))) (by rw [hKS]; kernel_rfl) rfl)
                  · refine M.R.of rfl (by kernel_rfl) (.inl rfl) (fun Q listed a w h hd => ?_)
                    have z45 : a.tmps.getD 45 undef = .slice (some ⟨xg, 0, none⟩) xn xc := M.kz_val (by rw [hKS]; kernel_rfl) (h.done 3 (by decide) (hd 3 (by kernel_rfl)))
                    have z46 : a.tmps.getD 46 undef = .int .i64 (q : Int) := M.kz_val (by rw [hKS]; kernel_rfl) (h.done 4 (by decide) (hd 4 (by kernel_rfl)))
                    refine M.wp_call 58 #[.slice (some ⟨xg, 0, none⟩) xn xc, .int .i64 (q : Int)] rfl (by rw [M.run_env [(45, .slice (some ⟨xg, 0, none⟩) xn xc), (46, .int .i64 (q : Int))] ⟨z45, z46, trivial⟩ rfl (by kernel_rfl)]; kernel_rfl) ?_
                    exact (HIN2.out w h.below).mono fun e w' ⟨h1, h2⟩ => ⟨_, h1, M.kz_of (k := .val (.bool true)) (by rw [hKS]; kernel_rfl) rfl, h2⟩
                  · refine M.R.of rfl (by kernel_rfl) (.inl rfl) (fun Q listed a w h hd => ?_)
                    have z47 : a.tmps.getD 47 undef = .bool true := M.kz_val (by rw [hKS]; kernel_rfl) (h.done 5 (by decide) (hd 5 (by kernel_rfl)))
                    exact M.wp_pure (.bool false) rfl (by rw [M.run_env [(47, .bool true)] ⟨z47, trivial⟩ rfl (by kernel_rfl)]; kernel_rfl) (M.kz_of (k := .val (.bool false)) (by rw [hKS]; kernel_rfl) rfl)
                  · refine M.R.of rfl (by kernel_rfl) (.inl rfl) (fun Q listed a w h hd => ?_)
                    have z48 : a.tmps.getD 48 undef = .bool false := M.kz_val (by rw [hKS]; kernel_rfl) (h.done 6 (by decide) (hd 6 (by kernel_rfl)))
                    exact M.wp_pure (.bool false) rfl (by rw [M.run_env [(48, .bool false)] ⟨z48, trivial⟩ rfl (by kernel_rfl)]; kernel_rfl) (M.kz_of (k := .val (.bool false)) (by rw [hKS]; kernel_rfl) rfl)
                  · exact M.R.skip rfl (by kernel_rfl) 7 true rfl (by decide) (u := .bool false) (by rw [hKS]; kernel_rfl) (by intro h; cases h) (by kernel_rfl) (by rw [hKS]; kernel_rfl)
                  · exact M.R.skip rfl (by kernel_rfl) 7 true rfl (by decide) (u := .bool false) (by rw [hKS]; kernel_rfl) (by intro h; cases h) (by kernel_rfl) (by rw [hKS]; kernel_rfl)
                  · exact M.R.skip rfl (by kernel_rfl) 7 true rfl (by decide) (u := .bool false) (by rw [hKS]; kernel_rfl) (by intro h; cases h) (by kernel_rfl) (by rw [hKS]; kernel_rfl)
                  · exact M.R.skip rfl (by kernel_rfl) 7 true rfl (by decide) (u := .bool false) (by rw [hKS]; kernel_rfl) (by intro h; cases h) (by kernel_rfl) (by rw [hKS]; kernel_rfl)
                  · exact M.R.skip rfl (by kernel_rfl) 7 true rfl (by decide) (u := .bool false) (by rw [hKS]; kernel_rfl) (by intro h; cases h) (by kernel_rfl) (by rw [hKS]; kernel_rfl)
                  · exact M.R.skip rfl (by kernel_rfl) 7 true rfl (by decide) (u := .bool false) (by rw [hKS]; kernel_rfl) (by intro h; cases h) (by kernel_rfl) (by rw [hKS]; kernel_rfl)
                  · exact M.R.skip rfl (by kernel_rfl) 7 true rfl (by decide) (u := .bool false) (by rw [hKS]; kernel_rfl) (by intro h; cases h) (by kernel_rfl) (by rw [hKS]; kernel_rfl)
                  · exact M.R.skip rfl (by kernel_rfl) 7 true rfl (by decide) (u := .bool false) (by rw [hKS]; kernel_rfl) (by intro h; cases h) (by kernel_rfl) (by rw [hKS]; kernel_rfl)
                  · exact M.R.skip rfl (by kernel_rfl) 7 true rfl (by decide) (u := .bool false) (by rw [hKS]; kernel_rfl) (by intro h; cases h) (by kernel_rfl) (by rw [hKS]; kernel_rfl)
                  · exact M.R.skip rfl (by kernel_rfl) 7 true rfl (by decide) (u := .bool false) (by rw [hKS]; kernel_rfl) (by intro h; cases h) (by kernel_rfl) (by rw [hKS]; kernel_rfl)
                  · exact M.R.skip rfl (by kernel_rfl) 7 true rfl (by decide) (u := .bool false) (by rw [hKS]; kernel_rfl) (by intro h; cases h) (by kernel_rfl) (by rw [hKS]; kernel_rfl)
                  · refine M.R.of rfl (by kernel_rfl) (.inl rfl) (fun Q listed a w h hd => ?_)
                    have z49 : a.tmps.getD 49 undef = .bool false := M.kz_val (by rw [hKS]; kernel_rfl) (h.done 7 (by decide) (hd 7 (by kernel_rfl)))
                    have z60 : a.tmps.getD 60 undef = undef := M.kz_val (by rw [hKS]; kernel_rfl) (h.done 18 (by decide) (hd 18 (by kernel_rfl)))
                    exact M.wp_pure (.bool false) rfl (by rw [M.run_env [(49, .bool false), (60, undef)] ⟨z49, z60, trivial⟩ rfl (by kernel_rfl)]; kernel_rfl) (M.kz_of (k := .val (.bool false)) (by rw [hKS]; kernel_rfl) rfl)
                  · refine M.R.of rfl (by kernel_rfl) (.inl rfl) (fun Q listed a w h hd => ?_)
                    have z61 : a.tmps.getD 61 undef = .bool false := M.kz_val (by rw [hKS]; kernel_rfl) (h.done 19 (by decide) (hd 19 (by kernel_rfl)))
                    exact M.wp_pure (.bool false) rfl (by rw [M.run_env [(61, .bool false)] ⟨z61, trivial⟩ rfl (by kernel_rfl)]; kernel_rfl) (M.kz_of (k := .val (.bool false)) (by rw [hKS]; kernel_rfl) rfl)
                  · exact M.R.skip rfl (by kernel_rfl) 20 true rfl (by decide) (u := .bool false) (by rw [hKS]; kernel_rfl) (by intro h; cases h) (by kernel_rfl) (by rw [hKS]; kernel_rfl)
                  · exact M.R.skip rfl (by kernel_rfl) 20 true rfl (by decide) (u := .bool false) (by rw [hKS]; kernel_rfl) (by intro h; cases h) (by kernel_rfl) (by rw [hKS]; kernel_rfl)
                  · exact M.R.skip rfl (by kernel_rfl) 20 true rfl (by decide) (u := .bool false) (by rw [hKS]; kernel_rfl) (by intro h; cases h) (by kernel_rfl) (by rw [hKS]; kernel_rfl)
                  · exact M.R.skip rfl (by kernel_rfl) 20 true rfl (by decide) (u := .bool false) (by rw [hKS]; kernel_rfl) (by intro h; cases h) (by kernel_rfl) (by rw [hKS]; kernel_rfl)
                  · exact M.R.skip rfl (by kernel_rfl) 24 false rfl (by decide) (u := undef) (by rw [hKS]; kernel_rfl) (by intro h; cases h) (by kernel_rfl) (by rw [hKS]; kernel_rfl)
                  · exact M.R.skip rfl (by kernel_rfl) 24 false rfl (by decide) (u := undef) (by rw [hKS]; kernel_rfl) (by intro h; cases h) (by kernel_rfl) (by rw [hKS]; kernel_rfl)
                  · exact M.R.skip rfl (by kernel_rfl) 24 false rfl (by decide) (u := undef) (by rw [hKS]; kernel_rfl) (by intro h; cases h) (by kernel_rfl) (by rw [hKS]; kernel_rfl)
                  · exact M.R.skip rfl (by kernel_rfl) 24 false rfl (by decide) (u := undef) (by rw [hKS]; kernel_rfl) (by intro h; cases h) (by kernel_rfl) (by rw [hKS]; kernel_rfl)
                  · exact M.R.skip rfl (by kernel_rfl) 24 false rfl (by decide) (u := undef) (by rw [hKS]; kernel_rfl) (by intro h; cases h) (by kernel_rfl) (by rw [hKS]; kernel_rfl)
                  · exact M.R.skip rfl (by kernel_rfl) 24 false rfl (by decide) (u := undef) (by rw [hKS]; kernel_rfl) (by intro h; cases h) (by kernel_rfl) (by rw [hKS]; kernel_rfl)
                  · exact M.R.skip rfl (by kernel_rfl) 24 false rfl (by decide) (u := undef) (by rw [hKS]; kernel_rfl) (by intro h; cases h) (by kernel_rfl) (by rw [hKS]; kernel_rfl)
                  · exact M.R.skip rfl (by kernel_rfl) 24 false rfl (by decide) (u := undef) (by rw [hKS]; kernel_rfl) (by intro h; cases h) (by kernel_rfl) (by rw [hKS]; kernel_rfl)
                  · exact M.R.skip rfl (by kernel_rfl) 20 true rfl (by decide) (u := .bool false) (by rw [hKS]; kernel_rfl) (by intro h; cases h) (by kernel_rfl) (by rw [hKS]; kernel_rfl)
                  · exact M.R.skip rfl (by kernel_rfl) 20 true rfl (by decide) (u := .bool false) (by rw [hKS]; kernel_rfl) (by intro h; cases h) (by kernel_rfl) (by rw [hKS]; kernel_rfl)
                  · exact M.R.skip rfl (by kernel_rfl) 34 false rfl (by decide) (u := undef) (by rw [hKS]; kernel_rfl) (by intro h; cases h) (by kernel_rfl) (by rw [hKS]; kernel_rfl)
                  · exact M.R.skip rfl (by kernel_rfl) 34 false rfl (by decide) (u := undef) (by rw [hKS]; kernel_rfl) (by intro h; cases h) (by kernel_rfl) (by rw [hKS]; kernel_rfl)
                  · exact M.R.skip rfl (by kernel_rfl) 34 false rfl (by decide) (u := undef) (by rw [hKS]; kernel_rfl) (by intro h; cases h) (by kernel_rfl) (by rw [hKS]; kernel_rfl)
                  · exact M.R.skip rfl (by kernel_rfl) 34 false rfl (by decide) (u := undef) (by rw [hKS]; kernel_rfl) (by intro h; cases h) (by kernel_rfl) (by rw [hKS]; kernel_rfl)
                  · exact M.R.skip rfl (by kernel_rfl) 34 false rfl (by decide) (u := undef) (by rw [hKS]; kernel_rfl) (by intro h; cases h) (by kernel_rfl) (by rw [hKS]; kernel_rfl)
                  · exact M.R.skip rfl (by kernel_rfl) 34 false rfl (by decide) (u := undef) (by rw [hKS]; kernel_rfl) (by intro h; cases h) (by kernel_rfl) (by rw [hKS]; kernel_rfl)
                  · exact M.R.skip rfl (by kernel_rfl) 34 false rfl (by decide) (u := undef) (by rw [hKS]; kernel_rfl) (by intro h; cases h) (by kernel_rfl) (by rw [hKS]; kernel_rfl)
                  · exact M.R.skip rfl (by kernel_rfl) 20 true rfl (by decide) (u := .bool false) (by rw [hKS]; kernel_rfl) (by intro h; cases h) (by kernel_rfl) (by rw [hKS]; kernel_rfl)
                  · refine M.R.of rfl (by kernel_rfl) (.inl rfl) (fun Q listed a w h hd => ?_)
                    have z62 : a.tmps.getD 62 undef = .bool false := M.kz_val (by rw [hKS]; kernel_rfl) (h.done 20 (by decide) (hd 20 (by kernel_rfl)))
                    have z84 : a.tmps.getD 84 undef = undef := M.kz_val (by rw [hKS]; kernel_rfl) (h.done 42 (by decide) (hd 42 (by kernel_rfl)))
                    exact M.wp_pure (.bool false) rfl (by rw [M.run_env [(62, .bool false), (84, undef)] ⟨z62, z84, trivial⟩ rfl (by kernel_rfl)]; kernel_rfl) (M.kz_of (k := .val (.bool false)) (by rw [hKS]; kernel_rfl) rfl)
                case refine_2 =>
                  intro a' w' hsz hd hb hbs hk
                  have e43 : a'.tmps.getD (42 + 43) undef = .bool false := M.kz_val (by rw [hKS]; kernel_rfl) (hk 43 (by decide))
                  obtain ⟨tmps, defers⟩ := a'
                  dsimp only at hsz
                  have hfr := M.frame (lo := 42) (n := 44) (A := tmps) (hb := fun s h => hbs s (fun j hj e => by unfold M.frD at e; omega)) (hs := by exact hsz) (hn := by show 86 ≤ 96; decide)
                  dsimp only at hfr e43 hd
                  obtain ⟨u, hu⟩ : ∃ u : Nat → Value, ∀ i, tmps.getD (42 + i) undef = u i := ⟨_, fun _ => rfl⟩
                  simp only [hu] at hfr e43
                  clear hu hk hbs hsz hKS
                  subst hfr
                  subst hd
                  simp only [List.take_succ_cons, List.take_zero, List.drop_succ_cons, List.drop_zero, List.range, List.range.loop, List.map_cons, List.map_nil, List.cons_append, List.nil_append, e43]
                  have HBW := hid (HFIN2.out w' hb)
                  have HRX := hid (HXR2.out w' hb)
                  have HRB2 := hid (HBR2.out w' hb)
                  go_wp2
                  go_roundw
                  case rel => exact ⟨q, by omega, by go_num, ab, cb, b, cn, by rw [HBN.out], rfl, HRB2.out, HMID.out.miss HCL0.out (.inl (by rw [HFR.out]; rfl)), HBW.out⟩
                  case measure => simp [intOf]
              | false =>
                cases b2 with
                | false =>
                  go_wp2_with fail
                  obtain ⟨KS, hKS⟩ : ∃ KS : List M.Ky, KS = [.val (.slice (some ⟨gL, 0, none⟩) xs.length cL), .val (.int .i64 (ix : Int)), .val (.pointer (some ⟨gL, ix, none⟩)), .val (.slice (some ⟨xg, 0, none⟩) xn xc), .val (.int .i64 (q : Int)), .val (.bool false), .val (.bool true), .val (.bool true), .val (.agg #[.int .i64 m, .slice (some ⟨bT, oT, none⟩) N c]), .val (.slice (some ⟨gL, 0, none⟩) xs.length cL), .val (.int .i64 (ix : Int)), .val (.pointer (some ⟨gL, ix, none⟩)), .val (.slice (some ⟨xg, 0, none⟩) xn xc), .val (.pointer (some ⟨g2, 1, none⟩)), .val (.slice (some ⟨bT, oT, none⟩) N c), .val (.int .i64 (q : Int)), .val (.pointer (some ⟨bT, oT + q, none⟩)), .val (.slice rq pl cq), .val (.bool false), .val (.bool false), .val (.bool false), .val (undef), .val (undef), .val (undef), .val (undef), .val (undef), .val (undef), .val (undef), .val (undef), .val (undef), .val (undef), .val (undef), .val (undef), .val (undef), .val (undef), .val (undef), .val (undef), .val (undef), .val (undef), .val (undef), .val (undef), .val (undef), .val (undef), .val (.bool false)] := ⟨_, rfl⟩
                  refine M.region_inv2 44 96 M.frD (M.kz KS) (by kernel_rfl) rfl rfl (fun _ _ _ _ hb h => M.Ky.Holds.stays hb h) (fun i j _ _ h => by unfold M.frD at h; omega) (fun i hi => by unfold M.frD; omega) ?_ ?_
                  case refine_1 =>
                    intro T0 hT
                    have s2 : T0 2 = .pointer (some ⟨g2, 0, none⟩) := (hT 2).symm
                    have s8 : T0 8 = .slice ab bn cb := (hT 8).symm
                    have s10 : T0 10 = .slice (some ⟨gL, 0, none⟩) xs.length cL := (hT 10).symm
                    have s11 : T0 11 = .int .i64 (ix : Int) := (hT 11).symm
                    have s12 : T0 12 = .int .i64 (q : Int) := (hT 12).symm
                    clear hT
                    refine And.intro ?_ (And.intro ?_ (And.intro ?_ (And.intro ?_ (And.intro ?_ (And.intro ?_ (And.intro ?_ (And.intro ?_ (And.intro ?_ (And.intro ?_ (And.intro ?_ (And.intro ?_ (And.intro ?_ (And.intro ?_ (And.intro ?_ (And.intro ?_ (And.intro ?_ (And.intro ?_ (And.intro ?_ (And.intro ?_ (And.intro ?_ (And.intro ?_ (And.intro ?_ (And.intro ?_ (And.intro ?_ (And.intro ?_ (And.intro ?_ (And.intro ?_ (And.intro ?_ (And.intro ?_ (And.intro ?_ (And.intro ?_ (And.intro ?_ (And.intro ?_ (And.intro ?_ (And.intro ?_ (And.intro ?_ (And.intro ?_ (And.intro ?_ (And.intro ?_ (And.intro ?_ (And.intro ?_ (And.intro ?_ (And.intro ?_ (trivial))))))))))))))))))))))))))))))))))))))))))))
                    · refine M.R.of rfl (by kernel_rfl) (.inl rfl) (fun Q listed a w h hd => ?_)
                      have z10 : a.tmps.getD 10 undef = .slice (some ⟨gL, 0, none⟩) xs.length cL := (h.base 10 (by intro j hj; unfold M.frD; omega)).trans s10
                      exact M.wp_pure (.slice (some ⟨gL, 0, none⟩) xs.length cL) rfl (by rw [M.run_env [(10, .slice (some ⟨gL, 0, none⟩) xs.length cL)] ⟨z10, trivial⟩ rfl (by kernel_rfl)]; kernel_rfl) (M.kz_of (k := .val (.slice (some ⟨gL, 0, none⟩) xs.length cL)) (by rw [hKS]; kernel_rfl) rfl)
                    · refine M.R.of rfl (by kernel_rfl) (.inl rfl) (fun Q listed a w h hd => ?_)
                      have z11 : a.tmps.getD 11 undef = .int .i64 (ix : Int) := (h.base 11 (by intro j hj; unfold M.frD; omega)).trans s11
                      exact M.wp_pure (.int .i64 (ix : Int)) rfl (by rw [M.run_env [(11, .int .i64 (ix : Int))] ⟨z11, trivial⟩ rfl (by kernel_rfl)]; kernel_rfl) (M.kz_of (k := .val (.int .i64 (ix : Int))) (by rw [hKS]; kernel_rfl) rfl)
                    · refine M.R.of rfl (by kernel_rfl) (.inl rfl) (fun Q listed a w h hd => ?_)
                      have z42 : a.tmps.getD 42 undef = .slice (some ⟨gL, 0, none⟩) xs.length cL := M.kz_val (by rw [hKS]; kernel_rfl) (h.done 0 (by decide) (hd 0 (by kernel_rfl)))
                      have z43 : a.tmps.getD 43 undef = .int .i64 (ix : Int) := M.kz_val (by rw [hKS]; kernel_rfl) (h.done 1 (by decide) (hd 1 (by kernel_rfl)))
                      exact M.wp_pure (.pointer (some ⟨gL, ix, none⟩)) rfl (by rw [M.run_env [(42, .slice (some ⟨gL, 0, none⟩) xs.length cL), (43, .int .i64 (ix : Int))] ⟨z42, z43, trivial⟩ rfl (by kernel_rfl)]; have f0 : M.env [(42, .slice (some ⟨gL, 0, none⟩) xs.length cL), (43, .int .i64 (ix : Int))] (.tmp 42) = .slice (some ⟨gL, 0, none⟩) xs.length cL := rfl; have f1 : M.env [(42, .slice (some ⟨gL, 0, none⟩) xs.length cL), (43, .int .i64 (ix : Int))] (.tmp 43) = .int .i64 (ix : Int) := rfl; simp only [execOp, f0, f1]; go_simp) (M.kz_of (k := .val (.pointer (some ⟨gL, ix, none⟩))) (by rw [hKS]; kernel_rfl) rfl)
                    · refine M.R.of rfl (by kernel_rfl) (.inl rfl) (fun Q listed a w h hd => ?_)
                      have z44 : a.tmps.getD 44 undef = .pointer (some ⟨gL, ix, none⟩) := M.kz_val (by rw [hKS]; kernel_rfl) (h.done 2 (by decide) (hd 2 (by kernel_rfl)))
                      have k2 := (HCL2.out w h.below).2.2.1
                      exact M.wp_pure (.slice (some ⟨xg, 0, none⟩) xn xc) rfl (by rw [M.run_env [(44, .pointer (some ⟨gL, ix, none⟩))] ⟨z44, trivial⟩ rfl (by kernel_rfl)]; go_simp; simp [M.env, k2]) (M.kz_of (k := .val (.slice (some ⟨xg, 0, none⟩) xn xc)) (by rw [hKS]; kernel_rfl) rfl)
                    · refine M.R.of rfl (by kernel_rfl) (.inl rfl) (fun Q listed a w h hd => ?_)
                      have z12 : a.tmps.getD 12 undef = .int .i64 (q : Int) := (h.base 12 (by intro j hj; unfold M.frD; omega)).trans s12
                      exact M.wp_pure (.int .i64 (q : Int)) rfl (by rw [M.run_env [(12, .int .i64 (q : Int))] ⟨z12, trivial⟩ rfl (by kernel_rfl)]; kernel_rfl) (M.kz_of (k := .val (.int .i64 (q : Int))) (by rw [hKS]; kernel_rfl) rfl)
                    · refine M.R.of rfl (by kernel_rfl) (.inl rfl) (fun Q listed a w h hd => ?_)
                      have z45 : a.tmps.getD 45 undef = .slice (some ⟨xg, 0, none⟩) xn xc := M.kz_val (by rw [hKS]; kernel_rfl) (h.done 3 (by decide) (hd 3 (by kernel_rfl)))
                      have z46 : a.tmps.getD 46 undef = .int .i64 (q : Int) := M.kz_val (by rw [hKS]; kernel_rfl) (h.done 4 (by decide) (hd 4 (by kernel_rfl)))
                      refine M.wp_call 58 #[.slice (some ⟨xg, 0, none⟩) xn xc, .int .i64 (q : Int)] rfl (by rw [M.run_env [(45, .slice (some ⟨xg, 0, none⟩) xn xc), (46, .int .i64 (q : Int))] ⟨z45, z46, trivial⟩ rfl (by kernel_rfl)]; kernel_rfl) ?_
                      exact (HIN2.out w h.below).mono fun e w' ⟨h1, h2⟩ => ⟨_, h1, M.kz_of (k := .val (.bool false)) (by rw [hKS]; kernel_rfl) rfl, h2⟩
                    · refine M.R.of rfl (by kernel_rfl) (.inl rfl) (fun Q listed a w h hd => ?_)
                      have z47 : a.tmps.getD 47 undef = .bool false := M.kz_val (by rw [hKS]; kernel_rfl) (h.done 5 (by decide) (hd 5 (by kernel_rfl)))
                      exact M.wp_pure (.bool true) rfl (by rw [M.run_env [(47, .bool false)] ⟨z47, trivial⟩ rfl (by kernel_rfl)]; kernel_rfl) (M.kz_of (k := .val (.bool true)) (by rw [hKS]; kernel_rfl) rfl)
                    · refine M.R.of rfl (by kernel_rfl) (.inl rfl) (fun Q listed a w h hd => ?_)
                      have z48 : a.tmps.getD 48 undef = .bool true := M.kz_val (by rw [hKS]; kernel_rfl) (h.done 6 (by decide) (hd 6 (by kernel_rfl)))
                      exact M.wp_pure (.bool true) rfl (by rw [M.run_env [(48, .bool true)] ⟨z48, trivial⟩ rfl (by kernel_rfl)]; kernel_rfl) (M.kz_of (k := .val (.bool true)) (by rw [hKS]; kernel_rfl) rfl)
                    · refine M.R.of rfl (by kernel_rfl) (.inr ⟨7, true, rfl, by decide, (by rw [hKS]; kernel_rfl), by kernel_rfl⟩) (fun Q listed a w h hd => ?_)
                      have z2 : a.tmps.getD 2 undef = .pointer (some ⟨g2, 0, none⟩) := (h.base 2 (by intro j hj; unfold M.frD; omega)).trans s2
                      have k0 := (HCL2.out w h.below).1
                      have k1 := (HCL2.out w h.below).2.1
                      exact M.wp_pure (.agg #[.int .i64 m, .slice (some ⟨bT, oT, none⟩) N c]) rfl (by rw [M.run_env [(2, .pointer (some ⟨g2, 0, none⟩))] ⟨z2, trivial⟩ rfl (by kernel_rfl)]; go_simp; simp [M.env, k0, k1]) (M.kz_of (k := .val (.agg #[.int .i64 m, .slice (some ⟨bT, oT, none⟩) N c])) (by rw [hKS]; kernel_rfl) rfl)
                    · refine M.R.of rfl (by kernel_rfl) (.inr ⟨7, true, rfl, by decide, (by rw [hKS]; kernel_rfl), by kernel_rfl⟩) (fun Q listed a w h hd => ?_)
                      have z10 : a.tmps.getD 10 undef = .slice (some ⟨gL, 0, none⟩) xs.length cL := (h.base 10 (by intro j hj; unfold M.frD; omega)).trans s10
                      exact M.wp_pure (.slice (some ⟨gL, 0, none⟩) xs.length cL) rfl (by rw [M.run_env [(10, .slice (some ⟨gL, 0, none⟩) xs.length cL)] ⟨z10, trivial⟩ rfl (by kernel_rfl)]; kernel_rfl) (M.kz_of (k := .val (.slice (some ⟨gL, 0, none⟩) xs.length cL)) (by rw [hKS]; kernel_rfl) rfl)
                    · refine M.R.of rfl (by kernel_rfl) (.inr ⟨7, true, rfl, by decide, (by rw [hKS]; kernel_rfl), by kernel_rfl⟩) (fun Q listed a w h hd => ?_)
                      have z11 : a.tmps.getD 11 undef = .int .i64 (ix : Int) := (h.base 11 (by intro j hj; unfold M.frD; omega)).trans s11
                      exact M.wp_pure (.int .i64 (ix : Int)) rfl (by rw [M.run_env [(11, .int .i64 (ix : Int))] ⟨z11, trivial⟩ rfl (by kernel_rfl)]; kernel_rfl) (M.kz_of (k := .val (.int .i64 (ix : Int))) (by rw [hKS]; kernel_rfl) rfl)
                    · refine M.R.of rfl (by kernel_rfl) (.inr ⟨7, true, rfl, by decide, (by rw [hKS]; kernel_rfl), by kernel_rfl⟩) (fun Q listed a w h hd => ?_)
                      have z51 : a.tmps.getD 51 undef = .slice (some ⟨gL, 0, none⟩) xs.length cL := M.kz_val (by rw [hKS]; kernel_rfl) (h.done 9 (by decide) (hd 9 (by kernel_rfl)))
                      have z52 : a.tmps.getD 52 undef = .int .i64 (ix : Int) := M.kz_val (by rw [hKS]; kernel_rfl) (h.done 10 (by decide) (hd 10 (by kernel_rfl)))
                      exact M.wp_pure (.pointer (some ⟨gL, ix, none⟩)) rfl (by rw [M.run_env [(51, .slice (some ⟨gL, 0, none⟩) xs.length cL), (52, .int .i64 (ix : Int))] ⟨z51, z52, trivial⟩ rfl (by kernel_rfl)]; have f0 : M.env [(51, .slice (some ⟨gL, 0, none⟩) xs.length cL), (52, .int .i64 (ix : Int))] (.tmp 51) = .slice (some ⟨gL, 0, none⟩) xs.length cL := rfl; have f1 : M.env [(51, .slice (some ⟨gL, 0, none⟩) xs.length cL), (52, .int .i64 (ix : Int))] (.tmp 52) = .int .i64 (ix : Int) := rfl; simp only [execOp, f0, f1]; go_simp) (M.kz_of (k := .val (.pointer (some ⟨gL, ix, none⟩))) (by rw [hKS]; kernel_rfl) rfl)
                    · refine M.R.of rfl (by kernel_rfl) (.inr ⟨7, true, rfl, by decide, (by rw [hKS]; kernel_rfl), by kernel_rfl⟩) (fun Q listed a w h hd => ?_)
                      have z53 : a.tmps.getD 53 undef = .pointer (some ⟨gL, ix, none⟩) := M.kz_val (by rw [hKS]; kernel_rfl) (h.done 11 (by decide) (hd 11 (by kernel_rfl)))
                      have k2 := (HCL2.out w h.below).2.2.1
                      exact M.wp_pure (.slice (some ⟨xg, 0, none⟩) xn xc) rfl (by rw [M.run_env [(53, .pointer (some ⟨gL, ix, none⟩))] ⟨z53, trivial⟩ rfl (by kernel_rfl)]; go_simp; simp [M.env, k2]) (M.kz_of (k := .val (.slice (some ⟨xg, 0, none⟩) xn xc)) (by rw [hKS]; kernel_rfl) rfl)
                    · refine M.R.of rfl (by kernel_rfl) (.inr ⟨7, true, rfl, by decide, (by rw [hKS]; kernel_rfl), by kernel_rfl⟩) (fun Q listed a w h hd => ?_)
                      have z2 : a.tmps.getD 2 undef = .pointer (some ⟨g2, 0, none⟩) := (h.base 2 (by intro j hj; unfold M.frD; omega)).trans s2
                      exact M.wp_pure (.pointer (some ⟨g2, 1, none⟩)) rfl (by rw [M.run_env [(2, .pointer (some ⟨g2, 0, none⟩))] ⟨z2, trivial⟩ rfl (by kernel_rfl)]; kernel_rfl) (M.kz_of (k := .val (.pointer (some ⟨g2, 1, none⟩))) (by rw [hKS]; kernel_rfl) rfl)
                    · refine M.R.of rfl (by kernel_rfl) (.inr ⟨7, true, rfl, by decide, (by rw [hKS]; kernel_rfl), by kernel_rfl⟩) (fun Q listed a w h hd => ?_)
                      have z55 : a.tmps.getD 55 undef = .pointer (some ⟨g2, 1, none⟩) := M.kz_val (by rw [hKS]; kernel_rfl) (h.done 13 (by decide) (hd 13 (by kernel_rfl)))
                      have k1 := (HCL2.out w h.below).2.1
                      exact M.wp_pure (.slice (some ⟨bT, oT, none⟩) N c) rfl (by rw [M.run_env [(55, .pointer (some ⟨g2, 1, none⟩))] ⟨z55, trivial⟩ rfl (by kernel_rfl)]; go_simp; simp [M.env, k1]) (M.kz_of (k := .val (.slice (some ⟨bT, oT, none⟩) N c)) (by rw [hKS]; kernel_rfl) rfl)
                    · refine M.R.of rfl (by kernel_rfl) (.inr ⟨7, true, rfl, by decide, (by rw [hKS]; kernel_rfl), by kernel_rfl⟩) (fun Q listed a w h hd => ?_)
                      have z12 : a.tmps.getD 12 undef = .int .i64 (q : Int) := (h.base 12 (by intro j hj; unfold M.frD; omega)).trans s12
                      exact M.wp_pure (.int .i64 (q : Int)) rfl (by rw [M.run_env [(12, .int .i64 (q : Int))] ⟨z12, trivial⟩ rfl (by kernel_rfl)]; kernel_rfl) (M.kz_of (k := .val (.int .i64 (q : Int))) (by rw [hKS]; kernel_rfl) rfl)
                    · refine M.R.of rfl (by kernel_rfl) (.inr ⟨7, true, rfl, by decide, (by rw [hKS]; kernel_rfl), by kernel_rfl⟩) (fun Q listed a w h hd => ?_)
                      have z56 : a.tmps.getD 56 undef = .slice (some ⟨bT, oT, none⟩) N c := M.kz_val (by rw [hKS]; kernel_rfl) (h.done 14 (by decide) (hd 14 (by kernel_rfl)))
                      have z57 : a.tmps.getD 57 undef = .int .i64 (q : Int) := M.kz_val (by rw [hKS]; kernel_rfl) (h.done 15 (by decide) (hd 15 (by kernel_rfl)))
                      exact M.wp_pure (.pointer (some ⟨bT, oT + q, none⟩)) rfl (by rw [M.run_env [(56, .slice (some ⟨bT, oT, none⟩) N c), (57, .int .i64 (q : Int))] ⟨z56, z57, trivial⟩ rfl (by kernel_rfl)]; have f0 : M.env [(56, .slice (some ⟨bT, oT, none⟩) N c), (57, .int .i64 (q : Int))] (.tmp 56) = .slice (some ⟨bT, oT, none⟩) N c := rfl; have f1 : M.env [(56, .slice (some ⟨bT, oT, none⟩) N c), (57, .int .i64 (q : Int))] (.tmp 57) = .int .i64 (q : Int) := rfl; simp only [execOp, f0, f1]; go_simp) (M.kz_of (k := .val (.pointer (some ⟨bT, oT + q, none⟩))) (by rw [hKS]; kernel_rfl) rfl)
                    · refine M.R.of rfl (by kernel_rfl) (.inr ⟨7, true, rfl, by decide, (by rw [hKS]; kernel_rfl), by kernel_rfl⟩) (fun Q listed a w h hd => ?_)
                      have z58 : a.tmps.getD 58 undef = .pointer (some ⟨bT, oT + q, none⟩) := M.kz_val (by rw [hKS]; kernel_rfl) (h.done 16 (by decide) (hd 16 (by kernel_rfl)))
                      have k3 := (HCL2.out w h.below).2.2.2
                      exact M.wp_pure (.slice rq pl cq) rfl (by rw [M.run_env [(58, .pointer (some ⟨bT, oT + q, none⟩))] ⟨z58, trivial⟩ rfl (by kernel_rfl)]; go_simp; simp [M.env, k3]) (M.kz_of (k := .val (.slice rq pl cq)) (by rw [hKS]; kernel_rfl) rfl)
                    · refine M.R.of rfl (by kernel_rfl) (.inr ⟨7, true, rfl, by decide, (by rw [hKS]; kernel_rfl), by kernel_rfl⟩) (fun Q listed a w h hd => ?_)
                      have z50 : a.tmps.getD 50 undef = .agg #[.int .i64 m, .slice (some ⟨bT, oT, none⟩) N c] := M.kz_val (by rw [hKS]; kernel_rfl) (h.done 8 (by decide) (hd 8 (by kernel_rfl)))
                      have z54 : a.tmps.getD 54 undef = .slice (some ⟨xg, 0, none⟩) xn xc := M.kz_val (by rw [hKS]; kernel_rfl) (h.done 12 (by decide) (hd 12 (by kernel_rfl)))
                      have z59 : a.tmps.getD 59 undef = .slice rq pl cq := M.kz_val (by rw [hKS]; kernel_rfl) (h.done 17 (by decide) (hd 17 (by kernel_rfl)))
                      refine M.wp_call 52 #[.agg #[.int .i64 m, .slice (some ⟨bT, oT, none⟩) N c], .slice (some ⟨xg, 0, none⟩) xn xc, .slice rq pl cq] rfl (by rw [M.run_env [(50, .agg #[.int .i64 m, .slice (some ⟨bT, oT, none⟩) N c]), (54, .slice (some ⟨xg, 0, none⟩) xn xc), (59, .slice rq pl cq)] ⟨z50, z54, z59, trivial⟩ rfl (by kernel_rfl)]; kernel_rfl) ?_
                      exact (HMK2.out w h.below).mono fun e w' ⟨h1, h2⟩ => ⟨_, h1, M.kz_of (k := .val (.bool false)) (by rw [hKS]; kernel_rfl) rfl, h2⟩
                    · refine M.R.of rfl (by kernel_rfl) (.inl rfl) (fun Q listed a w h hd => ?_)
                      have z49 : a.tmps.getD 49 undef = .bool true := M.kz_val (by rw [hKS]; kernel_rfl) (h.done 7 (by decide) (hd 7 (by kernel_rfl)))
                      have z60 : a.tmps.getD 60 undef = .bool false := M.kz_val (by rw [hKS]; kernel_rfl) (h.done 18 (by decide) (hd 18 (by kernel_rfl)))
                      exact M.wp_pure (.bool false) rfl (by rw [M.run_env [(49, .bool true), (60, .bool false)] ⟨z49, z60, trivial⟩ rfl (by kernel_rfl)]; kernel_rfl) (M.kz_of (k := .val (.bool false)) (by rw [hKS]; kernel_rfl) rfl)
                    · refine M.R.of rfl (by kernel_rfl) (.inl rfl) (fun Q listed a w h hd => ?_)
                      have z61 : a.tmps.getD 61 undef = .bool false := M.kz_val (by rw [hKS]; kernel_rfl) (h.done 19 (by decide) (hd 19 (by kernel_rfl)))
                      exact M.wp_pure (.bool false) rfl (by rw [M.run_env [(61, .bool false)] ⟨z61, trivial⟩ rfl (by kernel_rfl)]; kernel_rfl) (M.kz_of (k := .val (.bool false)) (by rw [hKS]; kernel_rfl) rfl)
                    · exact M.R.skip rfl (by kernel_rfl) 20 true rfl (by decide) (u := .bool false) (by rw [hKS]; kernel_rfl) (by intro h; cases h) (by kernel_rfl) (by rw [hKS]; kernel_rfl)
                    · exact M.R.skip rfl (by kernel_rfl) 20 true rfl (by decide) (u := .bool false) (by rw [hKS]; kernel_rfl) (by intro h; cases h) (by kernel_rfl) (by rw [hKS]; kernel_rfl)
                    · exact M.R.skip rfl (by kernel_rfl) 20 true rfl (by decide) (u := .bool false) (by rw [hKS]; kernel_rfl) (by intro h; cases h) (by kernel_rfl) (by rw [hKS]; kernel_rfl)
                    · exact M.R.skip rfl (by kernel_rfl) 20 true rfl (by decide) (u := .bool false) (by rw [hKS]; kernel_rfl) (by intro h; cases h) (by kernel_rfl) (by rw [hKS]; kernel_rfl)
                    · exact M.R.skip rfl (by kernel_rfl) 24 false rfl (by decide) (u := undef) (by rw [hKS]; kernel_rfl) (by intro h; cases h) (by kernel_rfl) (by rw [hKS]; kernel_rfl)
                    · exact M.R.skip rfl (by kernel_rfl) 24 false rfl (by decide) (u := undef) (by rw [hKS]; kernel_rfl) (by intro h; cases h) (by kernel_rfl) (by rw [hKS]; kernel_rfl)
                    · exact M.R.skip rfl (by kernel_rfl) 24 false rfl (by decide) (u := undef) (by rw [hKS]; kernel_rfl) (by intro h; cases h) (by kernel_rfl) (by rw [hKS]; kernel_rfl)
                    · exact M.R.skip rfl (by kernel_rfl) 24 false rfl (by decide) (u := undef) (by rw [hKS]; kernel_rfl) (by intro h; cases h) (by kernel_rfl) (by rw [hKS]; kernel_rfl)
                    · exact M.R.skip rfl (by kernel_rfl) 24 false rfl (by decide) (u := undef) (by rw [hKS]; kernel_rfl) (by intro h; cases h) (by kernel_rfl) (by rw [hKS]; kernel_rfl)
                    · exact M.R.skip rfl (by kernel_rfl) 24 false rfl (by decide) (u := undef) (by rw [hKS]; kernel_rfl) (by intro h; cases h) (by kernel_rfl) (by rw [hKS]; kernel_rfl)
                    · exact M.R.skip rfl (by kernel_rfl) 24 false rfl (by decide) (u := undef) (by rw [hKS]; kernel_rfl) (by intro h; cases h) (by kernel_rfl) (by rw [hKS]; kernel_rfl)
                    · exact M.R.skip rfl (by kernel_rfl) 24 false rfl (by decide) (u := undef) (by rw [hKS]; kernel_rfl) (by intro h; cases h) (by kernel_rfl) (by rw [hKS]; kernel_rfl)
                    · exact M.R.skip rfl (by kernel_rfl) 20 true rfl (by decide) (u := .bool false) (by rw [hKS]; kernel_rfl) (by intro h; cases h) (by kernel_rfl) (by rw [hKS]; kernel_rfl)
                    · exact M.R.skip rfl (by kernel_rfl) 20 true rfl (by decide) (u := .bool false) (by rw [hKS]; kernel_rfl) (by intro h; cases h) (by kernel_rfl) (by rw [hKS]; kernel_rfl)
                    · exact M.R.skip rfl (by kernel_rfl) 34 false rfl (by decide) (u := undef) (by rw [hKS]; kernel_rfl) (by intro h; cases h) (by kernel_rfl) (by rw [hKS]; kernel_rfl)
                    · exact M.R.skip rfl (by kernel_rfl) 34 false rfl (by decide) (u := undef) (by rw [hKS]; kernel_rfl) (by intro h; cases h) (by kernel_rfl) (by rw [hKS]; kernel_rfl)
                    · exact M.R.skip rfl (by kernel_rfl) 34 false rfl (by decide) (u := undef) (by rw [hKS]; kernel_rfl) (by intro h; cases h) (by kernel_rfl) (by rw [hKS]; kernel_rfl)
                    · exact M.R.skip rfl (by kernel_rfl) 34 false rfl (by decide) (u := undef) (by rw [hKS]; kernel_rfl) (by intro h; cases h) (by kernel_rfl) (by rw [hKS]; kernel_rfl)
                    · exact M.R.skip rfl (by kernel_rfl) 34 false rfl (by decide) (u := undef) (by rw [hKS]; kernel_rfl) (by intro h; cases h) (by kernel_rfl) (by rw [hKS]; kernel_rfl)
                    · exact M.R.skip rfl (by kernel_rfl) 34 false rfl (by decide) (u := undef) (by rw [hKS]; kernel_rfl) (by intro h; cases h) (by kernel_rfl) (by rw [hKS]; kernel_rfl)
                    · exact M.R.skip rfl (by kernel_rfl) 34 false rfl (by decide) (u := undef) (by rw [hKS]; kernel_rfl) (by intro h; cases h) (by kernel_rfl) (by rw [hKS]; kernel_rfl)
                    · exact M.R.skip rfl (by kernel_rfl) 20 true rfl (by decide) (u := .bool false) (by rw [hKS]; kernel_rfl) (by intro h; cases h) (by kernel_rfl) (by rw [hKS]; kernel_rfl)
                    · refine M.R.of rfl (by kernel_rfl) (.inl rfl) (fun Q listed a w h hd => ?_)
                      have z62 : a.tmps.getD 62 undef = .bool false := M.kz_val (by rw [hKS]; kernel_rfl) (h.done 20 (by decide) (hd 20 (by kernel_rfl)))
                      have z84 : a.tmps.getD 84 undef = undef := M.kz_val (by rw [hKS]; kernel_rfl) (h.done 42 (by decide) (hd 42 (by kernel_rfl)))
                      exact M.wp_pure (.bool false) rfl (by rw [M.run_env [(62, .bool false), (84, undef)] ⟨z62, z84, trivial⟩ rfl (by kernel_rfl)]; kernel_rfl) (M.kz_of (k := .val (.bool false)) (by rw [hKS]; kernel_rfl) rfl)
                  case refine_2 =>
                    intro a' w' hsz hd hb hbs hk
                    have e43 : a'.tmps.getD (42 + 43) undef = .bool false := M.kz_val (by rw [hKS]; kernel_rfl) (hk 43 (by decide))
                    obtain ⟨tmps, defers⟩ := a'
                    dsimp only at hsz
                    have hfr := M.frame (lo := 42) (n := 44) (A := tmps) (hb := fun s h => hbs s (fun j hj e => by unfold M.frD at e; omega)) (hs := by exact hsz) (hn := by show 86 ≤ 96; decide)
                    dsimp only at hfr e43 hd
                    obtain ⟨u, hu⟩ : ∃ u : Nat → Value, ∀ i, tmps.getD (42 + i) undef = u i := ⟨_, fun _ => rfl⟩
                    simp only [hu] at hfr e43
                    clear hu hk hbs hsz hKS
                    subst hfr
                    subst hd
                    simp only [List.take_succ_cons, List.take_zero, List.drop_succ_cons, List.drop_zero, List.range, List.range.loop, List.map_cons, List.map_nil, List.cons_append, List.nil_append, e43]
                    have HBW := hid (HFIN2.out w' hb)
                    have HRX := hid (HXR2.out w' hb)
                    have HRB2 := hid (HBR2.out w' hb)
                    go_wp2
                    go_roundw
                    case rel => exact ⟨q, by omega, by go_num, ab, cb, b, cn, by rw [HBN.out], rfl, HRB2.out, HMID.out.miss HCL0.out (.inl (by rw [HFR.out]; rfl)), HBW.out⟩
                    case measure => simp [intOf]
                | true =>
                  by_cases h3 : bn = 0
                  · have h3' : ((bn : Int) == 0) = true := beq_iff_eq.2 (by omega)
                    have HE := hid (HEL.out.2 (.inl h3))
                    clear h3
                    go_wp2_with fail
                    obtain ⟨KS, hKS⟩ : ∃ KS : List M.Ky, KS = [.val (.slice (some ⟨gL, 0, none⟩) xs.length cL), .val (.int .i64 (ix : Int)), .val (.pointer (some ⟨gL, ix, none⟩)), .val (.slice (some ⟨xg, 0, none⟩) xn xc), .val (.int .i64 (q : Int)), .val (.bool false), .val (.bool true), .val (.bool true), .val (.agg #[.int .i64 m, .slice (some ⟨bT, oT, none⟩) N c]), .val (.slice (some ⟨gL, 0, none⟩) xs.length cL), .val (.int .i64 (ix : Int)), .val (.pointer (some ⟨gL, ix, none⟩)), .val (.slice (some ⟨xg, 0, none⟩) xn xc), .val (.pointer (some ⟨g2, 1, none⟩)), .val (.slice (some ⟨bT, oT, none⟩) N c), .val (.int .i64 (q : Int)), .val (.pointer (some ⟨bT, oT + q, none⟩)), .val (.slice rq pl cq), .val (.bool true), .val (.bool true), .val (.bool true), .val (.slice ab bn cb), .val (.int .i64 (bn : Int)), .val (.bool true), .val (.bool true), .val (undef), .val (undef), .val (undef), .val (undef), .val (undef), .val (undef), .val (undef), .val (undef), .val (.bool true), .val (.bool true), .val (undef), .val (undef), .val (undef), .val (undef), .val (undef), .val (undef), .val (undef), .val (.bool true), .val (.bool true)] := ⟨_, rfl⟩
                    refine M.region_inv2 44 96 M.frD (M.kz KS) (by kernel_rfl) rfl rfl (fun _ _ _ _ hb h => M.Ky.Holds.stays hb h) (fun i j _ _ h => by unfold M.frD at h; omega) (fun i hi => by unfold M.frD; omega) ?_ ?_
                    case refine_1 =>
                      intro T0 hT
                      have s2 : T0 2 = .pointer (some ⟨g2, 0, none⟩) := (hT 2).symm
                      have s8 : T0 8 = .slice ab bn cb := (hT 8).symm
                      have s10 : T0 10 = .slice (some ⟨gL, 0, none⟩) xs.length cL := (hT 10).symm
                      have s11 : T0 11 = .int .i64 (ix : Int) := (hT 11).symm
                      have s12 : T0 12 = .int .i64 (q : Int) := (hT 12).symm
                      clear hT
                      refine And.intro ?_ (And.intro ?_ (And.intro ?_ (And.intro ?_ (And.intro ?_ (And.intro ?_ (And.intro ?_ (And.intro ?_ (And.intro ?_ (And.intro ?_ (And.intro ?_ (And.intro ?_ (And.intro ?_ (And.intro ?_ (And.intro ?_ (And.intro ?_ (And.intro ?_ (And.intro ?_ (And.intro ?_ (And.intro ?_ (And.intro ?_ (And.intro ?_ (And.intro ?_ (And.intro ?_ (And.intro ?_ (And.intro ?_ (And.intro ?_ (And.intro ?_ (And.intro ?_ (And.intro ?_ (And.intro ?_ (And.intro ?_ (And.intro ?_ (And.intro ?_ (And.intro ?_ (And.intro ?_ (And.intro ?_ (And.intro ?_ (And.intro ?_ (And.intro ?_ (And.intro ?_ (And.intro ?_ (And.intro ?_ (And.intro ?_ (trivial))))))))))))))))))))))))))))))))))))))))))))
                      · refine M.R.of rfl (by kernel_rfl) (.inl rfl) (fun Q listed a w h hd => ?_)
                        have z10 : a.tmps.getD 10 undef = .slice (some ⟨gL, 0, none⟩) xs.length cL := (h.base 10 (by intro j hj; unfold M.frD; omega)).trans s10
                        exact M.wp_pure (.slice (some ⟨gL, 0, none⟩) xs.length cL) rfl (by rw [M.run_env [(10, .slice (some ⟨gL, 0, none⟩) xs.length cL)] ⟨z10, trivial⟩ rfl (by kernel_rfl)]; kernel_rfl) (M.kz_of (k := .val (.slice (some ⟨gL, 0, none⟩) xs.length cL)) (by rw [hKS]; kernel_rfl) rfl)
                      · refine M.R.of rfl (by kernel_rfl) (.inl rfl) (fun Q listed a w h hd => ?_)
                        have z11 : a.tmps.getD 11 undef = .int .i64 (ix : Int) := (h.base 11 (by intro j hj; unfold M.frD; omega)).trans s11
                        exact M.wp_pure (.int .i64 (ix : Int)) rfl (by rw [M.run_env [(11, .int .i64 (ix : Int))] ⟨z11, trivial⟩ rfl (by kernel_rfl)]; kernel_rfl) (M.kz_of (k := .val (.int .i64 (ix : Int))) (by rw [hKS]; kernel_rfl) rfl)
                      · refine M.R.of rfl (by kernel_rfl) (.inl rfl) (fun Q listed a w h hd => ?_)
                        have z42 : a.tmps.getD 42 undef = .slice (some ⟨gL, 0, none⟩) xs.length cL := M.kz_val (by rw [hKS]; kernel_rfl) (h.done 0 (by decide) (hd 0 (by kernel_rfl)))
                        have z43 : a.tmps.getD 43 undef = .int .i64 (ix : Int) := M.kz_val (by rw [hKS]; kernel_rfl) (h.done 1 (by decide) (hd 1 (by kernel_rfl)))
                        exact M.wp_pure (.pointer (some ⟨gL, ix, none⟩)) rfl (by rw [M.run_env [(42, .slice (some ⟨gL, 0, none⟩) xs.length cL), (43, .int .i64 (ix : Int))] ⟨z42, z43, trivial⟩ rfl (by kernel_rfl)]; have f0 : M.env [(42, .slice (some ⟨gL, 0, none⟩) xs.length cL), (43, .int .i64 (ix : Int))] (.tmp 42) = .slice (some ⟨gL, 0, none⟩) xs.length cL := rfl; have f1 : M.env [(42, .slice (some ⟨gL, 0, none⟩) xs.length cL), (43, .int .i64 (ix : Int))] (.tmp 43) = .int .i64 (ix : Int) := rfl; simp only [execOp, f0, f1]; go_simp) (M.kz_of (k := .val (.pointer (some ⟨gL, ix, none⟩))) (by rw [hKS]; kernel_rfl) rfl)
                      · refine M.R.of rfl (by kernel_rfl) (.inl rfl) (fun Q listed a w h hd => ?_)
                        have z44 : a.tmps.getD 44 undef = .pointer (some ⟨gL, ix, none⟩) := M.kz_val (by rw [hKS]; kernel_rfl) (h.done 2 (by decide) (hd 2 (by kernel_rfl)))
                        have k2 := (HCL2.out w h.below).2.2.1
                        exact M.wp_pure (.slice (some ⟨xg, 0, none⟩) xn xc) rfl (by rw [M.run_env [(44, .pointer (some ⟨gL, ix, none⟩))] ⟨z44, trivial⟩ rfl (by kernel_rfl)]; go_simp; simp [M.env, k2]) (M.kz_of (k := .val (.slice (some ⟨xg, 0, none⟩) xn xc)) (by rw [hKS]; kernel_rfl) rfl)
                      · refine M.R.of rfl (by kernel_rfl) (.inl rfl) (fun Q listed a w h hd => ?_)
                        have z12 : a.tmps.getD 12 undef = .int .i64 (q : Int) := (h.base 12 (by intro j hj; unfold M.frD; omega)).trans s12
                        exact M.wp_pure (.int .i64 (q : Int)) rfl (by rw [M.run_env [(12, .int .i64 (q : Int))] ⟨z12, trivial⟩ rfl (by kernel_rfl)]; kernel_rfl) (M.kz_of (k := .val (.int .i64 (q : Int))) (by rw [hKS]; kernel_rfl) rfl)
                      · refine M.R.of rfl (by kernel_rfl) (.inl rfl) (fun Q listed a w h hd => ?_)
                        have z45 : a.tmps.getD 45 undef = .slice (some ⟨xg, 0, none⟩) xn xc := M.kz_val (by rw [hKS]; kernel_rfl) (h.done 3 (by decide) (hd 3 (by kernel_rfl)))
                        have z46 : a.tmps.getD 46 undef = .int .i64 (q : Int) := M.kz_val (by rw [hKS]; kernel_rfl) (h.done 4 (by decide) (hd 4 (by kernel_rfl)))
                        refine M.wp_call 58 #[.slice (some ⟨xg, 0, none⟩) xn xc, .int .i64 (q : Int)] rfl (by rw [M.run_env [(45, .slice (some ⟨xg, 0, none⟩) xn xc), (46, .int .i64 (q : Int))] ⟨z45, z46, trivial⟩ rfl (by kernel_rfl)]; kernel_rfl) ?_
                        exact (HIN2.out w h.below).mono fun e w' ⟨h1, h2⟩ => ⟨_, h1, M.kz_of (k := .val (.bool false)) (by rw [hKS]; kernel_rfl) rfl, h2⟩
                      · refine M.R.of rfl (by kernel_rfl) (.inl rfl) (fun Q listed a w h hd => ?_)
                        have z47 : a.tmps.getD 47 undef = .bool false := M.kz_val (by rw [hKS]; kernel_rfl) (h.done 5 (by decide) (hd 5 (by kernel_rfl)))
                        exact M.wp_pure (.bool true) rfl (by rw [M.run_env [(47, .bool false)] ⟨z47, trivial⟩ rfl (by kernel_rfl)]; kernel_rfl) (M.kz_of (k := .val (.bool true)) (by rw [hKS]; kernel_rfl) rfl)
                      · refine M.R.of rfl (by kernel_rfl) (.inl rfl) (fun Q listed a w h hd => ?_)
                        have z48 : a.tmps.getD 48 undef = .bool true := M.kz_val (by rw [hKS]; kernel_rfl) (h.done 6 (by decide) (hd 6 (by kernel_rfl)))
                        exact M.wp_pure (.bool true) rfl (by rw [M.run_env [(48, .bool true)] ⟨z48, trivial⟩ rfl (by kernel_rfl)]; kernel_rfl) (M.kz_of (k := .val (.bool true)) (by rw [hKS]; kernel_rfl) rfl)
                      · refine M.R.of rfl (by kernel_rfl) (.inr ⟨7, true, rfl, by decide, (by rw [hKS]; kernel_rfl), by kernel_rfl⟩) (fun Q listed a w h hd => ?_)
                        have z2 : a.tmps.getD 2 undef = .pointer (some ⟨g2, 0, none⟩) := (h.base 2 (by intro j hj; unfold M.frD; omega)).trans s2
                        have k0 := (HCL2.out w h.below).1
                        have k1 := (HCL2.out w h.below).2.1
                        exact M.wp_pure (.agg #[.int .i64 m, .slice (some ⟨bT, oT, none⟩) N c]) rfl (by rw [M.run_env [(2, .pointer (some ⟨g2, 0, none⟩))] ⟨z2, trivial⟩ rfl (by kernel_rfl)]; go_simp; simp [M.env, k0, k1]) (M.kz_of (k := .val (.agg #[.int .i64 m, .slice (some ⟨bT, oT, none⟩) N c])) (by rw [hKS]; kernel_rfl) rfl)
                      · refine M.R.of rfl (by kernel_rfl) (.inr ⟨7, true, rfl, by decide, (by rw [hKS]; kernel_rfl), by kernel_rfl⟩) (fun Q listed a w h hd => ?_)
                        have z10 : a.tmps.getD 10 undef = .slice (some ⟨gL, 0, none⟩) xs.length cL := (h.base 10 (by intro j hj; unfold M.frD; omega)).trans s10
                        exact M.wp_pure (.slice (some ⟨gL, 0, none⟩) xs.length cL) rfl (by rw [M.run_env [(10, .slice (some ⟨gL, 0, none⟩) xs.length cL)] ⟨z10, trivial⟩ rfl (by kernel_rfl)]; kernel_rfl) (M.kz_of (k := .val (.slice (some ⟨gL, 0, none⟩) xs.length cL)) (by rw [hKS]; kernel_rfl) rfl)
                      · refine M.R.of rfl (by kernel_rfl) (.inr ⟨7, true, rfl, by decide, (by rw [hKS]; kernel_rfl), by kernel_rfl⟩) (fun Q listed a w h hd => ?_)
                        have z11 : a.tmps.getD 11 undef = .int .i64 (ix : Int) := (h.base 11 (by intro j hj; unfold M.frD; omega)).trans s11
                        exact M.wp_pure (.int .i64 (ix : Int)) rfl (by rw [M.run_env [(11, .int .i64 (ix : Int))] ⟨z11, trivial⟩ rfl (by kernel_rfl)]; kernel_rfl) (M.kz_of (k := .val (.int .i64 (ix : Int))) (by rw [hKS]; kernel_rfl) rfl)
                      · refine M.R.of rfl (by kernel_rfl) (.inr ⟨7, true, rfl, by decide, (by rw [hKS]; kernel_rfl), by kernel_rfl⟩) (fun Q listed a w h hd => ?_)
                        have z51 : a.tmps.getD 51 undef = .slice (some ⟨gL, 0, none⟩) xs.length cL := M.kz_val (by rw [hKS]; kernel_rfl) (h.done 9 (by decide) (hd 9 (by kernel_rfl)))
                        have z52 : a.tmps.getD 52 undef = .int .i64 (ix : Int) := M.kz_val (by rw [hKS]; kernel_rfl) (h.done 10 (by decide) (hd 10 (by kernel_rfl)))
                        exact M.wp_pure (.pointer (some ⟨gL, ix, none⟩)) rfl (by rw [M.run_env [(51, .slice (some ⟨gL, 0, none⟩) xs.length cL), (52, .int .i64 (ix : Int))] ⟨z51, z52, trivial⟩ rfl (by kernel_rfl)]; have f0 : M.env [(51, .slice (some ⟨gL, 0, none⟩) xs.length cL), (52, .int .i64 (ix : Int))] (.tmp 51) = .slice (some ⟨gL, 0, none⟩) xs.length cL := rfl; have f1 : M.env [(51, .slice (some ⟨gL, 0, none⟩) xs.length cL), (52, .int .i64 (ix : Int))] (.tmp 52) = .int .i64 (ix : Int) := rfl; simp only [execOp, f0, f1]; go_simp) (M.kz_of (k := .val (.pointer (some ⟨gL, ix, none⟩))) (by rw [hKS]; kernel_rfl) rfl)
                      · refine M.R.of rfl (by kernel_rfl) (.inr ⟨7, true, rfl, by decide, (by rw [hKS]; kernel_rfl), by kernel_rfl⟩) (fun Q listed a w h hd => ?_)
                        have z53 : a.tmps.getD 53 undef = .pointer (some ⟨gL, ix, none⟩) := M.kz_val (by rw [hKS]; kernel_rfl) (h.done 11 (by decide) (hd 11 (by kernel_rfl)))
                        have k2 := (HCL2.out w h.below).2.2.1
                        exact M.wp_pure (.slice (some ⟨xg, 0, none⟩) xn xc) rfl (by rw [M.run_env [(53, .pointer (some ⟨gL, ix, none⟩))] ⟨z53, trivial⟩ rfl (by kernel_rfl)]; go_simp; simp [M.env, k2]) (M.kz_of (k := .val (.slice (some ⟨xg, 0, none⟩) xn xc)) (by rw [hKS]; kernel_rfl) rfl)
                      · refine M.R.of rfl (by kernel_rfl) (.inr ⟨7, true, rfl, by decide, (by rw [hKS]; kernel_rfl), by kernel_rfl⟩) (fun Q listed a w h hd => ?_)
                        have z2 : a.tmps.getD 2 undef = .pointer (some ⟨g2, 0, none⟩) := (h.base 2 (by intro j hj; unfold M.frD; omega)).trans s2
                        exact M.wp_pure (.pointer (some ⟨g2, 1, none⟩)) rfl (by rw [M.run_env [(2, .pointer (some ⟨g2, 0, none⟩))] ⟨z2, trivial⟩ rfl (by kernel_rfl)]; kernel_rfl) (M.kz_of (k := .val (.pointer (some ⟨g2, 1, none⟩))) (by rw [hKS]; kernel_rfl) rfl)
                      · refine M.R.of rfl (by kernel_rfl) (.inr ⟨7, true, rfl, by decide, (by rw [hKS]; kernel_rfl), by kernel_rfl⟩) (fun Q listed a w h hd => ?_)
                        have z55 : a.tmps.getD 55 undef = .pointer (some ⟨g2, 1, none⟩) := M.kz_val (by rw [hKS]; kernel_rfl) (h.done 13 (by decide) (hd 13 (by kernel_rfl)))
                        have k1 := (HCL2.out w h.below).2.1
                        exact M.wp_pure (.slice (some ⟨bT, oT, none⟩) N c) rfl (by rw [M.run_env [(55, .pointer (some ⟨g2, 1, none⟩))] ⟨z55, trivial⟩ rfl (by kernel_rfl)]; go_simp; simp [M.env, k1]) (M.kz_of (k := .val (.slice (some ⟨bT, oT, none⟩) N c)) (by rw [hKS]; kernel_rfl) rfl)
                      · refine M.R.of rfl (by kernel_rfl) (.inr ⟨7, true, rfl, by decide, (by rw [hKS]; kernel_rfl), by kernel_rfl⟩) (fun Q listed a w h hd => ?_)
                        have z12 : a.tmps.getD 12 undef = .int .i64 (q : Int) := (h.base 12 (by intro j hj; unfold M.frD; omega)).trans s12
                        exact M.wp_pure (.int .i64 (q : Int)) rfl (by rw [M.run_env [(12, .int .i64 (q : Int))] ⟨z12, trivial⟩ rfl (by kernel_rfl)]; kernel_rfl) (M.kz_of (k := .val (.int .i64 (q : Int))) (by rw [hKS]; kernel_rfl) rfl)
                      · refine M.R.of rfl (by kernel_rfl) (.inr ⟨7, true, rfl, by decide, (by rw [hKS]; kernel_rfl), by kernel_rfl⟩) (fun Q listed a w h hd => ?_)
                        have z56 : a.tmps.getD 56 undef = .slice (some ⟨bT, oT, none⟩) N c := M.kz_val (by rw [hKS]; kernel_rfl) (h.done 14 (by decide) (hd 14 (by kernel_rfl)))
                        have z57 : a.tmps.getD 57 undef = .int .i64 (q : Int) := M.kz_val (by rw [hKS]; kernel_rfl) (h.done 15 (by decide) (hd 15 (by kernel_rfl)))
                        exact M.wp_pure (.pointer (some ⟨bT, oT + q, none⟩)) rfl (by rw [M.run_env [(56, .slice (some ⟨bT, oT, none⟩) N c), (57, .int .i64 (q : Int))] ⟨z56, z57, trivial⟩ rfl (by kernel_rfl)]; have f0 : M.env [(56, .slice (some ⟨bT, oT, none⟩) N c), (57, .int .i64 (q : Int))] (.tmp 56) = .slice (some ⟨bT, oT, none⟩) N c := rfl; have f1 : M.env [(56, .slice (some ⟨bT, oT, none⟩) N c), (57, .int .i64 (q : Int))] (.tmp 57) = .int .i64 (q : Int) := rfl; simp only [execOp, f0, f1]; go_simp) (M.kz_of (k := .val (.pointer (some ⟨bT, oT + q, none⟩))) (by rw [hKS]; kernel_rfl) rfl)
                      · refine M.R.of rfl (by kernel_rfl) (.inr ⟨7, true, rfl, by decide, (by rw [hKS]; kernel_rfl), by kernel_rfl⟩) (fun Q listed a w h hd => ?_)
                        have z58 : a.tmps.getD 58 undef = .pointer (some ⟨bT, oT + q, none⟩) := M.kz_val (by rw [hKS]; kernel_rfl) (h.done 16 (by decide) (hd 16 (by kernel_rfl)))
                        have k3 := (HCL2.out w h.below).2.2.2
                        exact M.wp_pure (.slice rq pl cq) rfl (by rw [M.run_env [(58, .pointer (some ⟨bT, oT + q, none⟩))] ⟨z58, trivial⟩ rfl (by kernel_rfl)]; go_simp; simp [M.env, k3]) (M.kz_of (k := .val (.slice rq pl cq)) (by rw [hKS]; kernel_rfl) rfl)
                      · refine M.R.of rfl (by kernel_rfl) (.inr ⟨7, true, rfl, by decide, (by rw [hKS]; kernel_rfl), by kernel_rfl⟩) (fun Q listed a w h hd => ?_)
                        have z50 : a.tmps.getD 50 undef = .agg #[.int .i64 m, .slice (some ⟨bT, oT, none⟩) N c] := M.kz_val (by rw [hKS]; kernel_rfl) (h.done 8 (by decide) (hd 8 (by kernel_rfl)))
                        have z54 : a.tmps.getD 54 undef = .slice (some ⟨xg, 0, none⟩) xn xc := M.kz_val (by rw [hKS]; kernel_rfl) (h.done 12 (by decide) (hd 12 (by kernel_rfl)))
                        have z59 : a.tmps.getD 59 undef = .slice rq pl cq := M.kz_val (by rw [hKS]; kernel_rfl) (h.done 17 (by decide) (hd 17 (by kernel_rfl)))
                        refine M.wp_call 52 #[.agg #[.int .i64 m, .slice (some ⟨bT, oT, none⟩) N c], .slice (some ⟨xg, 0, none⟩) xn xc, .slice rq pl cq] rfl (by rw [M.run_env [(50, .agg #[.int .i64 m, .slice (some ⟨bT, oT, none⟩) N c]), (54, .slice (some ⟨xg, 0, none⟩) xn xc), (59, .slice rq pl cq)] ⟨z50, z54, z59, trivial⟩ rfl (by kernel_rfl)]; kernel_rfl) ?_
                        exact (HMK2.out w h.below).mono fun e w' ⟨h1, h2⟩ => ⟨_, h1, M.kz_of (k := .val (.bool true)) (by rw [hKS]; kernel_rfl) rfl, h2⟩
                      · refine M.R.of rfl (by kernel_rfl) (.inl rfl) (fun Q listed a w h hd => ?_)
                        have z49 : a.tmps.getD 49 undef = .bool true := M.kz_val (by rw [hKS]; kernel_rfl) (h.done 7 (by decide) (hd 7 (by kernel_rfl)))
                        have z60 : a.tmps.getD 60 undef = .bool true := M.kz_val (by rw [hKS]; kernel_rfl) (h.done 18 (by decide) (hd 18 (by kernel_rfl)))
                        exact M.wp_pure (.bool true) rfl (by rw [M.run_env [(49, .bool true), (60, .bool true)] ⟨z49, z60, trivial⟩ rfl (by kernel_rfl)]; kernel_rfl) (M.kz_of (k := .val (.bool true)) (by rw [hKS]; kernel_rfl) rfl)
                      · refine M.R.of rfl (by kernel_rfl) (.inl rfl) (fun Q listed a w h hd => ?_)
                        have z61 : a.tmps.getD 61 undef = .bool true := M.kz_val (by rw [hKS]; kernel_rfl) (h.done 19 (by decide) (hd 19 (by kernel_rfl)))
                        exact M.wp_pure (.bool true) rfl (by rw [M.run_env [(61, .bool true)] ⟨z61, trivial⟩ rfl (by kernel_rfl)]; kernel_rfl) (M.kz_of (k := .val (.bool true)) (by rw [hKS]; kernel_rfl) rfl)
                      · refine M.R.of rfl (by kernel_rfl) (.inr ⟨20, true, rfl, by decide, (by rw [hKS]; kernel_rfl), by kernel_rfl⟩) (fun Q listed a w h hd => ?_)
                        have z8 : a.tmps.getD 8 undef = .slice ab bn cb := (h.base 8 (by intro j hj; unfold M.frD; omega)).trans s8
                        exact M.wp_pure (.slice ab bn cb) rfl (by rw [M.run_env [(8, .slice ab bn cb)] ⟨z8, trivial⟩ rfl (by kernel_rfl)]; kernel_rfl) (M.kz_of (k := .val (.slice ab bn cb)) (by rw [hKS]; kernel_rfl) rfl)
                      · refine M.R.of rfl (by kernel_rfl) (.inr ⟨20, true, rfl, by decide, (by rw [hKS]; kernel_rfl), by kernel_rfl⟩) (fun Q listed a w h hd => ?_)
                        have z63 : a.tmps.getD 63 undef = .slice ab bn cb := M.kz_val (by rw [hKS]; kernel_rfl) (h.done 21 (by decide) (hd 21 (by kernel_rfl)))
                        exact M.wp_pure (.int .i64 (bn : Int)) rfl (by rw [M.run_env [(63, .slice ab bn cb)] ⟨z63, trivial⟩ rfl (by kernel_rfl)]; kernel_rfl) (M.kz_of (k := .val (.int .i64 (bn : Int))) (by rw [hKS]; kernel_rfl) rfl)
                      · refine M.R.of rfl (by kernel_rfl) (.inr ⟨20, true, rfl, by decide, (by rw [hKS]; kernel_rfl), by kernel_rfl⟩) (fun Q listed a w h hd => ?_)
                        have z64 : a.tmps.getD 64 undef = .int .i64 (bn : Int) := M.kz_val (by rw [hKS]; kernel_rfl) (h.done 22 (by decide) (hd 22 (by kernel_rfl)))
                        exact M.wp_pure (.bool true) rfl (by rw [M.run_env [(64, .int .i64 (bn : Int))] ⟨z64, trivial⟩ rfl (by kernel_rfl)]; have f0 : M.env [(64, .int .i64 (bn : Int))] (.tmp 64) = .int .i64 (bn : Int) := rfl; simp only [execOp, f0, M.env_const]; go_simp) (M.kz_of (k := .val (.bool true)) (by rw [hKS]; kernel_rfl) rfl)
                      · refine M.R.of rfl (by kernel_rfl) (.inr ⟨20, true, rfl, by decide, (by rw [hKS]; kernel_rfl), by kernel_rfl⟩) (fun Q listed a w h hd => ?_)
                        have z65 : a.tmps.getD 65 undef = .bool true := M.kz_val (by rw [hKS]; kernel_rfl) (h.done 23 (by decide) (hd 23 (by kernel_rfl)))
                        exact M.wp_pure (.bool true) rfl (by rw [M.run_env [(65, .bool true)] ⟨z65, trivial⟩ rfl (by kernel_rfl)]; kernel_rfl) (M.kz_of (k := .val (.bool true)) (by rw [hKS]; kernel_rfl) rfl)
                      · exact M.R.skip rfl (by kernel_rfl) 24 false rfl (by decide) (u := .bool true) (by rw [hKS]; kernel_rfl) (by intro h; cases h) (by kernel_rfl) (by rw [hKS]; kernel_rfl)
                      · exact M.R.skip rfl (by kernel_rfl) 24 false rfl (by decide) (u := .bool true) (by rw [hKS]; kernel_rfl) (by intro h; cases h) (by kernel_rfl) (by rw [hKS]; kernel_rfl)
                      · exact M.R.skip rfl (by kernel_rfl) 24 false rfl (by decide) (u := .bool true) (by rw [hKS]; kernel_rfl) (by intro h; cases h) (by kernel_rfl) (by rw [hKS]; kernel_rfl)
                      · exact M.R.skip rfl (by kernel_rfl) 24 false rfl (by decide) (u := .bool true) (by rw [hKS]; kernel_rfl) (by intro h; cases h) (by kernel_rfl) (by rw [hKS]; kernel_rfl)
                      · exact M.R.skip rfl (by kernel_rfl) 24 false rfl (by decide) (u := .bool true) (by rw [hKS]; kernel_rfl) (by intro h; cases h) (by kernel_rfl) (by rw [hKS]; kernel_rfl)
                      · exact M.R.skip rfl (by kernel_rfl) 24 false rfl (by decide) (u := .bool true) (by rw [hKS]; kernel_rfl) (by intro h; cases h) (by kernel_rfl) (by rw [hKS]; kernel_rfl)
                      · exact M.R.skip rfl (by kernel_rfl) 24 false rfl (by decide) (u := .bool true) (by rw [hKS]; kernel_rfl) (by intro h; cases h) (by kernel_rfl) (by rw [hKS]; kernel_rfl)
                      · exact M.R.skip rfl (by kernel_rfl) 24 false rfl (by decide) (u := .bool true) (by rw [hKS]; kernel_rfl) (by intro h; cases h) (by kernel_rfl) (by rw [hKS]; kernel_rfl)
                      · refine M.R.of rfl (by kernel_rfl) (.inr ⟨20, true, rfl, by decide, (by rw [hKS]; kernel_rfl), by kernel_rfl⟩) (fun Q listed a w h hd => ?_)
                        have z66 : a.tmps.getD 66 undef = .bool true := M.kz_val (by rw [hKS]; kernel_rfl) (h.done 24 (by decide) (hd 24 (by kernel_rfl)))
                        have z74 : a.tmps.getD 74 undef = undef := M.kz_val (by rw [hKS]; kernel_rfl) (h.done 32 (by decide) (hd 32 (by kernel_rfl)))
                        exact M.wp_pure (.bool true) rfl (by rw [M.run_env [(66, .bool true), (74, undef)] ⟨z66, z74, trivial⟩ rfl (by kernel_rfl)]; kernel_rfl) (M.kz_of (k := .val (.bool true)) (by rw [hKS]; kernel_rfl) rfl)
                      · refine M.R.of rfl (by kernel_rfl) (.inr ⟨20, true, rfl, by decide, (by rw [hKS]; kernel_rfl), by kernel_rfl⟩) (fun Q listed a w h hd => ?_)
                        have z75 : a.tmps.getD 75 undef = .bool true := M.kz_val (by rw [hKS]; kernel_rfl) (h.done 33 (by decide) (hd 33 (by kernel_rfl)))
                        exact M.wp_pure (.bool true) rfl (by rw [M.run_env [(75, .bool true)] ⟨z75, trivial⟩ rfl (by kernel_rfl)]; kernel_rfl) (M.kz_of (k := .val (.bool true)) (by rw [hKS]; kernel_rfl) rfl)
                      · exact M.R.skip rfl (by kernel_rfl) 34 false rfl (by decide) (u := .bool true) (by rw [hKS]; kernel_rfl) (by intro h; cases h) (by kernel_rfl) (by rw [hKS]; kernel_rfl)
                      · exact M.R.skip rfl (by kernel_rfl) 34 false rfl (by decide) (u := .bool true) (by rw [hKS]; kernel_rfl) (by intro h; cases h) (by kernel_rfl) (by rw [hKS]; kernel_rfl)
                      · exact M.R.skip rfl (by kernel_rfl) 34 false rfl (by decide) (u := .bool true) (by rw [hKS]; kernel_rfl) (by intro h; cases h) (by kernel_rfl) (by rw [hKS]; kernel_rfl)
                      · exact M.R.skip rfl (by kernel_rfl) 34 false rfl (by decide) (u := .bool true) (by rw [hKS]; kernel_rfl) (by intro h; cases h) (by kernel_rfl) (by rw [hKS]; kernel_rfl)
                      · exact M.R.skip rfl (by kernel_rfl) 34 false rfl (by decide) (u := .bool true) (by rw [hKS]; kernel_rfl) (by intro h; cases h) (by kernel_rfl) (by rw [hKS]; kernel_rfl)
                      · exact M.R.skip rfl (by kernel_rfl) 34 false rfl (by decide) (u := .bool true) (by rw [hKS]; kernel_rfl) (by intro h; cases h) (by kernel_rfl) (by rw [hKS]; kernel_rfl)
                      · exact M.R.skip rfl (by kernel_rfl) 34 false rfl (by decide) (u := .bool true) (by rw [hKS]; kernel_rfl) (by intro h; cases h) (by kernel_rfl) (by rw [hKS]; kernel_rfl)
                      · refine M.R.of rfl (by kernel_rfl) (.inr ⟨20, true, rfl, by decide, (by rw [hKS]; kernel_rfl), by kernel_rfl⟩) (fun Q listed a w h hd => ?_)
                        have z76 : a.tmps.getD 76 undef = .bool true := M.kz_val (by rw [hKS]; kernel_rfl) (h.done 34 (by decide) (hd 34 (by kernel_rfl)))
                        have z83 : a.tmps.getD 83 undef = undef := M.kz_val (by rw [hKS]; kernel_rfl) (h.done 41 (by decide) (hd 41 (by kernel_rfl)))
                        exact M.wp_pure (.bool true) rfl (by rw [M.run_env [(76, .bool true), (83, undef)] ⟨z76, z83, trivial⟩ rfl (by kernel_rfl)]; kernel_rfl) (M.kz_of (k := .val (.bool true)) (by rw [hKS]; kernel_rfl) rfl)
                      · refine M.R.of rfl (by kernel_rfl) (.inl rfl) (fun Q listed a w h hd => ?_)
                        have z62 : a.tmps.getD 62 undef = .bool true := M.kz_val (by rw [hKS]; kernel_rfl) (h.done 20 (by decide) (hd 20 (by kernel_rfl)))
                        have z84 : a.tmps.getD 84 undef = .bool true := M.kz_val (by rw [hKS]; kernel_rfl) (h.done 42 (by decide) (hd 42 (by kernel_rfl)))
                        exact M.wp_pure (.bool true) rfl (by rw [M.run_env [(62, .bool true), (84, .bool true)] ⟨z62, z84, trivial⟩ rfl (by kernel_rfl)]; kernel_rfl) (M.kz_of (k := .val (.bool true)) (by rw [hKS]; kernel_rfl) rfl)
                    case refine_2 =>
                      intro a' w' hsz hd hb hbs hk
                      have e43 : a'.tmps.getD (42 + 43) undef = .bool true := M.kz_val (by rw [hKS]; kernel_rfl) (hk 43 (by decide))
                      obtain ⟨tmps, defers⟩ := a'
                      dsimp only at hsz
                      have hfr := M.frame (lo := 42) (n := 44) (A := tmps) (hb := fun s h => hbs s (fun j hj e => by unfold M.frD at e; omega)) (hs := by exact hsz) (hn := by show 86 ≤ 96; decide)
                      dsimp only at hfr e43 hd
                      obtain ⟨u, hu⟩ : ∃ u : Nat → Value, ∀ i, tmps.getD (42 + i) undef = u i := ⟨_, fun _ => rfl⟩
                      simp only [hu] at hfr e43
                      clear hu hk hbs hsz hKS
                      subst hfr
                      subst hd
                      simp only [List.take_succ_cons, List.take_zero, List.drop_succ_cons, List.drop_zero, List.range, List.range.loop, List.map_cons, List.map_nil, List.cons_append, List.nil_append, e43]
                      have HBW := hid (HFIN2.out w' hb)
                      have HRX := hid (HXR2.out w' hb)
                      have HRB2 := hid (HBR2.out w' hb)
                      have kx := (HCL2.out w' hb).2.2.1
                      go_wp2
                      go_roundw
                      case rel => exact ⟨q, by omega, by go_num, some ⟨xg, 0, none⟩, xc, cc, q, by rw [HXN.out], rfl, HRX.out, HMID.out.hit HQN.out (by rw [HFR.out]; rfl) HE.out, HBW.out⟩
                      case measure => simp [intOf]
                  · have h3' : ((bn : Int) == 0) = false := beq_eq_false_iff_ne.2 (by omega)
                    by_cases h4 : xn < bn
                    · have h4' : decide ((xn : Int) < (bn : Int)) = true := decide_eq_true (by omega)
                      have h4n : decide (xn < bn) = true := decide_eq_true h4
                      have HE := hid (HEL.out.2 (.inr (.inl h4)))
                      clear h3 h4
                      go_wp2_with fail
                      obtain ⟨KS, hKS⟩ : ∃ KS : List M.Ky, KS = [.val (.slice (some ⟨gL, 0, none⟩) xs.length cL), .val (.int .i64 (ix : Int)), .val (.pointer (some ⟨gL, ix, none⟩)), .val (.slice (some ⟨xg, 0, none⟩) xn xc), .val (.int .i64 (q : Int)), .val (.bool false), .val (.bool true), .val (.bool true), .val (.agg #[.int .i64 m, .slice (some ⟨bT, oT, none⟩) N c]), .val (.slice (some ⟨gL, 0, none⟩) xs.length cL), .val (.int .i64 (ix : Int)), .val (.pointer (some ⟨gL, ix, none⟩)), .val (.slice (some ⟨xg, 0, none⟩) xn xc), .val (.pointer (some ⟨g2, 1, none⟩)), .val (.slice (some ⟨bT, oT, none⟩) N c), .val (.int .i64 (q : Int)), .val (.pointer (some ⟨bT, oT + q, none⟩)), .val (.slice rq pl cq), .val (.bool true), .val (.bool true), .val (.bool true), .val (.slice ab bn cb), .val (.int .i64 (bn : Int)), .val (.bool false), .val (.bool false), .val (.slice (some ⟨gL, 0, none⟩) xs.length cL), .val (.int .i64 (ix : Int)), .val (.pointer (some ⟨gL, ix, none⟩)), .val (.slice (some ⟨xg, 0, none⟩) xn xc), .val (.int .i64 (xn : Int)), .val (.slice ab bn cb), .val (.int .i64 (bn : Int)), .val (.bool true), .val (.bool true), .val (.bool true), .val (undef), .val (undef), .val (undef), .val (undef), .val (undef), .val (undef), .val (undef), .val (.bool true), .val (.bool true)] := ⟨_, rfl⟩
                      refine M.region_inv2 44 96 M.frD (M.kz KS) (by kernel_rfl) rfl rfl (fun _ _ _ _ hb h => M.Ky.Holds.stays hb h) (fun i j _ _ h => by unfold M.frD at h; omega) (fun i hi => by unfold M.frD; omega) ?_ ?_
                      case refine_1 =>
                        intro T0 hT
                        have s2 : T0 2 = .pointer (some ⟨g2, 0, none⟩) := (hT 2).symm
                        have s8 : T0 8 = .slice ab bn cb := (hT 8).symm
                        have s10 : T0 10 = .slice (some ⟨gL, 0, none⟩) xs.length cL := (hT 10).symm
                        have s11 : T0 11 = .int .i64 (ix : Int) := (hT 11).symm
                        have s12 : T0 12 = .int .i64 (q : Int) := (hT 12).symm
                        clear hT
                        refine And.intro ?_ (And.intro ?_ (And.intro ?_ (And.intro ?_ (And.intro ?_ (And.intro ?_ (And.intro ?_ (And.intro ?_ (And.intro ?_ (And.intro ?_ (And.intro ?_ (And.intro ?_ (And.intro ?_ (And.intro ?_ (And.intro ?_ (And.intro ?_ (And.intro ?_ (And.intro ?_ (And.intro ?_ (And.intro ?_ (And.intro ?_ (And.intro ?_ (And.intro ?_ (And.intro ?_ (And.intro ?_ (And.intro ?_ (And.intro ?_ (And.intro ?_ (And.intro ?_ (And.intro ?_ (And.intro ?_ (And.intro ?_ (And.intro ?_ (And.intro ?_ (And.intro ?_ (And.intro ?_ (And.intro ?_ (And.intro ?_ (And.intro ?_ (And.intro ?_ (And.intro ?_ (And.intro ?_ (And.intro ?_ (And.intro ?_ (trivial))))))))))))))))))))))))))))))))))))))))))))
                        · refine M.R.of rfl (by kernel_rfl) (.inl rfl) (fun Q listed a w h hd => ?_)
                          have z10 : a.tmps.getD 10 undef = .slice (some ⟨gL, 0, none⟩) xs.length cL := (h.base 10 (by intro j hj; unfold M.frD; omega)).trans s10
                          exact M.wp_pure (.slice (some ⟨gL, 0, none⟩) xs.length cL) rfl (by rw [M.run_env [(10, .slice (some ⟨gL, 0, none⟩) xs.length cL)] ⟨z10, trivial⟩ rfl (by kernel_rfl)]; kernel_rfl) (M.kz_of (k := .val (.slice (some ⟨gL, 0, none⟩) xs.length cL)) (by rw [hKS]; kernel_rfl) rfl)
                        · refine M.R.of rfl (by kernel_rfl) (.inl rfl) (fun Q listed a w h hd => ?_)
                          have z11 : a.tmps.getD 11 undef = .int .i64 (ix : Int) := (h.base 11 (by intro j hj; unfold M.frD; omega)).trans s11
                          exact M.wp_pure (.int .i64 (ix : Int)) rfl (by rw [M.run_env [(11, .int .i64 (ix : Int))] ⟨z11, trivial⟩ rfl (by kernel_rfl)]; kernel_rfl) (M.kz_of (k := .val (.int .i64 (ix : Int))) (by rw [hKS]; kernel_rfl) rfl)
                        · refine M.R.of rfl (by kernel_rfl) (.inl rfl) (fun Q listed a w h hd => ?_)
                          have z42 : a.tmps.getD 42 undef = .slice (some ⟨gL, 0, none⟩) xs.length cL := M.kz_val (by rw [hKS]; kernel_rfl) (h.done 0 (by decide) (hd 0 (by kernel_rfl)))
                          have z43 : a.tmps.getD 43 undef = .int .i64 (ix : Int) := M.kz_val (by rw [hKS]; kernel_rfl) (h.done 1 (by decide) (hd 1 (by kernel_rfl)))
                          exact M.wp_pure (.pointer (some ⟨gL, ix, none⟩)) rfl (by rw [M.run_env [(42, .slice (some ⟨gL, 0, none⟩) xs.length cL), (43, .int .i64 (ix : Int))] ⟨z42, z43, trivial⟩ rfl (by kernel_rfl)]; have f0 : M.env [(42, .slice (some ⟨gL, 0, none⟩) xs.length cL), (43, .int .i64 (ix : Int))] (.tmp 42) = .slice (some ⟨gL, 0, none⟩) xs.length cL := rfl; have f1 : M.env [(42, .slice (some ⟨gL, 0, none⟩) xs.length cL), (43, .int .i64 (ix : Int))] (.tmp 43) = .int .i64 (ix : Int) := rfl; simp only [execOp, f0, f1]; go_simp) (M.kz_of (k := .val (.pointer (some ⟨gL, ix, none⟩))) (by rw [hKS]; kernel_rfl) rfl)
                        · refine M.R.of rfl (by kernel_rfl) (.inl rfl) (fun Q listed a w h hd => ?_)
                          have z44 : a.tmps.getD 44 undef = .pointer (some ⟨gL, ix, none⟩) := M.kz_val (by rw [hKS]; kernel_rfl) (h.done 2 (by decide) (hd 2 (by kernel_rfl)))
                          have k2 := (HCL2.out w h.below).2.2.1
                          exact M.wp_pure (.slice (some ⟨xg, 0, none⟩) xn xc) rfl (by rw [M.run_env [(44, .pointer (some ⟨gL, ix, none⟩))] ⟨z44, trivial⟩ rfl (by kernel_rfl)]; go_simp; simp [M.env, k2]) (M.kz_of (k := .val (.slice (some ⟨xg, 0, none⟩) xn xc)) (by rw [hKS]; kernel_rfl) rfl)
                        · refine M.R.of rfl (by kernel_rfl) (.inl rfl) (fun Q listed a w h hd => ?_)
                          have z12 : a.tmps.getD 12 undef = .int .i64 (q : Int) := (h.base 12 (by intro j hj; unfold M.frD; omega)).trans s12
                          exact M.wp_pure (.int .i64 (q : Int)) rfl (by rw [M.run_env [(12, .int .i64 (q : Int))] ⟨z12, trivial⟩ rfl (by kernel_rfl)]; kernel_rfl) (M.kz_of (k := .val (.int .i64 (q : Int))) (by rw [hKS]; kernel_rfl) rfl)
                        · refine M.R.of rfl (by kernel_rfl) (.inl rfl) (fun Q listed a w h hd => ?_)
                          have z45 : a.tmps.getD 45 undef = .slice (some ⟨xg, 0, none⟩) xn xc := M.kz_val (by rw [hKS]; kernel_rfl) (h.done 3 (by decide) (hd 3 (by kernel_rfl)))
                          have z46 : a.tmps.getD 46 undef = .int .i64 (q : Int) := M.kz_val (by rw [hKS]; kernel_rfl) (h.done 4 (by decide) (hd 4 (by kernel_rfl)))
                          refine M.wp_call 58 #[.slice (some ⟨xg, 0, none⟩) xn xc, .int .i64 (q : Int)] rfl (by rw [M.run_env [(45, .slice (some ⟨xg, 0, none⟩) xn xc), (46, .int .i64 (q : Int))] ⟨z45, z46, trivial⟩ rfl (by kernel_rfl)]; kernel_rfl) ?_
                          exact (HIN2.out w h.below).mono fun e w' ⟨h1, h2⟩ => ⟨_, h1, M.kz_of (k := .val (.bool false)) (by rw [hKS]; kernel_rfl) rfl, h2⟩
                        · refine M.R.of rfl (by kernel_rfl) (.inl rfl) (fun Q listed a w h hd => ?_)
                          have z47 : a.tmps.getD 47 undef = .bool false := M.kz_val (by rw [hKS]; kernel_rfl) (h.done 5 (by decide) (hd 5 (by kernel_rfl)))
                          exact M.wp_pure (.bool true) rfl (by rw [M.run_env [(47, .bool false)] ⟨z47, trivial⟩ rfl (by kernel_rfl)]; kernel_rfl) (M.kz_of (k := .val (.bool true)) (by rw [hKS]; kernel_rfl) rfl)
                        · refine M.R.of rfl (by kernel_rfl) (.inl rfl) (fun Q listed a w h hd => ?_)
                          have z48 : a.tmps.getD 48 undef = .bool true := M.kz_val (by rw [hKS]; kernel_rfl) (h.done 6 (by decide) (hd 6 (by kernel_rfl)))
                          exact M.wp_pure (.bool true) rfl (by rw [M.run_env [(48, .bool true)] ⟨z48, trivial⟩ rfl (by kernel_rfl)]; kernel_rfl) (M.kz_of (k := .val (.bool true)) (by rw [hKS]; kernel_rfl) rfl)
                        · refine M.R.of rfl (by kernel_rfl) (.inr ⟨7, true, rfl, by decide, (by rw [hKS]; kernel_rfl), by kernel_rfl⟩) (fun Q listed a w h hd => ?_)
                          have z2 : a.tmps.getD 2 undef = .pointer (some ⟨g2, 0, none⟩) := (h.base 2 (by intro j hj; unfold M.frD; omega)).trans s2
                          have k0 := (HCL2.out w h.below).1
                          have k1 := (HCL2.out w h.below).2.1
                          exact M.wp_pure (.agg #[.int .i64 m, .slice (some ⟨bT, oT, none⟩) N c]) rfl (by rw [M.run_env [(2, .pointer (some ⟨g2, 0, none⟩))] ⟨z2, trivial⟩ rfl (by kernel_rfl)]; go_simp; simp [M.env, k0, k1]) (M.kz_of (k := .val (.agg #[.int .i64 m, .slice (some ⟨bT, oT, none⟩) N c])) (by rw [hKS]; kernel_rfl) rfl)
                        · refine M.R.of rfl (by kernel_rfl) (.inr ⟨7, true, rfl, by decide, (by rw [hKS]; kernel_rfl), by kernel_rfl⟩) (fun Q listed a w h hd => ?_)
                          have z10 : a.tmps.getD 10 undef = .slice (some ⟨gL, 0, none⟩) xs.length cL := (h.base 10 (by intro j hj; unfold M.frD; omega)).trans s10
                          exact M.wp_pure (.slice (some ⟨gL, 0, none⟩) xs.length cL) rfl (by rw [M.run_env [(10, .slice (some ⟨gL, 0, none⟩) xs.length cL)] ⟨z10, trivial⟩ rfl (by kernel_rfl)]; kernel_rfl) (M.kz_of (k := .val (.slice (some ⟨gL, 0, none⟩) xs.length cL)) (by rw [hKS]; kernel_rfl) rfl)
                        · refine M.R.of rfl (by kernel_rfl) (.inr ⟨7, true, rfl, by decide, (by rw [hKS]; kernel_rfl), by kernel_rfl⟩) (fun Q listed a w h hd => ?_)
                          have z11 : a.tmps.getD 11 undef = .int .i64 (ix : Int) := (h.base 11 (by intro j hj; unfold M.frD; omega)).trans s11
                          exact M.wp_pure (.int .i64 (ix : Int)) rfl (by rw [M.run_env [(11, .int .i64 (ix : Int))] ⟨z11, trivial⟩ rfl (by kernel_rfl)]; kernel_rfl) (M.kz_of (k := .val (.int .i64 (ix : Int))) (by rw [hKS]; kernel_rfl) rfl)
                        · refine M.R.of rfl (by kernel_rfl) (.inr ⟨7, true, rfl, by decide, (by rw [hKS]; kernel_rfl), by kernel_rfl⟩) (fun Q listed a w h hd => ?_)
                          have z51 : a.tmps.getD 51 undef = .slice (some ⟨gL, 0, none⟩) xs.length cL := M.kz_val (by rw [hKS]; kernel_rfl) (h.done 9 (by decide) (hd 9 (by kernel_rfl)))
                          have z52 : a.tmps.getD 52 undef = .int .i64 (ix : Int) := M.kz_val (by rw [hKS]; kernel_rfl) (h.done 10 (by decide) (hd 10 (by kernel_rfl)))
                          exact M.wp_pure (.pointer (some ⟨gL, ix, none⟩)) rfl (by rw [M.run_env [(51, .slice (some ⟨gL, 0, none⟩) xs.length cL), (52, .int .i64 (ix : Int))] ⟨z51, z52, trivial⟩ rfl (by kernel_rfl)]; have f0 : M.env [(51, .slice (some ⟨gL, 0, none⟩) xs.length cL), (52, .int .i64 (ix : Int))] (.tmp 51) = .slice (some ⟨gL, 0, none⟩) xs.length cL := rfl; have f1 : M.env [(51, .slice (some ⟨gL, 0, none⟩) xs.length cL), (52, .int .i64 (ix : Int))] (.tmp 52) = .int .i64 (ix : Int) := rfl; simp only [execOp, f0, f1]; go_simp) (M.kz_of (k := .val (.pointer (some ⟨gL, ix, none⟩))) (by rw [hKS]; kernel_rfl) rfl)
                        · refine M.R.of rfl (by kernel_rfl) (.inr ⟨7, true, rfl, by decide, (by rw [hKS]; kernel_rfl), by kernel_rfl⟩) (fun Q listed a w h hd => ?_)
                          have z53 : a.tmps.getD 53 undef = .pointer (some ⟨gL, ix, none⟩) := M.kz_val (by rw [hKS]; kernel_rfl) (h.done 11 (by decide) (hd 11 (by kernel_rfl)))
                          have k2 := (HCL2.out w h.below).2.2.1
                          exact M.wp_pure (.slice (some ⟨xg, 0, none⟩) xn xc) rfl (by rw [M.run_env [(53, .pointer (some ⟨gL, ix, none⟩))] ⟨z53, trivial⟩ rfl (by kernel_rfl)]; go_simp; simp [M.env, k2]) (M.kz_of (k := .val (.slice (some ⟨xg, 0, none⟩) xn xc)) (by rw [hKS]; kernel_rfl) rfl)
                        · refine M.R.of rfl (by kernel_rfl) (.inr ⟨7, true, rfl, by decide, (by rw [hKS]; kernel_rfl), by kernel_rfl⟩) (fun Q listed a w h hd => ?_)
                          have z2 : a.tmps.getD 2 undef = .pointer (some ⟨g2, 0, none⟩) := (h.base 2 (by intro j hj; unfold M.frD; omega)).trans s2
                          exact M.wp_pure (.pointer (some ⟨g2, 1, none⟩)) rfl (by rw [M.run_env [(2, .pointer (some ⟨g2, 0, none⟩))] ⟨z2, trivial⟩ rfl (by kernel_rfl)]; kernel_rfl) (M.kz_of (k := .val (.pointer (some ⟨g2, 1, none⟩))) (by rw [hKS]; kernel_rfl) rfl)
                        · refine M.R.of rfl (by kernel_rfl) (.inr ⟨7, true, rfl, by decide, (by rw [hKS]; kernel_rfl), by kernel_rfl⟩) (fun Q listed a w h hd => ?_)
                          have z55 : a.tmps.getD 55 undef = .pointer (some ⟨g2, 1, none⟩) := M.kz_val (by rw [hKS]; kernel_rfl) (h.done 13 (by decide) (hd 13 (by kernel_rfl)))
                          have k1 := (HCL2.out w h.below).2.1
                          exact M.wp_pure (.slice (some ⟨bT, oT, none⟩) N c) rfl (by rw [M.run_env [(55, .pointer (some ⟨g2, 1, none⟩))] ⟨z55, trivial⟩ rfl (by kernel_rfl)]; go_simp; simp [M.env, k1]) (M.kz_of (k := .val (.slice (some ⟨bT, oT, none⟩) N c)) (by rw [hKS]; kernel_rfl) rfl)
                        · refine M.R.of rfl (by kernel_rfl) (.inr ⟨7, true, rfl, by decide, (by rw [hKS]; kernel_rfl), by kernel_rfl⟩) (fun Q listed a w h hd => ?_)
                          have z12 : a.tmps.getD 12 undef = .int .i64 (q : Int) := (h.base 12 (by intro j hj; unfold M.frD; omega)).trans s12
                          exact M.wp_pure (.int .i64 (q : Int)) rfl (by rw [M.run_env [(12, .int .i64 (q : Int))] ⟨z12, trivial⟩ rfl (by kernel_rfl)]; kernel_rfl) (M.kz_of (k := .val (.int .i64 (q : Int))) (by rw [hKS]; kernel_rfl) rfl)
                        · refine M.R.of rfl (by kernel_rfl) (.inr ⟨7, true, rfl, by decide, (by rw [hKS]; kernel_rfl), by kernel_rfl⟩) (fun Q listed a w h hd => ?_)
                          have z56 : a.tmps.getD 56 undef = .slice (some ⟨bT, oT, none⟩) N c := M.kz_val (by rw [hKS]; kernel_rfl) (h.done 14 (by decide) (hd 14 (by kernel_rfl)))
                          have z57 : a.tmps.getD 57 undef = .int .i64 (q : Int) := M.kz_val (by rw [hKS]; kernel_rfl) (h.done 15 (by decide) (hd 15 (by kernel_rfl)))
                          exact M.wp_pure (.pointer (some ⟨bT, oT + q, none⟩)) rfl (by rw [M.run_env [(56, .slice (some ⟨bT, oT, none⟩) N c), (57, .int .i64 (q : Int))] ⟨z56, z57, trivial⟩ rfl (by kernel_rfl)]; have f0 : M.env [(56, .slice (some ⟨bT, oT, none⟩) N c), (57, .int .i64 (q : Int))] (.tmp 56) = .slice (some ⟨bT, oT, none⟩) N c := rfl; have f1 : M.env [(56, .slice (some ⟨bT, oT, none⟩) N c), (57, .int .i64 (q : Int))] (.tmp 57) = .int .i64 (q : Int) := rfl; simp only [execOp, f0, f1]; go_simp) (M.kz_of (k := .val (.pointer (some ⟨bT, oT + q, none⟩))) (by rw [hKS]; kernel_rfl) rfl)
                        · refine M.R.of rfl (by kernel_rfl) (.inr ⟨7, true, rfl, by decide, (by rw [hKS]; kernel_rfl), by kernel_rfl⟩) (fun Q listed a w h hd => ?_)
                          have z58 : a.tmps.getD 58 undef = .pointer (some ⟨bT, oT + q, none⟩) := M.kz_val (by rw [hKS]; kernel_rfl) (h.done 16 (by decide) (hd 16 (by kernel_rfl)))
                          have k3 := (HCL2.out w h.below).2.2.2
                          exact M.wp_pure (.slice rq pl cq) rfl (by rw [M.run_env [(58, .pointer (some ⟨bT, oT + q, none⟩))] ⟨z58, trivial⟩ rfl (by kernel_rfl)]; go_simp; simp [M.env, k3]) (M.kz_of (k := .val (.slice rq pl cq)) (by rw [hKS]; kernel_rfl) rfl)
                        · refine M.R.of rfl (by kernel_rfl) (.inr ⟨7, true, rfl, by decide, (by rw [hKS]; kernel_rfl), by kernel_rfl⟩) (fun Q listed a w h hd => ?_)
                          have z50 : a.tmps.getD 50 undef = .agg #[.int .i64 m, .slice (some ⟨bT, oT, none⟩) N c] := M.kz_val (by rw [hKS]; kernel_rfl) (h.done 8 (by decide) (hd 8 (by kernel_rfl)))
                          have z54 : a.tmps.getD 54 undef = .slice (some ⟨xg, 0, none⟩) xn xc := M.kz_val (by rw [hKS]; kernel_rfl) (h.done 12 (by decide) (hd 12 (by kernel_rfl)))
                          have z59 : a.tmps.getD 59 undef = .slice rq pl cq := M.kz_val (by rw [hKS]; kernel_rfl) (h.done 17 (by decide) (hd 17 (by kernel_rfl)))
                          refine M.wp_call 52 #[.agg #[.int .i64 m, .slice (some ⟨bT, oT, none⟩) N c], .slice (some ⟨xg, 0, none⟩) xn xc, .slice rq pl cq] rfl (by rw [M.run_env [(50, .agg #[.int .i64 m, .slice (some ⟨bT, oT, none⟩) N c]), (54, .slice (some ⟨xg, 0, none⟩) xn xc), (59, .slice rq pl cq)] ⟨z50, z54, z59, trivial⟩ rfl (by kernel_rfl)]; kernel_rfl) ?_
                          exact (HMK2.out w h.below).mono fun e w' ⟨h1, h2⟩ => ⟨_, h1, M.kz_of (k := .val (.bool true)) (by rw [hKS]; kernel_rfl) rfl, h2⟩
                        · refine M.R.of rfl (by kernel_rfl) (.inl rfl) (fun Q listed a w h hd => ?_)
                          have z49 : a.tmps.getD 49 undef = .bool true := M.kz_val (by rw [hKS]; kernel_rfl) (h.done 7 (by decide) (hd 7 (by kernel_rfl)))
                          have z60 : a.tmps.getD 60 undef = .bool true := M.kz_val (by rw [hKS]; kernel_rfl) (h.done 18 (by decide) (hd 18 (by kernel_rfl)))
                          exact M.wp_pure (.bool true) rfl (by rw [M.run_env [(49, .bool true), (60, .bool true)] ⟨z49, z60, trivial⟩ rfl (by kernel_rfl)]; kernel_rfl) (M.kz_of (k := .val (.bool true)) (by rw [hKS]; kernel_rfl) rfl)
                        · refine M.R.of rfl (by kernel_rfl) (.inl rfl) (fun Q listed a w h hd => ?_)
                          have z61 : a.tmps.getD 61 undef = .bool true := M.kz_val (by rw [hKS]; kernel_rfl) (h.done 19 (by decide) (hd 19 (by kernel_rfl)))
                          exact M.wp_pure (.bool true) rfl (by rw [M.run_env [(61, .bool true)] ⟨z61, trivial⟩ rfl (by kernel_rfl)]; kernel_rfl) (M.kz_of (k := .val (.bool true)) (by rw [hKS]; kernel_rfl) rfl)
                        · refine M.R.of rfl (by kernel_rfl) (.inr ⟨20, true, rfl, by decide, (by rw [hKS]; kernel_rfl), by kernel_rfl⟩) (fun Q listed a w h hd => ?_)
                          have z8 : a.tmps.getD 8 undef = .slice ab bn cb := (h.base 8 (by intro j hj; unfold M.frD; omega)).trans s8
                          exact M.wp_pure (.slice ab bn cb) rfl (by rw [M.run_env [(8, .slice ab bn cb)] ⟨z8, trivial⟩ rfl (by kernel_rfl)]; kernel_rfl) (M.kz_of (k := .val (.slice ab bn cb)) (by rw [hKS]; kernel_rfl) rfl)
                        · refine M.R.of rfl (by kernel_rfl) (.inr ⟨20, true, rfl, by decide, (by rw [hKS]; kernel_rfl), by kernel_rfl⟩) (fun Q listed a w h hd => ?_)
                          have z63 : a.tmps.getD 63 undef = .slice ab bn cb := M.kz_val (by rw [hKS]; kernel_rfl) (h.done 21 (by decide) (hd 21 (by kernel_rfl)))
                          exact M.wp_pure (.int .i64 (bn : Int)) rfl (by rw [M.run_env [(63, .slice ab bn cb)] ⟨z63, trivial⟩ rfl (by kernel_rfl)]; kernel_rfl) (M.kz_of (k := .val (.int .i64 (bn : Int))) (by rw [hKS]; kernel_rfl) rfl)
                        · refine M.R.of rfl (by kernel_rfl) (.inr ⟨20, true, rfl, by decide, (by rw [hKS]; kernel_rfl), by kernel_rfl⟩) (fun Q listed a w h hd => ?_)
                          have z64 : a.tmps.getD 64 undef = .int .i64 (bn : Int) := M.kz_val (by rw [hKS]; kernel_rfl) (h.done 22 (by decide) (hd 22 (by kernel_rfl)))
                          exact M.wp_pure (.bool false) rfl (by rw [M.run_env [(64, .int .i64 (bn : Int))] ⟨z64, trivial⟩ rfl (by kernel_rfl)]; have f0 : M.env [(64, .int .i64 (bn : Int))] (.tmp 64) = .int .i64 (bn : Int) := rfl; simp only [execOp, f0, M.env_const]; go_simp) (M.kz_of (k := .val (.bool false)) (by rw [hKS]; kernel_rfl) rfl)
                        · refine M.R.of rfl (by kernel_rfl) (.inr ⟨20, true, rfl, by decide, (by rw [hKS]; kernel_rfl), by kernel_rfl⟩) (fun Q listed a w h hd => ?_)
                          have z65 : a.tmps.getD 65 undef = .bool false := M.kz_val (by rw [hKS]; kernel_rfl) (h.done 23 (by decide) (hd 23 (by kernel_rfl)))
                          exact M.wp_pure (.bool false) rfl (by rw [M.run_env [(65, .bool false)] ⟨z65, trivial⟩ rfl (by kernel_rfl)]; kernel_rfl) (M.kz_of (k := .val (.bool false)) (by rw [hKS]; kernel_rfl) rfl)
                        · refine M.R.of rfl (by kernel_rfl) (.inr ⟨24, false, rfl, by decide, (by rw [hKS]; kernel_rfl), by kernel_rfl⟩) (fun Q listed a w h hd => ?_)
                          have z10 : a.tmps.getD 10 undef = .slice (some ⟨gL, 0, none⟩) xs.length cL := (h.base 10 (by intro j hj; unfold M.frD; omega)).trans s10
                          exact M.wp_pure (.slice (some ⟨gL, 0, none⟩) xs.length cL) rfl (by rw [M.run_env [(10, .slice (some ⟨gL, 0, none⟩) xs.length cL)] ⟨z10, trivial⟩ rfl (by kernel_rfl)]; kernel_rfl) (M.kz_of (k := .val (.slice (some ⟨gL, 0, none⟩) xs.length cL)) (by rw [hKS]; kernel_rfl) rfl)
                        · refine M.R.of rfl (by kernel_rfl) (.inr ⟨24, false, rfl, by decide, (by rw [hKS]; kernel_rfl), by kernel_rfl⟩) (fun Q listed a w h hd => ?_)
                          have z11 : a.tmps.getD 11 undef = .int .i64 (ix : Int) := (h.base 11 (by intro j hj; unfold M.frD; omega)).trans s11
                          exact M.wp_pure (.int .i64 (ix : Int)) rfl (by rw [M.run_env [(11, .int .i64 (ix : Int))] ⟨z11, trivial⟩ rfl (by kernel_rfl)]; kernel_rfl) (M.kz_of (k := .val (.int .i64 (ix : Int))) (by rw [hKS]; kernel_rfl) rfl)
                        · refine M.R.of rfl (by kernel_rfl) (.inr ⟨24, false, rfl, by decide, (by rw [hKS]; kernel_rfl), by kernel_rfl⟩) (fun Q listed a w h hd => ?_)
                          have z67 : a.tmps.getD 67 undef = .slice (some ⟨gL, 0, none⟩) xs.length cL := M.kz_val (by rw [hKS]; kernel_rfl) (h.done 25 (by decide) (hd 25 (by kernel_rfl)))
                          have z68 : a.tmps.getD 68 undef = .int .i64 (ix : Int) := M.kz_val (by rw [hKS]; kernel_rfl) (h.done 26 (by decide) (hd 26 (by kernel_rfl)))
                          exact M.wp_pure (.pointer (some ⟨gL, ix, none⟩)) rfl (by rw [M.run_env [(67, .slice (some ⟨gL, 0, none⟩) xs.length cL), (68, .int .i64 (ix : Int))] ⟨z67, z68, trivial⟩ rfl (by kernel_rfl)]; have f0 : M.env [(67, .slice (some ⟨gL, 0, none⟩) xs.length cL), (68, .int .i64 (ix : Int))] (.tmp 67) = .slice (some ⟨gL, 0, none⟩) xs.length cL := rfl; have f1 : M.env [(67, .slice (some ⟨gL, 0, none⟩) xs.length cL), (68, .int .i64 (ix : Int))] (.tmp 68) = .int .i64 (ix : Int) := rfl; simp only [execOp, f0, f1]; go_simp) (M.kz_of (k := .val (.pointer (some ⟨gL, ix, none⟩))) (by rw [hKS]; kernel_rfl) rfl)
                        · refine M.R.of rfl (by kernel_rfl) (.inr ⟨24, false, rfl, by decide, (by rw [hKS]; kernel_rfl), by kernel_rfl⟩) (fun Q listed a w h hd => ?_)
                          have z69 : a.tmps.getD 69 undef = .pointer (some ⟨gL, ix, none⟩) := M.kz_val (by rw [hKS]; kernel_rfl) (h.done 27 (by decide) (hd 27 (by kernel_rfl)))
                          have k2 := (HCL2.out w h.below).2.2.1
                          exact M.wp_pure (.slice (some ⟨xg, 0, none⟩) xn xc) rfl (by rw [M.run_env [(69, .pointer (some ⟨gL, ix, none⟩))] ⟨z69, trivial⟩ rfl (by kernel_rfl)]; go_simp; simp [M.env, k2]) (M.kz_of (k := .val (.slice (some ⟨xg, 0, none⟩) xn xc)) (by rw [hKS]; kernel_rfl) rfl)
                        · refine M.R.of rfl (by kernel_rfl) (.inr ⟨24, false, rfl, by decide, (by rw [hKS]; kernel_rfl), by kernel_rfl⟩) (fun Q listed a w h hd => ?_)
                          have z70 : a.tmps.getD 70 undef = .slice (some ⟨xg, 0, none⟩) xn xc := M.kz_val (by rw [hKS]; kernel_rfl) (h.done 28 (by decide) (hd 28 (by kernel_rfl)))
                          exact M.wp_pure (.int .i64 (xn : Int)) rfl (by rw [M.run_env [(70, .slice (some ⟨xg, 0, none⟩) xn xc)] ⟨z70, trivial⟩ rfl (by kernel_rfl)]; kernel_rfl) (M.kz_of (k := .val (.int .i64 (xn : Int))) (by rw [hKS]; kernel_rfl) rfl)
                        · refine M.R.of rfl (by kernel_rfl) (.inr ⟨24, false, rfl, by decide, (by rw [hKS]; kernel_rfl), by kernel_rfl⟩) (fun Q listed a w h hd => ?_)
                          have z8 : a.tmps.getD 8 undef = .slice ab bn cb := (h.base 8 (by intro j hj; unfold M.frD; omega)).trans s8
                          exact M.wp_pure (.slice ab bn cb) rfl (by rw [M.run_env [(8, .slice ab bn cb)] ⟨z8, trivial⟩ rfl (by kernel_rfl)]; kernel_rfl) (M.kz_of (k := .val (.slice ab bn cb)) (by rw [hKS]; kernel_rfl) rfl)
                        · refine M.R.of rfl (by kernel_rfl) (.inr ⟨24, false, rfl, by decide, (by rw [hKS]; kernel_rfl), by kernel_rfl⟩) (fun Q listed a w h hd => ?_)
                          have z72 : a.tmps.getD 72 undef = .slice ab bn cb := M.kz_val (by rw [hKS]; kernel_rfl) (h.done 30 (by decide) (hd 30 (by kernel_rfl)))
                          exact M.wp_pure (.int .i64 (bn : Int)) rfl (by rw [M.run_env [(72, .slice ab bn cb)] ⟨z72, trivial⟩ rfl (by kernel_rfl)]; kernel_rfl) (M.kz_of (k := .val (.int .i64 (bn : Int))) (by rw [hKS]; kernel_rfl) rfl)
                        · refine M.R.of rfl (by kernel_rfl) (.inr ⟨24, false, rfl, by decide, (by rw [hKS]; kernel_rfl), by kernel_rfl⟩) (fun Q listed a w h hd => ?_)
                          have z71 : a.tmps.getD 71 undef = .int .i64 (xn : Int) := M.kz_val (by rw [hKS]; kernel_rfl) (h.done 29 (by decide) (hd 29 (by kernel_rfl)))
                          have z73 : a.tmps.getD 73 undef = .int .i64 (bn : Int) := M.kz_val (by rw [hKS]; kernel_rfl) (h.done 31 (by decide) (hd 31 (by kernel_rfl)))
                          exact M.wp_pure (.bool true) rfl (by rw [M.run_env [(71, .int .i64 (xn : Int)), (73, .int .i64 (bn : Int))] ⟨z71, z73, trivial⟩ rfl (by kernel_rfl)]; have f0 : M.env [(71, .int .i64 (xn : Int)), (73, .int .i64 (bn : Int))] (.tmp 71) = .int .i64 (xn : Int) := rfl; have f1 : M.env [(71, .int .i64 (xn : Int)), (73, .int .i64 (bn : Int))] (.tmp 73) = .int .i64 (bn : Int) := rfl; simp only [execOp, f0, f1]; go_simp) (M.kz_of (k := .val (.bool true)) (by rw [hKS]; kernel_rfl) rfl)
                        · refine M.R.of rfl (by kernel_rfl) (.inr ⟨20, true, rfl, by decide, (by rw [hKS]; kernel_rfl), by kernel_rfl⟩) (fun Q listed a w h hd => ?_)
                          have z66 : a.tmps.getD 66 undef = .bool false := M.kz_val (by rw [hKS]; kernel_rfl) (h.done 24 (by decide) (hd 24 (by kernel_rfl)))
                          have z74 : a.tmps.getD 74 undef = .bool true := M.kz_val (by rw [hKS]; kernel_rfl) (h.done 32 (by decide) (hd 32 (by kernel_rfl)))
                          exact M.wp_pure (.bool true) rfl (by rw [M.run_env [(66, .bool false), (74, .bool true)] ⟨z66, z74, trivial⟩ rfl (by kernel_rfl)]; kernel_rfl) (M.kz_of (k := .val (.bool true)) (by rw [hKS]; kernel_rfl) rfl)
                        · refine M.R.of rfl (by kernel_rfl) (.inr ⟨20, true, rfl, by decide, (by rw [hKS]; kernel_rfl), by kernel_rfl⟩) (fun Q listed a w h hd => ?_)
                          have z75 : a.tmps.getD 75 undef = .bool true := M.kz_val (by rw [hKS]; kernel_rfl) (h.done 33 (by decide) (hd 33 (by kernel_rfl)))
                          exact M.wp_pure (.bool true) rfl (by rw [M.run_env [(75, .bool true)] ⟨z75, trivial⟩ rfl (by kernel_rfl)]; kernel_rfl) (M.kz_of (k := .val (.bool true)) (by rw [hKS]; kernel_rfl) rfl)
                        · exact M.R.skip rfl (by kernel_rfl) 34 false rfl (by decide) (u := .bool true) (by rw [hKS]; kernel_rfl) (by intro h; cases h) (by kernel_rfl) (by rw [hKS]; kernel_rfl)
                        · exact M.R.skip rfl (by kernel_rfl) 34 false rfl (by decide) (u := .bool true) (by rw [hKS]; kernel_rfl) (by intro h; cases h) (by kernel_rfl) (by rw [hKS]; kernel_rfl)
                        · exact M.R.skip rfl (by kernel_rfl) 34 false rfl (by decide) (u := .bool true) (by rw [hKS]; kernel_rfl) (by intro h; cases h) (by kernel_rfl) (by rw [hKS]; kernel_rfl)
                        · exact M.R.skip rfl (by kernel_rfl) 34 false rfl (by decide) (u := .bool true) (by rw [hKS]; kernel_rfl) (by intro h; cases h) (by kernel_rfl) (by rw [hKS]; kernel_rfl)
                        · exact M.R.skip rfl (by kernel_rfl) 34 false rfl (by decide) (u := .bool true) (by rw [hKS]; kernel_rfl) (by intro h; cases h) (by kernel_rfl) (by rw [hKS]; kernel_rfl)
                        · exact M.R.skip rfl (by kernel_rfl) 34 false rfl (by decide) (u := .bool true) (by rw [hKS]; kernel_rfl) (by intro h; cases h) (by kernel_rfl) (by rw [hKS]; kernel_rfl)
                        · exact M.R.skip rfl (by kernel_rfl) 34 false rfl (by decide) (u := .bool true) (by rw [hKS]; kernel_rfl) (by intro h; cases h) (by kernel_rfl) (by rw [hKS]; kernel_rfl)
                        · refine M.R.of rfl (by kernel_rfl) (.inr ⟨20, true, rfl, by decide, (by rw [hKS]; kernel_rfl), by kernel_rfl⟩) (fun Q listed a w h hd => ?_)
                          have z76 : a.tmps.getD 76 undef = .bool true := M.kz_val (by rw [hKS]; kernel_rfl) (h.done 34 (by decide) (hd 34 (by kernel_rfl)))
                          have z83 : a.tmps.getD 83 undef = undef := M.kz_val (by rw [hKS]; kernel_rfl) (h.done 41 (by decide) (hd 41 (by kernel_rfl)))
                          exact M.wp_pure (.bool true) rfl (by rw [M.run_env [(76, .bool true), (83, undef)] ⟨z76, z83, trivial⟩ rfl (by kernel_rfl)]; kernel_rfl) (M.kz_of (k := .val (.bool true)) (by rw [hKS]; kernel_rfl) rfl)
                        · refine M.R.of rfl (by kernel_rfl) (.inl rfl) (fun Q listed a w h hd => ?_)
                          have z62 : a.tmps.getD 62 undef = .bool true := M.kz_val (by rw [hKS]; kernel_rfl) (h.done 20 (by decide) (hd 20 (by kernel_rfl)))
                          have z84 : a.tmps.getD 84 undef = .bool true := M.kz_val (by rw [hKS]; kernel_rfl) (h.done 42 (by decide) (hd 42 (by kernel_rfl)))
                          exact M.wp_pure (.bool true) rfl (by rw [M.run_env [(62, .bool true), (84, .bool true)] ⟨z62, z84, trivial⟩ rfl (by kernel_rfl)]; kernel_rfl) (M.kz_of (k := .val (.bool true)) (by rw [hKS]; kernel_rfl) rfl)
                      case refine_2 =>
                        intro a' w' hsz hd hb hbs hk
                        have e43 : a'.tmps.getD (42 + 43) undef = .bool true := M.kz_val (by rw [hKS]; kernel_rfl) (hk 43 (by decide))
                        obtain ⟨tmps, defers⟩ := a'
                        dsimp only at hsz
                        have hfr := M.frame (lo := 42) (n := 44) (A := tmps) (hb := fun s h => hbs s (fun j hj e => by unfold M.frD at e; omega)) (hs := by exact hsz) (hn := by show 86 ≤ 96; decide)
                        dsimp only at hfr e43 hd
                        obtain ⟨u, hu⟩ : ∃ u : Nat → Value, ∀ i, tmps.getD (42 + i) undef = u i := ⟨_, fun _ => rfl⟩
                        simp only [hu] at hfr e43
                        clear hu hk hbs hsz hKS
                        subst hfr
                        subst hd
                        simp only [List.take_succ_cons, List.take_zero, List.drop_succ_cons, List.drop_zero, List.range, List.range.loop, List.map_cons, List.map_nil, List.cons_append, List.nil_append, e43]
                        have HBW := hid (HFIN2.out w' hb)
                        have HRX := hid (HXR2.out w' hb)
                        have HRB2 := hid (HBR2.out w' hb)
                        have kx := (HCL2.out w' hb).2.2.1
                        go_wp2
                        go_roundw
                        case rel => exact ⟨q, by omega, by go_num, some ⟨xg, 0, none⟩, xc, cc, q, by rw [HXN.out], rfl, HRX.out, HMID.out.hit HQN.out (by rw [HFR.out]; rfl) HE.out, HBW.out⟩
                        case measure => simp [intOf]
                    · have h4' : decide ((xn : Int) < (bn : Int)) = false := decide_eq_false (by omega)
                      have h4n : decide (xn < bn) = false := decide_eq_false h4
                      cases b5 with
                      | false =>
                        have HE := hid (HEL.out.2 (.inr (.inr rfl)))
                        clear h3 h4
                        go_wp2_with fail
                        obtain ⟨KS, hKS⟩ : ∃ KS : List M.Ky, KS = [.val (.slice (some ⟨gL, 0, none⟩) xs.length cL), .val (.int .i64 (ix : Int)), .val (.pointer (some ⟨gL, ix, none⟩)), .val (.slice (some ⟨xg, 0, none⟩) xn xc), .val (.int .i64 (q : Int)), .val (.bool false), .val (.bool true), .val (.bool true), .val (.agg #[.int .i64 m, .slice (some ⟨bT, oT, none⟩) N c]), .val (.slice (some ⟨gL, 0, none⟩) xs.length cL), .val (.int .i64 (ix : Int)), .val (.pointer (some ⟨gL, ix, none⟩)), .val (.slice (some ⟨xg, 0, none⟩) xn xc), .val (.pointer (some ⟨g2, 1, none⟩)), .val (.slice (some ⟨bT, oT, none⟩) N c), .val (.int .i64 (q : Int)), .val (.pointer (some ⟨bT, oT + q, none⟩)), .val (.slice rq pl cq), .val (.bool true), .val (.bool true), .val (.bool true), .val (.slice ab bn cb), .val (.int .i64 (bn : Int)), .val (.bool false), .val (.bool false), .val (.slice (some ⟨gL, 0, none⟩) xs.length cL), .val (.int .i64 (ix : Int)), .val (.pointer (some ⟨gL, ix, none⟩)), .val (.slice (some ⟨xg, 0, none⟩) xn xc), .val (.int .i64 (xn : Int)), .val (.slice ab bn cb), .val (.int .i64 (bn : Int)), .val (.bool false), .val (.bool false), .val (.bool false), .val (.slice ab bn cb), .val (.slice (some ⟨gL, 0, none⟩) xs.length cL), .val (.int .i64 (ix : Int)), .val (.pointer (some ⟨gL, ix, none⟩)), .val (.slice (some ⟨xg, 0, none⟩) xn xc), .val (.bool false), .val (.bool true), .val (.bool true), .val (.bool true)] := ⟨_, rfl⟩
                        refine M.region_inv2 44 96 M.frD (M.kz KS) (by kernel_rfl) rfl rfl (fun _ _ _ _ hb h => M.Ky.Holds.stays hb h) (fun i j _ _ h => by unfold M.frD at h; omega) (fun i hi => by unfold M.frD; omega) ?_ ?_
                        case refine_1 =>
                          intro T0 hT
                          have s2 : T0 2 = .pointer (some ⟨g2, 0, none⟩) := (hT 2).symm
                          have s8 : T0 8 = .slice ab bn cb := (hT 8).symm
                          have s10 : T0 10 = .slice (some ⟨gL, 0, none⟩) xs.length cL := (hT 10).symm
                          have s11 : T0 11 = .int .i64 (ix : Int) := (hT 11).symm
                          have s12 : T0 12 = .int .i64 (q : Int) := (hT 12).symm
                          clear hT
                          refine And.intro ?_ (And.intro ?_ (And.intro ?_ (And.intro ?_ (And.intro ?_ (And.intro ?_ (And.intro ?_ (And.intro ?_ (And.intro ?_ (And.intro ?_ (And.intro ?_ (And.intro ?_ (And.intro ?_ (And.intro ?_ (And.intro ?_ (And.intro ?_ (And.intro ?_ (And.intro ?_ (And.intro ?_ (And.intro ?_ (And.intro ?_ (And.intro ?_ (And.intro ?_ (And.intro ?_ (And.intro ?_ (And.intro ?_ (And.intro ?_ (And.intro ?_ (And.intro ?_ (And.intro ?_ (And.intro ?_ (And.intro ?_ (And.intro ?_ (And.intro ?_ (And.intro ?_ (And.intro ?_ (And.intro ?_ (And.intro ?_ (And.intro ?_ (And.intro ?_ (And.intro ?_ (And.intro ?_ (And.intro ?_ (And.intro ?_ (trivial))))))))))))))))))))))))))))))))))))))))))))
                          · refine M.R.of rfl (by kernel_rfl) (.inl rfl) (fun Q listed a w h hd => ?_)
                            have z10 : a.tmps.getD 10 undef = .slice (some ⟨gL, 0, none⟩) xs.length cL := (h.base 10 (by intro j hj; unfold M.frD; omega)).trans s10
                            exact M.wp_pure (.slice (some ⟨gL, 0, none⟩) xs.length cL) rfl (by rw [M.run_env [(10, .slice (some ⟨gL, 0, none⟩) xs.length cL)] ⟨z10, trivial⟩ rfl (by kernel_rfl)]; kernel_rfl) (M.kz_of (k := .val (.slice (some ⟨gL, 0, none⟩) xs.length cL)) (by rw [hKS]; kernel_rfl) rfl)
                          · refine M.R.of rfl (by kernel_rfl) (.inl rfl) (fun Q listed a w h hd => ?_)
                            have z11 : a.tmps.getD 11 undef = .int .i64 (ix : Int) := (h.base 11 (by intro j hj; unfold M.frD; omega)).trans s11
                            exact M.wp_pure (.int .i64 (ix : Int)) rfl (by rw [M.run_env [(11, .int .i64 (ix : Int))] ⟨z11, trivial⟩ rfl (by kernel_rfl)]; kernel_rfl) (M.kz_of (k := .val (.int .i64 (ix : Int))) (by rw [hKS]; kernel_rfl) rfl)
                          · refine M.R.of rfl (by kernel_rfl) (.inl rfl) (fun Q listed a w h hd => ?_)
                            have z42 : a.tmps.getD 42 undef = .slice (some ⟨gL, 0, none⟩) xs.length cL := M.kz_val (by rw [hKS]; kernel_rfl) (h.done 0 (by decide) (hd 0 (by kernel_rfl)))
                            have z43 : a.tmps.getD 43 undef = .int .i64 (ix : Int) := M.kz_val (by rw [hKS]; kernel_rfl) (h.done 1 (by decide) (hd 1 (by kernel_rfl)))
                            exact M.wp_pure (.pointer (some ⟨gL, ix, none⟩)) rfl (by rw [M.run_env [(42, .slice (some ⟨gL, 0, none⟩) xs.length cL), (43, .int .i64 (ix : Int))] ⟨z42, z43, trivial⟩ rfl (by kernel_rfl)]; have f0 : M.env [(42, .slice (some ⟨gL, 0, none⟩) xs.length cL), (43, .int .i64 (ix : Int))] (.tmp 42) = .slice (some ⟨gL, 0, none⟩) xs.length cL := rfl; have f1 : M.env [(42, .slice (some ⟨gL, 0, none⟩) xs.length cL), (43, .int .i64 (ix : Int))] (.tmp 43) = .int .i64 (ix : Int) := rfl; simp only [execOp, f0, f1]; go_simp) (M.kz_of (k := .val (.pointer (some ⟨gL, ix, none⟩))) (by rw [hKS]; kernel_rfl) rfl)
                          · refine M.R.of rfl (by kernel_rfl) (.inl rfl) (fun Q listed a w h hd => ?_)
                            have z44 : a.tmps.getD 44 undef = .pointer (some ⟨gL, ix, none⟩) := M.kz_val (by rw [hKS]; kernel_rfl) (h.done 2 (by decide) (hd 2 (by kernel_rfl)))
                            have k2 := (HCL2.out w h.below).2.2.1
                            exact M.wp_pure (.slice (some ⟨xg, 0, none⟩) xn xc) rfl (by rw [M.run_env [(44, .pointer (some ⟨gL, ix, none⟩))] ⟨z44, trivial⟩ rfl (by kernel_rfl)]; go_simp; simp [M.env, k2]) (M.kz_of (k := .val (.slice (some ⟨xg, 0, none⟩) xn xc)) (by rw [hKS]; kernel_rfl) rfl)
                          · refine M.R.of rfl (by kernel_rfl) (.inl rfl) (fun Q listed a w h hd => ?_)
                            have z12 : a.tmps.getD 12 undef = .int .i64 (q : Int) := (h.base 12 (by intro j hj; unfold M.frD; omega)).trans s12
                            exact M.wp_pure (.int .i64 (q : Int)) rfl (by rw [M.run_env [(12, .int .i64 (q : Int))] ⟨z12, trivial⟩ rfl (by kernel_rfl)]; kernel_rfl) (M.kz_of (k := .val (.int .i64 (q : Int))) (by rw [hKS]; kernel_rfl) rfl)
                          · refine M.R.of rfl (by kernel_rfl) (.inl rfl) (fun Q listed a w h hd => ?_)
                            have z45 : a.tmps.getD 45 undef = .slice (some ⟨xg, 0, none⟩) xn xc := M.kz_val (by rw [hKS]; kernel_rfl) (h.done 3 (by decide) (hd 3 (by kernel_rfl)))
                            have z46 : a.tmps.getD 46 undef = .int .i64 (q : Int) := M.kz_val (by rw [hKS]; kernel_rfl) (h.done 4 (by decide) (hd 4 (by kernel_rfl)))
                            refine M.wp_call 58 #[.slice (some ⟨xg, 0, none⟩) xn xc, .int .i64 (q : Int)] rfl (by rw [M.run_env [(45, .slice (some ⟨xg, 0, none⟩) xn xc), (46, .int .i64 (q : Int))] ⟨z45, z46, trivial⟩ rfl (by kernel_rfl)]; kernel_rfl) ?_
                            exact (HIN2.out w h.below).mono fun e w' ⟨h1, h2⟩ => ⟨_, h1, M.kz_of (k := .val (.bool false)) (by rw [hKS]; kernel_rfl) rfl, h2⟩
                          · refine M.R.of rfl (by kernel_rfl) (.inl rfl) (fun Q listed a w h hd => ?_)
                            have z47 : a.tmps.getD 47 undef = .bool false := M.kz_val (by rw [hKS]; kernel_rfl) (h.done 5 (by decide) (hd 5 (by kernel_rfl)))
                            exact M.wp_pure (.bool true) rfl (by rw [M.run_env [(47, .bool false)] ⟨z47, trivial⟩ rfl (by kernel_rfl)]; kernel_rfl) (M.kz_of (k := .val (.bool true)) (by rw [hKS]; kernel_rfl) rfl)
                          · refine M.R.of rfl (by kernel_rfl) (.inl rfl) (fun Q listed a w h hd => ?_)
                            have z48 : a.tmps.getD 48 undef = .bool true := M.kz_val (by rw [hKS]; kernel_rfl) (h.done 6 (by decide) (hd 6 (by kernel_rfl)))
                            exact M.wp_pure (.bool true) rfl (by rw [M.run_env [(48, .bool true)] ⟨z48, trivial⟩ rfl (by kernel_rfl)]; kernel_rfl) (M.kz_of (k := .val (.bool true)) (by rw [hKS]; kernel_rfl) rfl)
                          · refine M.R.of rfl (by kernel_rfl) (.inr ⟨7, true, rfl, by decide, (by rw [hKS]; kernel_rfl), by kernel_rfl⟩) (fun Q listed a w h hd => ?_)
                            have z2 : a.tmps.getD 2 undef = .pointer (some ⟨g2, 0, none⟩) := (h.base 2 (by intro j hj; unfold M.frD; omega)).trans s2
                            have k0 := (HCL2.out w h.below).1
                            have k1 := (HCL2.out w h.below).2.1
                            exact M.wp_pure (.agg #[.int .i64 m, .slice (some ⟨bT, oT, none⟩) N c]) rfl (by rw [M.run_env [(2, .pointer (some ⟨g2, 0, none⟩))] ⟨z2, trivial⟩ rfl (by kernel_rfl)]; go_simp; simp [M.env, k0, k1]) (M.kz_of (k := .val (.agg #[.int .i64 m, .slice (some ⟨bT, oT, none⟩) N c])) (by rw [hKS]; kernel_rfl) rfl)
                          · refine M.R.of rfl (by kernel_rfl) (.inr ⟨7, true, rfl, by decide, (by rw [hKS]; kernel_rfl), by kernel_rfl⟩) (fun Q listed a w h hd => ?_)
                            have z10 : a.tmps.getD 10 undef = .slice (some ⟨gL, 0, none⟩) xs.length cL := (h.base 10 (by intro j hj; unfold M.frD; omega)).trans s10
                            exact M.wp_pure (.slice (some ⟨gL, 0, none⟩) xs.length cL) rfl (by rw [M.run_env [(10, .slice (some ⟨gL, 0, none⟩) xs.length cL)] ⟨z10, trivial⟩ rfl (by kernel_rfl)]; kernel_rfl) (M.kz_of (k := .val (.slice (some ⟨gL, 0, none⟩) xs.length cL)) (by rw [hKS]; kernel_rfl) rfl)
                          · refine M.R.of rfl (by kernel_rfl) (.inr ⟨7, true, rfl, by decide, (by rw [hKS]; kernel_rfl), by kernel_rfl⟩) (fun Q listed a w h hd => ?_)
                            have z11 : a.tmps.getD 11 undef = .int .i64 (ix : Int) := (h.base 11 (by intro j hj; unfold M.frD; omega)).trans s11
                            exact M.wp_pure (.int .i64 (ix : Int)) rfl (by rw [M.run_env [(11, .int .i64 (ix : Int))] ⟨z11, trivial⟩ rfl (by kernel_rfl)]; kernel_rfl) (M.kz_of (k := .val (.int .i64 (ix : Int))) (by rw [hKS]; kernel_rfl) rfl)
                          · refine M.R.of rfl (by kernel_rfl) (.inr ⟨7, true, rfl, by decide, (by rw [hKS]; kernel_rfl), by kernel_rfl⟩) (fun Q listed a w h hd => ?_)
                            have z51 : a.tmps.getD 51 undef = .slice (some ⟨gL, 0, none⟩) xs.length cL := M.kz_val (by rw [hKS]; kernel_rfl) (h.done 9 (by decide) (hd 9 (by kernel_rfl)))
                            have z52 : a.tmps.getD 52 undef = .int .i64 (ix : Int) := M.kz_val (by rw [hKS]; kernel_rfl) (h.done 10 (by decide) (hd 10 (by kernel_rfl)))
                            exact M.wp_pure (.pointer (some ⟨gL, ix, none⟩)) rfl (by rw [M.run_env [(51, .slice (some ⟨gL, 0, none⟩) xs.length cL), (52, .int .i64 (ix : Int))] ⟨z51, z52, trivial⟩ rfl (by kernel_rfl)]; have f0 : M.env [(51, .slice (some ⟨gL, 0, none⟩) xs.length cL), (52, .int .i64 (ix : Int))] (.tmp 51) = .slice (some ⟨gL, 0, none⟩) xs.length cL := rfl; have f1 : M.env [(51, .slice (some ⟨gL, 0, none⟩) xs.length cL), (52, .int .i64 (ix : Int))] (.tmp 52) = .int .i64 (ix : Int) := rfl; simp only [execOp, f0, f1]; go_simp) (M.kz_of (k := .val (.pointer (some ⟨gL, ix, none⟩))) (by rw [hKS]; kernel_rfl) rfl)
                          · refine M.R.of rfl (by kernel_rfl) (.inr ⟨7, true, rfl, by decide, (by rw [hKS]; kernel_rfl), by kernel_rfl⟩) (fun Q listed a w h hd => ?_)
                            have z53 : a.tmps.getD 53 undef = .pointer (some ⟨gL, ix, none⟩) := M.kz_val (by rw [hKS]; kernel_rfl) (h.done 11 (by decide) (hd 11 (by kernel_rfl)))
                            have k2 := (HCL2.out w h.below).2.2.1
                            exact M.wp_pure (.slice (some ⟨xg, 0, none⟩) xn xc) rfl (by rw [M.run_env [(53, .pointer (some ⟨gL, ix, none⟩))] ⟨z53, trivial⟩ rfl (by kernel_rfl)]; go_simp; simp [M.env, k2]) (M.kz_of (k := .val (.slice (some ⟨xg, 0, none⟩) xn xc)) (by rw [hKS]; kernel_rfl) rfl)
                          · refine M.R.of rfl (by kernel_rfl) (.inr ⟨7, true, rfl, by decide, (by rw [hKS]; kernel_rfl), by kernel_rfl⟩) (fun Q listed a w h hd => ?_)
                            have z2 : a.tmps.getD 2 undef = .pointer (some ⟨g2, 0, none⟩) := (h.base 2 (by intro j hj; unfold M.frD; omega)).trans s2
                            exact M.wp_pure (.pointer (some ⟨g2, 1, none⟩)) rfl (by rw [M.run_env [(2, .pointer (some ⟨g2, 0, none⟩))] ⟨z2, trivial⟩ rfl (by kernel_rfl)]; kernel_rfl) (M.kz_of (k := .val (.pointer (some ⟨g2, 1, none⟩))) (by rw [hKS]; kernel_rfl) rfl)
                          · refine M.R.of rfl (by kernel_rfl) (.inr ⟨7, true, rfl, by decide, (by rw [hKS]; kernel_rfl), by kernel_rfl⟩) (fun Q listed a w h hd => ?_)
                            have z55 : a.tmps.getD 55 undef = .pointer (some ⟨g2, 1, none⟩) := M.kz_val (by rw [hKS]; kernel_rfl) (h.done 13 (by decide) (hd 13 (by kernel_rfl)))
                            have k1 := (HCL2.out w h.below).2.1
                            exact M.wp_pure (.slice (some ⟨bT, oT, none⟩) N c) rfl (by rw [M.run_env [(55, .pointer (some ⟨g2, 1, none⟩))] ⟨z55, trivial⟩ rfl (by kernel_rfl)]; go_simp; simp [M.env, k1]) (M.kz_of (k := .val (.slice (some ⟨bT, oT, none⟩) N c)) (by rw [hKS]; kernel_rfl) rfl)
                          · refine M.R.of rfl (by kernel_rfl) (.inr ⟨7, true, rfl, by decide, (by rw [hKS]; kernel_rfl), by kernel_rfl⟩) (fun Q listed a w h hd => ?_)
                            have z12 : a.tmps.getD 12 undef = .int .i64 (q : Int) := (h.base 12 (by intro j hj; unfold M.frD; omega)).trans s12
                            exact M.wp_pure (.int .i64 (q : Int)) rfl (by rw [M.run_env [(12, .int .i64 (q : Int))] ⟨z12, trivial⟩ rfl (by kernel_rfl)]; kernel_rfl) (M.kz_of (k := .val (.int .i64 (q : Int))) (by rw [hKS]; kernel_rfl) rfl)
                          · refine M.R.of rfl (by kernel_rfl) (.inr ⟨7, true, rfl, by decide, (by rw [hKS]; kernel_rfl), by kernel_rfl⟩) (fun Q listed a w h hd => ?_)
                            have z56 : a.tmps.getD 56 undef = .slice (some ⟨bT, oT, none⟩) N c := M.kz_val (by rw [hKS]; kernel_rfl) (h.done 14 (by decide) (hd 14 (by kernel_rfl)))
                            have z57 : a.tmps.getD 57 undef = .int .i64 (q : Int) := M.kz_val (by rw [hKS]; kernel_rfl) (h.done 15 (by decide) (hd 15 (by kernel_rfl)))
                            exact M.wp_pure (.pointer (some ⟨bT, oT + q, none⟩)) rfl (by rw [M.run_env [(56, .slice (some ⟨bT, oT, none⟩) N c), (57, .int .i64 (q : Int))] ⟨z56, z57, trivial⟩ rfl (by kernel_rfl)]; have f0 : M.env [(56, .slice (some ⟨bT, oT, none⟩) N c), (57, .int .i64 (q : Int))] (.tmp 56) = .slice (some ⟨bT, oT, none⟩) N c := rfl; have f1 : M.env [(56, .slice (some ⟨bT, oT, none⟩) N c), (57, .int .i64 (q : Int))] (.tmp 57) = .int .i64 (q : Int) := rfl; simp only [execOp, f0, f1]; go_simp) (M.kz_of (k := .val (.pointer (some ⟨bT, oT + q, none⟩))) (by rw [hKS]; kernel_rfl) rfl)
                          · refine M.R.of rfl (by kernel_rfl) (.inr ⟨7, true, rfl, by decide, (by rw [hKS]; kernel_rfl), by kernel_rfl⟩) (fun Q listed a w h hd => ?_)
                            have z58 : a.tmps.getD 58 undef = .pointer (some ⟨bT, oT + q, none⟩) := M.kz_val (by rw [hKS]; kernel_rfl) (h.done 16 (by decide) (hd 16 (by kernel_rfl)))
                            have k3 := (HCL2.out w h.below).2.2.2
                            exact M.wp_pure (.slice rq pl cq) rfl (by rw [M.run_env [(58, .pointer (some ⟨bT, oT + q, none⟩))] ⟨z58, trivial⟩ rfl (by kernel_rfl)]; go_simp; simp [M.env, k3]) (M.kz_of (k := .val (.slice rq pl cq)) (by rw [hKS]; kernel_rfl) rfl)
                          · refine M.R.of rfl (by kernel_rfl) (.inr ⟨7, true, rfl, by decide, (by rw [hKS]; kernel_rfl), by kernel_rfl⟩) (fun Q listed a w h hd => ?_)
                            have z50 : a.tmps.getD 50 undef = .agg #[.int .i64 m, .slice (some ⟨bT, oT, none⟩) N c] := M.kz_val (by rw [hKS]; kernel_rfl) (h.done 8 (by decide) (hd 8 (by kernel_rfl)))
                            have z54 : a.tmps.getD 54 undef = .slice (some ⟨xg, 0, none⟩) xn xc := M.kz_val (by rw [hKS]; kernel_rfl) (h.done 12 (by decide) (hd 12 (by kernel_rfl)))
                            have z59 : a.tmps.getD 59 undef = .slice rq pl cq := M.kz_val (by rw [hKS]; kernel_rfl) (h.done 17 (by decide) (hd 17 (by kernel_rfl)))
                            refine M.wp_call 52 #[.agg #[.int .i64 m, .slice (some ⟨bT, oT, none⟩) N c], .slice (some ⟨xg, 0, none⟩) xn xc, .slice rq pl cq] rfl (by rw [M.run_env [(50, .agg #[.int .i64 m, .slice (some ⟨bT, oT, none⟩) N c]), (54, .slice (some ⟨xg, 0, none⟩) xn xc), (59, .slice rq pl cq)] ⟨z50, z54, z59, trivial⟩ rfl (by kernel_rfl)]; kernel_rfl) ?_
                            exact (HMK2.out w h.below).mono fun e w' ⟨h1, h2⟩ => ⟨_, h1, M.kz_of (k := .val (.bool true)) (by rw [hKS]; kernel_rfl) rfl, h2⟩
                          · refine M.R.of rfl (by kernel_rfl) (.inl rfl) (fun Q listed a w h hd => ?_)
                            have z49 : a.tmps.getD 49 undef = .bool true := M.kz_val (by rw [hKS]; kernel_rfl) (h.done 7 (by decide) (hd 7 (by kernel_rfl)))
                            have z60 : a.tmps.getD 60 undef = .bool true := M.kz_val (by rw [hKS]; kernel_rfl) (h.done 18 (by decide) (hd 18 (by kernel_rfl)))
                            exact M.wp_pure (.bool true) rfl (by rw [M.run_env [(49, .bool true), (60, .bool true)] ⟨z49, z60, trivial⟩ rfl (by kernel_rfl)]; kernel_rfl) (M.kz_of (k := .val (.bool true)) (by rw [hKS]; kernel_rfl) rfl)
                          · refine M.R.of rfl (by kernel_rfl) (.inl rfl) (fun Q listed a w h hd => ?_)
                            have z61 : a.tmps.getD 61 undef = .bool true := M.kz_val (by rw [hKS]; kernel_rfl) (h.done 19 (by decide) (hd 19 (by kernel_rfl)))
                            exact M.wp_pure (.bool true) rfl (by rw [M.run_env [(61, .bool true)] ⟨z61, trivial⟩ rfl (by kernel_rfl)]; kernel_rfl) (M.kz_of (k := .val (.bool true)) (by rw [hKS]; kernel_rfl) rfl)
                          · refine M.R.of rfl (by kernel_rfl) (.inr ⟨20, true, rfl, by decide, (by rw [hKS]; kernel_rfl), by kernel_rfl⟩) (fun Q listed a w h hd => ?_)
                            have z8 : a.tmps.getD 8 undef = .slice ab bn cb := (h.base 8 (by intro j hj; unfold M.frD; omega)).trans s8
                            exact M.wp_pure (.slice ab bn cb) rfl (by rw [M.run_env [(8, .slice ab bn cb)] ⟨z8, trivial⟩ rfl (by kernel_rfl)]; kernel_rfl) (M.kz_of (k := .val (.slice ab bn cb)) (by rw [hKS]; kernel_rfl) rfl)
                          · refine M.R.of rfl (by kernel_rfl) (.inr ⟨20, true, rfl, by decide, (by rw [hKS]; kernel_rfl), by kernel_rfl⟩) (fun Q listed a w h hd => ?_)
                            have z63 : a.tmps.getD 63 undef = .slice ab bn cb := M.kz_val (by rw [hKS]; kernel_rfl) (h.done 21 (by decide) (hd 21 (by kernel_rfl)))
                            exact M.wp_pure (.int .i64 (bn : Int)) rfl (by rw [M.run_env [(63, .slice ab bn cb)] ⟨z63, trivial⟩ rfl (by kernel_rfl)]; kernel_rfl) (M.kz_of (k := .val (.int .i64 (bn : Int))) (by rw [hKS]; kernel_rfl) rfl)
                          · refine M.R.of rfl (by kernel_rfl) (.inr ⟨20, true, rfl, by decide, (by rw [hKS]; kernel_rfl), by kernel_rfl⟩) (fun Q listed a w h hd => ?_)
                            have z64 : a.tmps.getD 64 undef = .int .i64 (bn : Int) := M.kz_val (by rw [hKS]; kernel_rfl) (h.done 22 (by decide) (hd 22 (by kernel_rfl)))
                            exact M.wp_pure (.bool false) rfl (by rw [M.run_env [(64, .int .i64 (bn : Int))] ⟨z64, trivial⟩ rfl (by kernel_rfl)]; have f0 : M.env [(64, .int .i64 (bn : Int))] (.tmp 64) = .int .i64 (bn : Int) := rfl; simp only [execOp, f0, M.env_const]; go_simp) (M.kz_of (k := .val (.bool false)) (by rw [hKS]; kernel_rfl) rfl)
                          · refine M.R.of rfl (by kernel_rfl) (.inr ⟨20, true, rfl, by decide, (by rw [hKS]; kernel_rfl), by kernel_rfl⟩) (fun Q listed a w h hd => ?_)
                            have z65 : a.tmps.getD 65 undef = .bool false := M.kz_val (by rw [hKS]; kernel_rfl) (h.done 23 (by decide) (hd 23 (by kernel_rfl)))
                            exact M.wp_pure (.bool false) rfl (by rw [M.run_env [(65, .bool false)] ⟨z65, trivial⟩ rfl (by kernel_rfl)]; kernel_rfl) (M.kz_of (k := .val (.bool false)) (by rw [hKS]; kernel_rfl) rfl)
                          · refine M.R.of rfl (by kernel_rfl) (.inr ⟨24, false, rfl, by decide, (by rw [hKS]; kernel_rfl), by kernel_rfl⟩) (fun Q listed a w h hd => ?_)
                            have z10 : a.tmps.getD 10 undef = .slice (some ⟨gL, 0, none⟩) xs.length cL := (h.base 10 (by intro j hj; unfold M.frD; omega)).trans s10
                            exact M.wp_pure (.slice (some ⟨gL, 0, none⟩) xs.length cL) rfl (by rw [M.run_env [(10, .slice (some ⟨gL, 0, none⟩) xs.length cL)] ⟨z10, trivial⟩ rfl (by kernel_rfl)]; kernel_rfl) (M.kz_of (k := .val (.slice (some ⟨gL, 0, none⟩) xs.length cL)) (by rw [hKS]; kernel_rfl) rfl)
                          · refine M.R.of rfl (by kernel_rfl) (.inr ⟨24, false, rfl, by decide, (by rw [hKS]; kernel_rfl), by kernel_rfl⟩) (fun Q listed a w h hd => ?_)
                            have z11 : a.tmps.getD 11 undef = .int .i64 (ix : Int) := (h.base 11 (by intro j hj; unfold M.frD; omega)).trans s11
                            exact M.wp_pure (.int .i64 (ix : Int)) rfl (by rw [M.run_env [(11, .int .i64 (ix : Int))] ⟨z11, trivial⟩ rfl (by kernel_rfl)]; kernel_rfl) (M.kz_of (k := .val (.int .i64 (ix : Int))) (by rw [hKS]; kernel_rfl) rfl)
                          · refine M.R.of rfl (by kernel_rfl) (.inr ⟨24, false, rfl, by decide, (by rw [hKS]; kernel_rfl), by kernel_rfl⟩) (fun Q listed a w h hd => ?_)
                            have z67 : a.tmps.getD 67 undef = .slice (some ⟨gL, 0, none⟩) xs.length cL := M.kz_val (by rw [hKS]; kernel_rfl) (h.done 25 (by decide) (hd 25 (by kernel_rfl)))
                            have z68 : a.tmps.getD 68 undef = .int .i64 (ix : Int) := M.kz_val (by rw [hKS]; kernel_rfl) (h.done 26 (by decide) (hd 26 (by kernel_rfl)))
                            exact M.wp_pure (.pointer (some ⟨gL, ix, none⟩)) rfl (by rw [M.run_env [(67, .slice (some ⟨gL, 0, none⟩) xs.length cL), (68, .int .i64 (ix : Int))] ⟨z67, z68, trivial⟩ rfl (by kernel_rfl)]; have f0 : M.env [(67, .slice (some ⟨gL, 0, none⟩) xs.length cL), (68, .int .i64 (ix : Int))] (.tmp 67) = .slice (some ⟨gL, 0, none⟩) xs.length cL := rfl; have f1 : M.env [(67, .slice (some ⟨gL, 0, none⟩) xs.length cL), (68, .int .i64 (ix : Int))] (.tmp 68) = .int .i64 (ix : Int) := rfl; simp only [execOp, f0, f1]; go_simp) (M.kz_of (k := .val (.pointer (some ⟨gL, ix, none⟩))) (by rw [hKS]; kernel_rfl) rfl)
                          · refine M.R.of rfl (by kernel_rfl) (.inr ⟨24, false, rfl, by decide, (by rw [hKS]; kernel_rfl), by kernel_rfl⟩) (fun Q listed a w h hd => ?_)
                            have z69 : a.tmps.getD 69 undef = .pointer (some ⟨gL, ix, none⟩) := M.kz_val (by rw [hKS]; kernel_rfl) (h.done 27 (by decide) (hd 27 (by kernel_rfl)))
                            have k2 := (HCL2.out w h.below).2.2.1
                            exact M.wp_pure (.slice (some ⟨xg, 0, none⟩) xn xc) rfl (by rw [M.run_env [(69, .pointer (some ⟨gL, ix, none⟩))] ⟨z69, trivial⟩ rfl (by kernel_rfl)]; go_simp; simp [M.env, k2]) (M.kz_of (k := .val (.slice (some ⟨xg, 0, none⟩) xn xc)) (by rw [hKS]; kernel_rfl) rfl)
                          · refine M.R.of rfl (by kernel_rfl) (.inr ⟨24, false, rfl, by decide, (by rw [hKS]; kernel_rfl), by kernel_rfl⟩) (fun Q listed a w h hd => ?_)
                            have z70 : a.tmps.getD 70 undef = .slice (some ⟨xg, 0, none⟩) xn xc := M.kz_val (by rw [hKS]; kernel_rfl) (h.done 28 (by decide) (hd 28 (by kernel_rfl)))
                            exact M.wp_pure (.int .i64 (xn : Int)) rfl (by rw [M.run_env [(70, .slice (some ⟨xg, 0, none⟩) xn xc)] ⟨z70, trivial⟩ rfl (by kernel_rfl)]; kernel_rfl) (M.kz_of (k := .val (.int .i64 (xn : Int))) (by rw [hKS]; kernel_rfl) rfl)
                          · refine M.R.of rfl (by kernel_rfl) (.inr ⟨24, false, rfl, by decide, (by rw [hKS]; kernel_rfl), by kernel_rfl⟩) (fun Q listed a w h hd => ?_)
                            have z8 : a.tmps.getD 8 undef = .slice ab bn cb := (h.base 8 (by intro j hj; unfold M.frD; omega)).trans s8
                            exact M.wp_pure (.slice ab bn cb) rfl (by rw [M.run_env [(8, .slice ab bn cb)] ⟨z8, trivial⟩ rfl (by kernel_rfl)]; kernel_rfl) (M.kz_of (k := .val (.slice ab bn cb)) (by rw [hKS]; kernel_rfl) rfl)
                          · refine M.R.of rfl (by kernel_rfl) (.inr ⟨24, false, rfl, by decide, (by rw [hKS]; kernel_rfl), by kernel_rfl⟩) (fun Q listed a w h hd => ?_)
                            have z72 : a.tmps.getD 72 undef = .slice ab bn cb := M.kz_val (by rw [hKS]; kernel_rfl) (h.done 30 (by decide) (hd 30 (by kernel_rfl)))
                            exact M.wp_pure (.int .i64 (bn : Int)) rfl (by rw [M.run_env [(72, .slice ab bn cb)] ⟨z72, trivial⟩ rfl (by kernel_rfl)]; kernel_rfl) (M.kz_of (k := .val (.int .i64 (bn : Int))) (by rw [hKS]; kernel_rfl) rfl)
                          · refine M.R.of rfl (by kernel_rfl) (.inr ⟨24, false, rfl, by decide, (by rw [hKS]; kernel_rfl), by kernel_rfl⟩) (fun Q listed a w h hd => ?_)
                            have z71 : a.tmps.getD 71 undef = .int .i64 (xn : Int) := M.kz_val (by rw [hKS]; kernel_rfl) (h.done 29 (by decide) (hd 29 (by kernel_rfl)))
                            have z73 : a.tmps.getD 73 undef = .int .i64 (bn : Int) := M.kz_val (by rw [hKS]; kernel_rfl) (h.done 31 (by decide) (hd 31 (by kernel_rfl)))
                            exact M.wp_pure (.bool false) rfl (by rw [M.run_env [(71, .int .i64 (xn : Int)), (73, .int .i64 (bn : Int))] ⟨z71, z73, trivial⟩ rfl (by kernel_rfl)]; have f0 : M.env [(71, .int .i64 (xn : Int)), (73, .int .i64 (bn : Int))] (.tmp 71) = .int .i64 (xn : Int) := rfl; have f1 : M.env [(71, .int .i64 (xn : Int)), (73, .int .i64 (bn : Int))] (.tmp 73) = .int .i64 (bn : Int) := rfl; simp only [execOp, f0, f1]; go_simp) (M.kz_of (k := .val (.bool false)) (by rw [hKS]; kernel_rfl) rfl)
                          · refine M.R.of rfl (by kernel_rfl) (.inr ⟨20, true, rfl, by decide, (by rw [hKS]; kernel_rfl), by kernel_rfl⟩) (fun Q listed a w h hd => ?_)
                            have z66 : a.tmps.getD 66 undef = .bool false := M.kz_val (by rw [hKS]; kernel_rfl) (h.done 24 (by decide) (hd 24 (by kernel_rfl)))
                            have z74 : a.tmps.getD 74 undef = .bool false := M.kz_val (by rw [hKS]; kernel_rfl) (h.done 32 (by decide) (hd 32 (by kernel_rfl)))
                            exact M.wp_pure (.bool false) rfl (by rw [M.run_env [(66, .bool false), (74, .bool false)] ⟨z66, z74, trivial⟩ rfl (by kernel_rfl)]; kernel_rfl) (M.kz_of (k := .val (.bool false)) (by rw [hKS]; kernel_rfl) rfl)
                          · refine M.R.of rfl (by kernel_rfl) (.inr ⟨20, true, rfl, by decide, (by rw [hKS]; kernel_rfl), by kernel_rfl⟩) (fun Q listed a w h hd => ?_)
                            have z75 : a.tmps.getD 75 undef = .bool false := M.kz_val (by rw [hKS]; kernel_rfl) (h.done 33 (by decide) (hd 33 (by kernel_rfl)))
                            exact M.wp_pure (.bool false) rfl (by rw [M.run_env [(75, .bool false)] ⟨z75, trivial⟩ rfl (by kernel_rfl)]; kernel_rfl) (M.kz_of (k := .val (.bool false)) (by rw [hKS]; kernel_rfl) rfl)
                          · refine M.R.of rfl (by kernel_rfl) (.inr ⟨34, false, rfl, by decide, (by rw [hKS]; kernel_rfl), by kernel_rfl⟩) (fun Q listed a w h hd => ?_)
                            have z8 : a.tmps.getD 8 undef = .slice ab bn cb := (h.base 8 (by intro j hj; unfold M.frD; omega)).trans s8
                            exact M.wp_pure (.slice ab bn cb) rfl (by rw [M.run_env [(8, .slice ab bn cb)] ⟨z8, trivial⟩ rfl (by kernel_rfl)]; kernel_rfl) (M.kz_of (k := .val (.slice ab bn cb)) (by rw [hKS]; kernel_rfl) rfl)
                          · refine M.R.of rfl (by kernel_rfl) (.inr ⟨34, false, rfl, by decide, (by rw [hKS]; kernel_rfl), by kernel_rfl⟩) (fun Q listed a w h hd => ?_)
                            have z10 : a.tmps.getD 10 undef = .slice (some ⟨gL, 0, none⟩) xs.length cL := (h.base 10 (by intro j hj; unfold M.frD; omega)).trans s10
                            exact M.wp_pure (.slice (some ⟨gL, 0, none⟩) xs.length cL) rfl (by rw [M.run_env [(10, .slice (some ⟨gL, 0, none⟩) xs.length cL)] ⟨z10, trivial⟩ rfl (by kernel_rfl)]; kernel_rfl) (M.kz_of (k := .val (.slice (some ⟨gL, 0, none⟩) xs.length cL)) (by rw [hKS]; kernel_rfl) rfl)
                          · refine M.R.of rfl (by kernel_rfl) (.inr ⟨34, false, rfl, by decide, (by rw [hKS]; kernel_rfl), by kernel_rfl⟩) (fun Q listed a w h hd => ?_)
                            have z11 : a.tmps.getD 11 undef = .int .i64 (ix : Int) := (h.base 11 (by intro j hj; unfold M.frD; omega)).trans s11
                            exact M.wp_pure (.int .i64 (ix : Int)) rfl (by rw [M.run_env [(11, .int .i64 (ix : Int))] ⟨z11, trivial⟩ rfl (by kernel_rfl)]; kernel_rfl) (M.kz_of (k := .val (.int .i64 (ix : Int))) (by rw [hKS]; kernel_rfl) rfl)
                          · refine M.R.of rfl (by kernel_rfl) (.inr ⟨34, false, rfl, by decide, (by rw [hKS]; kernel_rfl), by kernel_rfl⟩) (fun Q listed a w h hd => ?_)
                            have z78 : a.tmps.getD 78 undef = .slice (some ⟨gL, 0, none⟩) xs.length cL := M.kz_val (by rw [hKS]; kernel_rfl) (h.done 36 (by decide) (hd 36 (by kernel_rfl)))
                            have z79 : a.tmps.getD 79 undef = .int .i64 (ix : Int) := M.kz_val (by rw [hKS]; kernel_rfl) (h.done 37 (by decide) (hd 37 (by kernel_rfl)))
                            exact M.wp_pure (.pointer (some ⟨gL, ix, none⟩)) rfl (by rw [M.run_env [(78, .slice (some ⟨gL, 0, none⟩) xs.length cL), (79, .int .i64 (ix : Int))] ⟨z78, z79, trivial⟩ rfl (by kernel_rfl)]; have f0 : M.env [(78, .slice (some ⟨gL, 0, none⟩) xs.length cL), (79, .int .i64 (ix : Int))] (.tmp 78) = .slice (some ⟨gL, 0, none⟩) xs.length cL := rfl; have f1 : M.env [(78, .slice (some ⟨gL, 0, none⟩) xs.length cL), (79, .int .i64 (ix : Int))] (.tmp 79) = .int .i64 (ix : Int) := rfl; simp only [execOp, f0, f1]; go_simp) (M.kz_of (k := .val (.pointer (some ⟨gL, ix, none⟩))) (by rw [hKS]; kernel_rfl) rfl)
                          · refine M.R.of rfl (by kernel_rfl) (.inr ⟨34, false, rfl, by decide, (by rw [hKS]; kernel_rfl), by kernel_rfl⟩) (fun Q listed a w h hd => ?_)
                            have z80 : a.tmps.getD 80 undef = .pointer (some ⟨gL, ix, none⟩) := M.kz_val (by rw [hKS]; kernel_rfl) (h.done 38 (by decide) (hd 38 (by kernel_rfl)))
                            have k2 := (HCL2.out w h.below).2.2.1
                            exact M.wp_pure (.slice (some ⟨xg, 0, none⟩) xn xc) rfl (by rw [M.run_env [(80, .pointer (some ⟨gL, ix, none⟩))] ⟨z80, trivial⟩ rfl (by kernel_rfl)]; go_simp; simp [M.env, k2]) (M.kz_of (k := .val (.slice (some ⟨xg, 0, none⟩) xn xc)) (by rw [hKS]; kernel_rfl) rfl)
                          · refine M.R.of rfl (by kernel_rfl) (.inr ⟨34, false, rfl, by decide, (by rw [hKS]; kernel_rfl), by kernel_rfl⟩) (fun Q listed a w h hd => ?_)
                            have z77 : a.tmps.getD 77 undef = .slice ab bn cb := M.kz_val (by rw [hKS]; kernel_rfl) (h.done 35 (by decide) (hd 35 (by kernel_rfl)))
                            have z81 : a.tmps.getD 81 undef = .slice (some ⟨xg, 0, none⟩) xn xc := M.kz_val (by rw [hKS]; kernel_rfl) (h.done 39 (by decide) (hd 39 (by kernel_rfl)))
                            refine M.wp_call 59 #[.slice ab bn cb, .slice (some ⟨xg, 0, none⟩) xn xc] rfl (by rw [M.run_env [(77, .slice ab bn cb), (81, .slice (some ⟨xg, 0, none⟩) xn xc)] ⟨z77, z81, trivial⟩ rfl (by kernel_rfl)]; kernel_rfl) ?_
                            exact (HBE2.out w h.below).mono fun e w' ⟨h1, h2⟩ => ⟨_, h1, M.kz_of (k := .val (.bool false)) (by rw [hKS]; kernel_rfl) rfl, h2⟩
                          · refine M.R.of rfl (by kernel_rfl) (.inr ⟨34, false, rfl, by decide, (by rw [hKS]; kernel_rfl), by kernel_rfl⟩) (fun Q listed a w h hd => ?_)
                            have z82 : a.tmps.getD 82 undef = .bool false := M.kz_val (by rw [hKS]; kernel_rfl) (h.done 40 (by decide) (hd 40 (by kernel_rfl)))
                            exact M.wp_pure (.bool true) rfl (by rw [M.run_env [(82, .bool false)] ⟨z82, trivial⟩ rfl (by kernel_rfl)]; kernel_rfl) (M.kz_of (k := .val (.bool true)) (by rw [hKS]; kernel_rfl) rfl)
                          · refine M.R.of rfl (by kernel_rfl) (.inr ⟨20, true, rfl, by decide, (by rw [hKS]; kernel_rfl), by kernel_rfl⟩) (fun Q listed a w h hd => ?_)
                            have z76 : a.tmps.getD 76 undef = .bool false := M.kz_val (by rw [hKS]; kernel_rfl) (h.done 34 (by decide) (hd 34 (by kernel_rfl)))
                            have z83 : a.tmps.getD 83 undef = .bool true := M.kz_val (by rw [hKS]; kernel_rfl) (h.done 41 (by decide) (hd 41 (by kernel_rfl)))
                            exact M.wp_pure (.bool true) rfl (by rw [M.run_env [(76, .bool false), (83, .bool true)] ⟨z76, z83, trivial⟩ rfl (by kernel_rfl)]; kernel_rfl) (M.kz_of (k := .val (.bool true)) (by rw [hKS]; kernel_rfl) rfl)
                          · refine M.R.of rfl (by kernel_rfl) (.inl rfl) (fun Q listed a w h hd => ?_)
                            have z62 : a.tmps.getD 62 undef = .bool true := M.kz_val (by rw [hKS]; kernel_rfl) (h.done 20 (by decide) (hd 20 (by kernel_rfl)))
                            have z84 : a.tmps.getD 84 undef = .bool true := M.kz_val (by rw [hKS]; kernel_rfl) (h.done 42 (by decide) (hd 42 (by kernel_rfl)))
                            exact M.wp_pure (.bool true) rfl (by rw [M.run_env [(62, .bool true), (84, .bool true)] ⟨z62, z84, trivial⟩ rfl (by kernel_rfl)]; kernel_rfl) (M.kz_of (k := .val (.bool true)) (by rw [hKS]; kernel_rfl) rfl)
                        case refine_2 =>
                          intro a' w' hsz hd hb hbs hk
                          have e43 : a'.tmps.getD (42 + 43) undef = .bool true := M.kz_val (by rw [hKS]; kernel_rfl) (hk 43 (by decide))
                          obtain ⟨tmps, defers⟩ := a'
                          dsimp only at hsz
                          have hfr := M.frame (lo := 42) (n := 44) (A := tmps) (hb := fun s h => hbs s (fun j hj e => by unfold M.frD at e; omega)) (hs := by exact hsz) (hn := by show 86 ≤ 96; decide)
                          dsimp only at hfr e43 hd
                          obtain ⟨u, hu⟩ : ∃ u : Nat → Value, ∀ i, tmps.getD (42 + i) undef = u i := ⟨_, fun _ => rfl⟩
                          simp only [hu] at hfr e43
                          clear hu hk hbs hsz hKS
                          subst hfr
                          subst hd
                          simp only [List.take_succ_cons, List.take_zero, List.drop_succ_cons, List.drop_zero, List.range, List.range.loop, List.map_cons, List.map_nil, List.cons_append, List.nil_append, e43]
                          have HBW := hid (HFIN2.out w' hb)
                          have HRX := hid (HXR2.out w' hb)
                          have HRB2 := hid (HBR2.out w' hb)
                          have kx := (HCL2.out w' hb).2.2.1
                          go_wp2
                          go_roundw
                          case rel => exact ⟨q, by omega, by go_num, some ⟨xg, 0, none⟩, xc, cc, q, by rw [HXN.out], rfl, HRX.out, HMID.out.hit HQN.out (by rw [HFR.out]; rfl) HE.out, HBW.out⟩
                          case measure => simp [intOf]
                      | true =>
                        have HE : Hid (¬ M.elig b cc) := hid (fun h => by rcases HEL.out.1 h with h | h | h <;> first | omega | cases h)
                        clear h3 h4
                        go_wp2_with fail
                        obtain ⟨KS, hKS⟩ : ∃ KS : List M.Ky, KS = [.val (.slice (some ⟨gL, 0, none⟩) xs.length cL), .val (.int .i64 (ix : Int)), .val (.pointer (some ⟨gL, ix, none⟩)), .val (.slice (some ⟨xg, 0, none⟩) xn xc), .val (.int .i64 (q : Int)), .val (.bool false), .val (.bool true), .val (.bool true), .val (.agg #[.int .i64 m, .slice (some ⟨bT, oT, none⟩) N c]), .val (.slice (some ⟨gL, 0, none⟩) xs.length cL), .val (.int .i64 (ix : Int)), .val (.pointer (some ⟨gL, ix, none⟩)), .val (.slice (some ⟨xg, 0, none⟩) xn xc), .val (.pointer (some ⟨g2, 1, none⟩)), .val (.slice (some ⟨bT, oT, none⟩) N c), .val (.int .i64 (q : Int)), .val (.pointer (some ⟨bT, oT + q, none⟩)), .val (.slice rq pl cq), .val (.bool true), .val (.bool true), .val (.bool true), .val (.slice ab bn cb), .val (.int .i64 (bn : Int)), .val (.bool false), .val (.bool false), .val (.slice (some ⟨gL, 0, none⟩) xs.length cL), .val (.int .i64 (ix : Int)), .val (.pointer (some ⟨gL, ix, none⟩)), .val (.slice (some ⟨xg, 0, none⟩) xn xc), .val (.int .i64 (xn : Int)), .val (.slice ab bn cb), .val (.int .i64 (bn : Int)), .val (.bool false), .val (.bool false), .val (.bool false), .val (.slice ab bn cb), .val (.slice (some ⟨gL, 0, none⟩) xs.length cL), .val (.int .i64 (ix : Int)), .val (.pointer (some ⟨gL, ix, none⟩)), .val (.slice (some ⟨xg, 0, none⟩) xn xc), .val (.bool true), .val (.bool false), .val (.bool false), .val (.bool false)] := ⟨_, rfl⟩
                        refine M.region_inv2 44 96 M.frD (M.kz KS) (by kernel_rfl) rfl rfl (fun _ _ _ _ hb h => M.Ky.Holds.stays hb h) (fun i j _ _ h => by unfold M.frD at h; omega) (fun i hi => by unfold M.frD; omega) ?_ ?_
                        case refine_1 =>
                          intro T0 hT
                          have s2 : T0 2 = .pointer (some ⟨g2, 0, none⟩) := (hT 2).symm
                          have s8 : T0 8 = .slice ab bn cb := (hT 8).symm
                          have s10 : T0 10 = .slice (some ⟨gL, 0, none⟩) xs.length cL := (hT 10).symm
                          have s11 : T0 11 = .int .i64 (ix : Int) := (hT 11).symm
                          have s12 : T0 12 = .int .i64 (q : Int) := (hT 12).symm
                          clear hT
                          refine And.intro ?_ (And.intro ?_ (And.intro ?_ (And.intro ?_ (And.intro ?_ (And.intro ?_ (And.intro ?_ (And.intro ?_ (And.intro ?_ (And.intro ?_ (And.intro ?_ (And.intro ?_ (And.intro ?_ (And.intro ?_ (And.intro ?_ (And.intro ?_ (And.intro ?_ (And.intro ?_ (And.intro ?_ (And.intro ?_ (And.intro ?_ (And.intro ?_ (And.intro ?_ (And.intro ?_ (And.intro ?_ (And.intro ?_ (And.intro ?_ (And.intro ?_ (And.intro ?_ (And.intro ?_ (And.intro ?_ (And.intro ?_ (And.intro ?_ (And.intro ?_ (And.intro ?_ (And.intro ?_ (And.intro ?_ (And.intro ?_ (And.intro ?_ (And.intro ?_ (And.intro ?_ (And.intro ?_ (And.intro ?_ (And.intro ?_ (trivial))))))))))))))))))))))))))))))))))))))))))))
                          · refine M.R.of rfl (by kernel_rfl) (.inl rfl) (fun Q listed a w h hd => ?_)
                            have z10 : a.tmps.getD 10 undef = .slice (some ⟨gL, 0, none⟩) xs.length cL := (h.base 10 (by intro j hj; unfold M.frD; omega)).trans s10
                            exact M.wp_pure (.slice (some ⟨gL, 0, none⟩) xs.length cL) rfl (by rw [M.run_env [(10, .slice (some ⟨gL, 0, none⟩) xs.length cL)] ⟨z10, trivial⟩ rfl (by kernel_rfl)]; kernel_rfl) (M.kz_of (k := .val (.slice (some ⟨gL, 0, none⟩) xs.length cL)) (by rw [hKS]; kernel_rfl) rfl)
                          · refine M.R.of rfl (by kernel_rfl) (.inl rfl) (fun Q listed a w h hd => ?_)
                            have z11 : a.tmps.getD 11 undef = .int .i64 (ix : Int) := (h.base 11 (by intro j hj; unfold M.frD; omega)).trans s11
                            exact M.wp_pure (.int .i64 (ix : Int)) rfl (by rw [M.run_env [(11, .int .i64 (ix : Int))] ⟨z11, trivial⟩ rfl (by kernel_rfl)]; kernel_rfl) (M.kz_of (k := .val (.int .i64 (ix : Int))) (by rw [hKS]; kernel_rfl) rfl)
                          · refine M.R.of rfl (by kernel_rfl) (.inl rfl) (fun Q listed a w h hd => ?_)
                            have z42 : a.tmps.getD 42 undef = .slice (some ⟨gL, 0, none⟩) xs.length cL := M.kz_val (by rw [hKS]; kernel_rfl) (h.done 0 (by decide) (hd 0 (by kernel_rfl)))
                            have z43 : a.tmps.getD 43 undef = .int .i64 (ix : Int) := M.kz_val (by rw [hKS]; kernel_rfl) (h.done 1 (by decide) (hd 1 (by kernel_rfl)))
                            exact M.wp_pure (.pointer (some ⟨gL, ix, none⟩)) rfl (by rw [M.run_env [(42, .slice (some ⟨gL, 0, none⟩) xs.length cL), (43, .int .i64 (ix : Int))] ⟨z42, z43, trivial⟩ rfl (by kernel_rfl)]; have f0 : M.env [(42, .slice (some ⟨gL, 0, none⟩) xs.length cL), (43, .int .i64 (ix : Int))] (.tmp 42) = .slice (some ⟨gL, 0, none⟩) xs.length cL := rfl; have f1 : M.env [(42, .slice (some ⟨gL, 0, none⟩) xs.length cL), (43, .int .i64 (ix : Int))] (.tmp 43) = .int .i64 (ix : Int) := rfl; simp only [execOp, f0, f1]; go_simp) (M.kz_of (k := .val (.pointer (some ⟨gL, ix, none⟩))) (by rw [hKS]; kernel_rfl) rfl)
                          · refine M.R.of rfl (by kernel_rfl) (.inl rfl) (fun Q listed a w h hd => ?_)
                            have z44 : a.tmps.getD 44 undef = .pointer (some ⟨gL, ix, none⟩) := M.kz_val (by rw [hKS]; kernel_rfl) (h.done 2 (by decide) (hd 2 (by kernel_rfl)))
                            have k2 := (HCL2.out w h.below).2.2.1
                            exact M.wp_pure (.slice (some ⟨xg, 0, none⟩) xn xc) rfl (by rw [M.run_env [(44, .pointer (some ⟨gL, ix, none⟩))] ⟨z44, trivial⟩ rfl (by kernel_rfl)]; go_simp; simp [M.env, k2]) (M.kz_of (k := .val (.slice (some ⟨xg, 0, none⟩) xn xc)) (by rw [hKS]; kernel_rfl) rfl)
                          · refine M.R.of rfl (by kernel_rfl) (.inl rfl) (fun Q listed a w h hd => ?_)
                            have z12 : a.tmps.getD 12 undef = .int .i64 (q : Int) := (h.base 12 (by intro j hj; unfold M.frD; omega)).trans s12
                            exact M.wp_pure (.int .i64 (q : Int)) rfl (by rw [M.run_env [(12, .int .i64 (q : Int))] ⟨z12, trivial⟩ rfl (by kernel_rfl)]; kernel_rfl) (M.kz_of (k := .val (.int .i64 (q : Int))) (by rw [hKS]; kernel_rfl) rfl)
                          · refine M.R.of rfl (by kernel_rfl) (.inl rfl) (fun Q listed a w h hd => ?_)
                            have z45 : a.tmps.getD 45 undef = .slice (some ⟨xg, 0, none⟩) xn xc := M.kz_val (by rw [hKS]; kernel_rfl) (h.done 3 (by decide) (hd 3 (by kernel_rfl)))
                            have z46 : a.tmps.getD 46 undef = .int .i64 (q : Int) := M.kz_val (by rw [hKS]; kernel_rfl) (h.done 4 (by decide) (hd 4 (by kernel_rfl)))
                            refine M.wp_call 58 #[.slice (some ⟨xg, 0, none⟩) xn xc, .int .i64 (q : Int)] rfl (by rw [M.run_env [(45, .slice (some ⟨xg, 0, none⟩) xn xc), (46, .int .i64 (q : Int))] ⟨z45, z46, trivial⟩ rfl (by kernel_rfl)]; kernel_rfl) ?_
                            exact (HIN2.out w h.below).mono fun e w' ⟨h1, h2⟩ => ⟨_, h1, M.kz_of (k := .val (.bool false)) (by rw [hKS]; kernel_rfl) rfl, h2⟩
                          · refine M.R.of rfl (by kernel_rfl) (.inl rfl) (fun Q listed a w h hd => ?_)
                            have z47 : a.tmps.getD 47 undef = .bool false := M.kz_val (by rw [hKS]; kernel_rfl) (h.done 5 (by decide) (hd 5 (by kernel_rfl)))
                            exact M.wp_pure (.bool true) rfl (by rw [M.run_env [(47, .bool false)] ⟨z47, trivial⟩ rfl (by kernel_rfl)]; kernel_rfl) (M.kz_of (k := .val (.bool true)) (by rw [hKS]; kernel_rfl) rfl)
                          · refine M.R.of rfl (by kernel_rfl) (.inl rfl) (fun Q listed a w h hd => ?_)
                            have z48 : a.tmps.getD 48 undef = .bool true := M.kz_val (by rw [hKS]; kernel_rfl) (h.done 6 (by decide) (hd 6 (by kernel_rfl)))
                            exact M.wp_pure (.bool true) rfl (by rw [M.run_env [(48, .bool true)] ⟨z48, trivial⟩ rfl (by kernel_rfl)]; kernel_rfl) (M.kz_of (k := .val (.bool true)) (by rw [hKS]; kernel_rfl) rfl)
                          · refine M.R.of rfl (by kernel_rfl) (.inr ⟨7, true, rfl, by decide, (by rw [hKS]; kernel_rfl), by kernel_rfl⟩) (fun Q listed a w h hd => ?_)
                            have z2 : a.tmps.getD 2 undef = .pointer (some ⟨g2, 0, none⟩) := (h.base 2 (by intro j hj; unfold M.frD; omega)).trans s2
                            have k0 := (HCL2.out w h.below).1
                            have k1 := (HCL2.out w h.below).2.1
                            exact M.wp_pure (.agg #[.int .i64 m, .slice (some ⟨bT, oT, none⟩) N c]) rfl (by rw [M.run_env [(2, .pointer (some ⟨g2, 0, none⟩))] ⟨z2, trivial⟩ rfl (by kernel_rfl)]; go_simp; simp [M.env, k0, k1]) (M.kz_of (k := .val (.agg #[.int .i64 m, .slice (some ⟨bT, oT, none⟩) N c])) (by rw [hKS]; kernel_rfl) rfl)
                          · refine M.R.of rfl (by kernel_rfl) (.inr ⟨7, true, rfl, by decide, (by rw [hKS]; kernel_rfl), by kernel_rfl⟩) (fun Q listed a w h hd => ?_)
                            have z10 : a.tmps.getD 10 undef = .slice (some ⟨gL, 0, none⟩) xs.length cL := (h.base 10 (by intro j hj; unfold M.frD; omega)).trans s10
                            exact M.wp_pure (.slice (some ⟨gL, 0, none⟩) xs.length cL) rfl (by rw [M.run_env [(10, .slice (some ⟨gL, 0, none⟩) xs.length cL)] ⟨z10, trivial⟩ rfl (by kernel_rfl)]; kernel_rfl) (M.kz_of (k := .val (.slice (some ⟨gL, 0, none⟩) xs.length cL)) (by rw [hKS]; kernel_rfl) rfl)
                          · refine M.R.of rfl (by kernel_rfl) (.inr ⟨7, true, rfl, by decide, (by rw [hKS]; kernel_rfl), by kernel_rfl⟩) (fun Q listed a w h hd => ?_)
                            have z11 : a.tmps.getD 11 undef = .int .i64 (ix : Int) := (h.base 11 (by intro j hj; unfold M.frD; omega)).trans s11
                            exact M.wp_pure (.int .i64 (ix : Int)) rfl (by rw [M.run_env [(11, .int .i64 (ix : Int))] ⟨z11, trivial⟩ rfl (by kernel_rfl)]; kernel_rfl) (M.kz_of (k := .val (.int .i64 (ix : Int))) (by rw [hKS]; kernel_rfl) rfl)
                          · refine M.R.of rfl (by kernel_rfl) (.inr ⟨7, true, rfl, by decide, (by rw [hKS]; kernel_rfl), by kernel_rfl⟩) (fun Q listed a w h hd => ?_)
                            have z51 : a.tmps.getD 51 undef = .slice (some ⟨gL, 0, none⟩) xs.length cL := M.kz_val (by rw [hKS]; kernel_rfl) (h.done 9 (by decide) (hd 9 (by kernel_rfl)))
                            have z52 : a.tmps.getD 52 undef = .int .i64 (ix : Int) := M.kz_val (by rw [hKS]; kernel_rfl) (h.done 10 (by decide) (hd 10 (by kernel_rfl)))
                            exact M.wp_pure (.pointer (some ⟨gL, ix, none⟩)) rfl (by rw [M.run_env [(51, .slice (some ⟨gL, 0, none⟩) xs.length cL), (52, .int .i64 (ix : Int))] ⟨z51, z52, trivial⟩ rfl (by kernel_rfl)]; have f0 : M.env [(51, .slice (some ⟨gL, 0, none⟩) xs.length cL), (52, .int .i64 (ix : Int))] (.tmp 51) = .slice (some ⟨gL, 0, none⟩) xs.length cL := rfl; have f1 : M.env [(51, .slice (some ⟨gL, 0, none⟩) xs.length cL), (52, .int .i64 (ix : Int))] (.tmp 52) = .int .i64 (ix : Int) := rfl; simp only [execOp, f0, f1]; go_simp) (M.kz_of (k := .val (.pointer (some ⟨gL, ix, none⟩))) (by rw [hKS]; kernel_rfl) rfl)
                          · refine M.R.of rfl (by kernel_rfl) (.inr ⟨7, true, rfl, by decide, (by rw [hKS]; kernel_rfl), by kernel_rfl⟩) (fun Q listed a w h hd => ?_)
                            have z53 : a.tmps.getD 53 undef = .pointer (some ⟨gL, ix, none⟩) := M.kz_val (by rw [hKS]; kernel_rfl) (h.done 11 (by decide) (hd 11 (by kernel_rfl)))
                            have k2 := (HCL2.out w h.below).2.2.1
                            exact M.wp_pure (.slice (some ⟨xg, 0, none⟩) xn xc) rfl (by rw [M.run_env [(53, .pointer (some ⟨gL, ix, none⟩))] ⟨z53, trivial⟩ rfl (by kernel_rfl)]; go_simp; simp [M.env, k2]) (M.kz_of (k := .val (.slice (some ⟨xg, 0, none⟩) xn xc)) (by rw [hKS]; kernel_rfl) rfl)
                          · refine M.R.of rfl (by kernel_rfl) (.inr ⟨7, true, rfl, by decide, (by rw [hKS]; kernel_rfl), by kernel_rfl⟩) (fun Q listed a w h hd => ?_)
                            have z2 : a.tmps.getD 2 undef = .pointer (some ⟨g2, 0, none⟩) := (h.base 2 (by intro j hj; unfold M.frD; omega)).trans s2
                            exact M.wp_pure (.pointer (some ⟨g2, 1, none⟩)) rfl (by rw [M.run_env [(2, .pointer (some ⟨g2, 0, none⟩))] ⟨z2, trivial⟩ rfl (by kernel_rfl)]; kernel_rfl) (M.kz_of (k := .val (.pointer (some ⟨g2, 1, none⟩))) (by rw [hKS]; kernel_rfl) rfl)
                          · refine M.R.of rfl (by kernel_rfl) (.inr ⟨7, true, rfl, by decide, (by rw [hKS]; kernel_rfl), by kernel_rfl⟩) (fun Q listed a w h hd => ?_)
                            have z55 : a.tmps.getD 55 undef = .pointer (some ⟨g2, 1, none⟩) := M.kz_val (by rw [hKS]; kernel_rfl) (h.done 13 (by decide) (hd 13 (by kernel_rfl)))
                            have k1 := (HCL2.out w h.below).2.1
                            exact M.wp_pure (.slice (some ⟨bT, oT, none⟩) N c) rfl (by rw [M.run_env [(55, .pointer (some ⟨g2, 1, none⟩))] ⟨z55, trivial⟩ rfl (by kernel_rfl)]; go_simp; simp [M.env, k1]) (M.kz_of (k := .val (.slice (some ⟨bT, oT, none⟩) N c)) (by rw [hKS]; kernel_rfl) rfl)
                          · refine M.R.of rfl (by kernel_rfl) (.inr ⟨7, true, rfl, by decide, (by rw [hKS]; kernel_rfl), by kernel_rfl⟩) (fun Q listed a w h hd => ?_)
                            have z12 : a.tmps.getD 12 undef = .int .i64 (q : Int) := (h.base 12 (by intro j hj; unfold M.frD; omega)).trans s12
                            exact M.wp_pure (.int .i64 (q : Int)) rfl (by rw [M.run_env [(12, .int .i64 (q : Int))] ⟨z12, trivial⟩ rfl (by kernel_rfl)]; kernel_rfl) (M.kz_of (k := .val (.int .i64 (q : Int))) (by rw [hKS]; kernel_rfl) rfl)
                          · refine M.R.of rfl (by kernel_rfl) (.inr ⟨7, true, rfl, by decide, (by rw [hKS]; kernel_rfl), by kernel_rfl⟩) (fun Q listed a w h hd => ?_)
                            have z56 : a.tmps.getD 56 undef = .slice (some ⟨bT, oT, none⟩) N c := M.kz_val (by rw [hKS]; kernel_rfl) (h.done 14 (by decide) (hd 14 (by kernel_rfl)))
                            have z57 : a.tmps.getD 57 undef = .int .i64 (q : Int) := M.kz_val (by rw [hKS]; kernel_rfl) (h.done 15 (by decide) (hd 15 (by kernel_rfl)))
                            exact M.wp_pure (.pointer (some ⟨bT, oT + q, none⟩)) rfl (by rw [M.run_env [(56, .slice (some ⟨bT, oT, none⟩) N c), (57, .int .i64 (q : Int))] ⟨z56, z57, trivial⟩ rfl (by kernel_rfl)]; have f0 : M.env [(56, .slice (some ⟨bT, oT, none⟩) N c), (57, .int .i64 (q : Int))] (.tmp 56) = .slice (some ⟨bT, oT, none⟩) N c := rfl; have f1 : M.env [(56, .slice (some ⟨bT, oT, none⟩) N c), (57, .int .i64 (q : Int))] (.tmp 57) = .int .i64 (q : Int) := rfl; simp only [execOp, f0, f1]; go_simp) (M.kz_of (k := .val (.pointer (some ⟨bT, oT + q, none⟩))) (by rw [hKS]; kernel_rfl) rfl)
                          · refine M.R.of rfl (by kernel_rfl) (.inr ⟨7, true, rfl, by decide, (by rw [hKS]; kernel_rfl), by kernel_rfl⟩) (fun Q listed a w h hd => ?_)
                            have z58 : a.tmps.getD 58 undef = .pointer (some ⟨bT, oT + q, none⟩) := M.kz_val (by rw [hKS]; kernel_rfl) (h.done 16 (by decide) (hd 16 (by kernel_rfl)))
                            have k3 := (HCL2.out w h.below).2.2.2
                            exact M.wp_pure (.slice rq pl cq) rfl (by rw [M.run_env [(58, .pointer (some ⟨bT, oT + q, none⟩))] ⟨z58, trivial⟩ rfl (by kernel_rfl)]; go_simp; simp [M.env, k3]) (M.kz_of (k := .val (.slice rq pl cq)) (by rw [hKS]; kernel_rfl) rfl)
                          · refine M.R.of rfl (by kernel_rfl) (.inr ⟨7, true, rfl, by decide, (by rw [hKS]; kernel_rfl), by kernel_rfl⟩) (fun Q listed a w h hd => ?_)
                            have z50 : a.tmps.getD 50 undef = .agg #[.int .i64 m, .slice (some ⟨bT, oT, none⟩) N c] := M.kz_val (by rw [hKS]; kernel_rfl) (h.done 8 (by decide) (hd 8 (by kernel_rfl)))
                            have z54 : a.tmps.getD 54 undef = .slice (some ⟨xg, 0, none⟩) xn xc := M.kz_val (by rw [hKS]; kernel_rfl) (h.done 12 (by decide) (hd 12 (by kernel_rfl)))
                            have z59 : a.tmps.getD 59 undef = .slice rq pl cq := M.kz_val (by rw [hKS]; kernel_rfl) (h.done 17 (by decide) (hd 17 (by kernel_rfl)))
                            refine M.wp_call 52 #[.agg #[.int .i64 m, .slice (some ⟨bT, oT, none⟩) N c], .slice (some ⟨xg, 0, none⟩) xn xc, .slice rq pl cq] rfl (by rw [M.run_env [(50, .agg #[.int .i64 m, .slice (some ⟨bT, oT, none⟩) N c]), (54, .slice (some ⟨xg, 0, none⟩) xn xc), (59, .slice rq pl cq)] ⟨z50, z54, z59, trivial⟩ rfl (by kernel_rfl)]; kernel_rfl) ?_
                            exact (HMK2.out w h.below).mono fun e w' ⟨h1, h2⟩ => ⟨_, h1, M.kz_of (k := .val (.bool true)) (by rw [hKS]; kernel_rfl) rfl, h2⟩
                          · refine M.R.of rfl (by kernel_rfl) (.inl rfl) (fun Q listed a w h hd => ?_)
                            have z49 : a.tmps.getD 49 undef = .bool true := M.kz_val (by rw [hKS]; kernel_rfl) (h.done 7 (by decide) (hd 7 (by kernel_rfl)))
                            have z60 : a.tmps.getD 60 undef = .bool true := M.kz_val (by rw [hKS]; kernel_rfl) (h.done 18 (by decide) (hd 18 (by kernel_rfl)))
                            exact M.wp_pure (.bool true) rfl (by rw [M.run_env [(49, .bool true), (60, .bool true)] ⟨z49, z60, trivial⟩ rfl (by kernel_rfl)]; kernel_rfl) (M.kz_of (k := .val (.bool true)) (by rw [hKS]; kernel_rfl) rfl)
                          · refine M.R.of rfl (by kernel_rfl) (.inl rfl) (fun Q listed a w h hd => ?_)
                            have z61 : a.tmps.getD 61 undef = .bool true := M.kz_val (by rw [hKS]; kernel_rfl) (h.done 19 (by decide) (hd 19 (by kernel_rfl)))
                            exact M.wp_pure (.bool true) rfl (by rw [M.run_env [(61, .bool true)] ⟨z61, trivial⟩ rfl (by kernel_rfl)]; kernel_rfl) (M.kz_of (k := .val (.bool true)) (by rw [hKS]; kernel_rfl) rfl)
                          · refine M.R.of rfl (by kernel_rfl) (.inr ⟨20, true, rfl, by decide, (by rw [hKS]; kernel_rfl), by kernel_rfl⟩) (fun Q listed a w h hd => ?_)
                            have z8 : a.tmps.getD 8 undef = .slice ab bn cb := (h.base 8 (by intro j hj; unfold M.frD; omega)).trans s8
                            exact M.wp_pure (.slice ab bn cb) rfl (by rw [M.run_env [(8, .slice ab bn cb)] ⟨z8, trivial⟩ rfl (by kernel_rfl)]; kernel_rfl) (M.kz_of (k := .val (.slice ab bn cb)) (by rw [hKS]; kernel_rfl) rfl)
                          · refine M.R.of rfl (by kernel_rfl) (.inr ⟨20, true, rfl, by decide, (by rw [hKS]; kernel_rfl), by kernel_rfl⟩) (fun Q listed a w h hd => ?_)
                            have z63 : a.tmps.getD 63 undef = .slice ab bn cb := M.kz_val (by rw [hKS]; kernel_rfl) (h.done 21 (by decide) (hd 21 (by kernel_rfl)))
                            exact M.wp_pure (.int .i64 (bn : Int)) rfl (by rw [M.run_env [(63, .slice ab bn cb)] ⟨z63, trivial⟩ rfl (by kernel_rfl)]; kernel_rfl) (M.kz_of (k := .val (.int .i64 (bn : Int))) (by rw [hKS]; kernel_rfl) rfl)
                          · refine M.R.of rfl (by kernel_rfl) (.inr ⟨20, true, rfl, by decide, (by rw [hKS]; kernel_rfl), by kernel_rfl⟩) (fun Q listed a w h hd => ?_)
                            have z64 : a.tmps.getD 64 undef = .int .i64 (bn : Int) := M.kz_val (by rw [hKS]; kernel_rfl) (h.done 22 (by decide) (hd 22 (by kernel_rfl)))
                            exact M.wp_pure (.bool false) rfl (by rw [M.run_env [(64, .int .i64 (bn : Int))] ⟨z64, trivial⟩ rfl (by kernel_rfl)]; have f0 : M.env [(64, .int .i64 (bn : Int))] (.tmp 64) = .int .i64 (bn : Int) := rfl; simp only [execOp, f0, M.env_const]; go_simp) (M.kz_of (k := .val (.bool false)) (by rw [hKS]; kernel_rfl) rfl)
                          · refine M.R.of rfl (by kernel_rfl) (.inr ⟨20, true, rfl, by decide, (by rw [hKS]; kernel_rfl), by kernel_rfl⟩) (fun Q listed a w h hd => ?_)
                            have z65 : a.tmps.getD 65 undef = .bool false := M.kz_val (by rw [hKS]; kernel_rfl) (h.done 23 (by decide) (hd 23 (by kernel_rfl)))
                            exact M.wp_pure (.bool false) rfl (by rw [M.run_env [(65, .bool false)] ⟨z65, trivial⟩ rfl (by kernel_rfl)]; kernel_rfl) (M.kz_of (k := .val (.bool false)) (by rw [hKS]; kernel_rfl) rfl)
                          · refine M.R.of rfl (by kernel_rfl) (.inr ⟨24, false, rfl, by decide, (by rw [hKS]; kernel_rfl), by kernel_rfl⟩) (fun Q listed a w h hd => ?_)
                            have z10 : a.tmps.getD 10 undef = .slice (some ⟨gL, 0, none⟩) xs.length cL := (h.base 10 (by intro j hj; unfold M.frD; omega)).trans s10
                            exact M.wp_pure (.slice (some ⟨gL, 0, none⟩) xs.length cL) rfl (by rw [M.run_env [(10, .slice (some ⟨gL, 0, none⟩) xs.length cL)] ⟨z10, trivial⟩ rfl (by kernel_rfl)]; kernel_rfl) (M.kz_of (k := .val (.slice (some ⟨gL, 0, none⟩) xs.length cL)) (by rw [hKS]; kernel_rfl) rfl)
                          · refine M.R.of rfl (by kernel_rfl) (.inr ⟨24, false, rfl, by decide, (by rw [hKS]; kernel_rfl), by kernel_rfl⟩) (fun Q listed a w h hd => ?_)
                            have z11 : a.tmps.getD 11 undef = .int .i64 (ix : Int) := (h.base 11 (by intro j hj; unfold M.frD; omega)).trans s11
                            exact M.wp_pure (.int .i64 (ix : Int)) rfl (by rw [M.run_env [(11, .int .i64 (ix : Int))] ⟨z11, trivial⟩ rfl (by kernel_rfl)]; kernel_rfl) (M.kz_of (k := .val (.int .i64 (ix : Int))) (by rw [hKS]; kernel_rfl) rfl)
                          · refine M.R.of rfl (by kernel_rfl) (.inr ⟨24, false, rfl, by decide, (by rw [hKS]; kernel_rfl), by kernel_rfl⟩) (fun Q listed a w h hd => ?_)
                            have z67 : a.tmps.getD 67 undef = .slice (some ⟨gL, 0, none⟩) xs.length cL := M.kz_val (by rw [hKS]; kernel_rfl) (h.done 25 (by decide) (hd 25 (by kernel_rfl)))
                            have z68 : a.tmps.getD 68 undef = .int .i64 (ix : Int) := M.kz_val (by rw [hKS]; kernel_rfl) (h.done 26 (by decide) (hd 26 (by kernel_rfl)))
                            exact M.wp_pure (.pointer (some ⟨gL, ix, none⟩)) rfl (by rw [M.run_env [(67, .slice (some ⟨gL, 0, none⟩) xs.length cL), (68, .int .i64 (ix : Int))] ⟨z67, z68, trivial⟩ rfl (by kernel_rfl)]; have f0 : M.env [(67, .slice (some ⟨gL, 0, none⟩) xs.length cL), (68, .int .i64 (ix : Int))] (.tmp 67) = .slice (some ⟨gL, 0, none⟩) xs.length cL := rfl; have f1 : M.env [(67, .slice (some ⟨gL, 0, none⟩) xs.length cL), (68, .int .i64 (ix : Int))] (.tmp 68) = .int .i64 (ix : Int) := rfl; simp only [execOp, f0, f1]; go_simp) (M.kz_of (k := .val (.pointer (some ⟨gL, ix, none⟩))) (by rw [hKS]; kernel_rfl) rfl)
                          · refine M.R.of rfl (by kernel_rfl) (.inr ⟨24, false, rfl, by decide, (by rw [hKS]; kernel_rfl), by kernel_rfl⟩) (fun Q listed a w h hd => ?_)
                            have z69 : a.tmps.getD 69 undef = .pointer (some ⟨gL, ix, none⟩) := M.kz_val (by rw [hKS]; kernel_rfl) (h.done 27 (by decide) (hd 27 (by kernel_rfl)))
                            have k2 := (HCL2.out w h.below).2.2.1
                            exact M.wp_pure (.slice (some ⟨xg, 0, none⟩) xn xc) rfl (by rw [M.run_env [(69, .pointer (some ⟨gL, ix, none⟩))] ⟨z69, trivial⟩ rfl (by kernel_rfl)]; go_simp; simp [M.env, k2]) (M.kz_of (k := .val (.slice (some ⟨xg, 0, none⟩) xn xc)) (by rw [hKS]; kernel_rfl) rfl)
                          · refine M.R.of rfl (by kernel_rfl) (.inr ⟨24, false, rfl, by decide, (by rw [hKS]; kernel_rfl), by kernel_rfl⟩) (fun Q listed a w h hd => ?_)
                            have z70 : a.tmps.getD 70 undef = .slice (some ⟨xg, 0, none⟩) xn xc := M.kz_val (by rw [hKS]; kernel_rfl) (h.done 28 (by decide) (hd 28 (by kernel_rfl)))
                            exact M.wp_pure (.int .i64 (xn : Int)) rfl (by rw [M.run_env [(70, .slice (some ⟨xg, 0, none⟩) xn xc)] ⟨z70, trivial⟩ rfl (by kernel_rfl)]; kernel_rfl) (M.kz_of (k := .val (.int .i64 (xn : Int))) (by rw [hKS]; kernel_rfl) rfl)
                          · refine M.R.of rfl (by kernel_rfl) (.inr ⟨24, false, rfl, by decide, (by rw [hKS]; kernel_rfl), by kernel_rfl⟩) (fun Q listed a w h hd => ?_)
                            have z8 : a.tmps.getD 8 undef = .slice ab bn cb := (h.base 8 (by intro j hj; unfold M.frD; omega)).trans s8
                            exact M.wp_pure (.slice ab bn cb) rfl (by rw [M.run_env [(8, .slice ab bn cb)] ⟨z8, trivial⟩ rfl (by kernel_rfl)]; kernel_rfl) (M.kz_of (k := .val (.slice ab bn cb)) (by rw [hKS]; kernel_rfl) rfl)
                          · refine M.R.of rfl (by kernel_rfl) (.inr ⟨24, false, rfl, by decide, (by rw [hKS]; kernel_rfl), by kernel_rfl⟩) (fun Q listed a w h hd => ?_)
                            have z72 : a.tmps.getD 72 undef = .slice ab bn cb := M.kz_val (by rw [hKS]; kernel_rfl) (h.done 30 (by decide) (hd 30 (by kernel_rfl)))
                            exact M.wp_pure (.int .i64 (bn : Int)) rfl (by rw [M.run_env [(72, .slice ab bn cb)] ⟨z72, trivial⟩ rfl (by kernel_rfl)]; kernel_rfl) (M.kz_of (k := .val (.int .i64 (bn : Int))) (by rw [hKS]; kernel_rfl) rfl)
                          · refine M.R.of rfl (by kernel_rfl) (.inr ⟨24, false, rfl, by decide, (by rw [hKS]; kernel_rfl), by kernel_rfl⟩) (fun Q listed a w h hd => ?_)
                            have z71 : a.tmps.getD 71 undef = .int .i64 (xn : Int) := M.kz_val (by rw [hKS]; kernel_rfl) (h.done 29 (by decide) (hd 29 (by kernel_rfl)))
                            have z73 : a.tmps.getD 73 undef = .int .i64 (bn : Int) := M.kz_val (by rw [hKS]; kernel_rfl) (h.done 31 (by decide) (hd 31 (by kernel_rfl)))
                            exact M.wp_pure (.bool false) rfl (by rw [M.run_env [(71, .int .i64 (xn : Int)), (73, .int .i64 (bn : Int))] ⟨z71, z73, trivial⟩ rfl (by kernel_rfl)]; have f0 : M.env [(71, .int .i64 (xn : Int)), (73, .int .i64 (bn : Int))] (.tmp 71) = .int .i64 (xn : Int) := rfl; have f1 : M.env [(71, .int .i64 (xn : Int)), (73, .int .i64 (bn : Int))] (.tmp 73) = .int .i64 (bn : Int) := rfl; simp only [execOp, f0, f1]; go_simp) (M.kz_of (k := .val (.bool false)) (by rw [hKS]; kernel_rfl) rfl)
                          · refine M.R.of rfl (by kernel_rfl) (.inr ⟨20, true, rfl, by decide, (by rw [hKS]; kernel_rfl), by kernel_rfl⟩) (fun Q listed a w h hd => ?_)
                            have z66 : a.tmps.getD 66 undef = .bool false := M.kz_val (by rw [hKS]; kernel_rfl) (h.done 24 (by decide) (hd 24 (by kernel_rfl)))
                            have z74 : a.tmps.getD 74 undef = .bool false := M.kz_val (by rw [hKS]; kernel_rfl) (h.done 32 (by decide) (hd 32 (by kernel_rfl)))
                            exact M.wp_pure (.bool false) rfl (by rw [M.run_env [(66, .bool false), (74, .bool false)] ⟨z66, z74, trivial⟩ rfl (by kernel_rfl)]; kernel_rfl) (M.kz_of (k := .val (.bool false)) (by rw [hKS]; kernel_rfl) rfl)
                          · refine M.R.of rfl (by kernel_rfl) (.inr ⟨20, true, rfl, by decide, (by rw [hKS]; kernel_rfl), by kernel_rfl⟩) (fun Q listed a w h hd => ?_)
                            have z75 : a.tmps.getD 75 undef = .bool false := M.kz_val (by rw [hKS]; kernel_rfl) (h.done 33 (by decide) (hd 33 (by kernel_rfl)))
                            exact M.wp_pure (.bool false) rfl (by rw [M.run_env [(75, .bool false)] ⟨z75, trivial⟩ rfl (by kernel_rfl)]; kernel_rfl) (M.kz_of (k := .val (.bool false)) (by rw [hKS]; kernel_rfl) rfl)
                          · refine M.R.of rfl (by kernel_rfl) (.inr ⟨34, false, rfl, by decide, (by rw [hKS]; kernel_rfl), by kernel_rfl⟩) (fun Q listed a w h hd => ?_)
                            have z8 : a.tmps.getD 8 undef = .slice ab bn cb := (h.base 8 (by intro j hj; unfold M.frD; omega)).trans s8
                            exact M.wp_pure (.slice ab bn cb) rfl (by rw [M.run_env [(8, .slice ab bn cb)] ⟨z8, trivial⟩ rfl (by kernel_rfl)]; kernel_rfl) (M.kz_of (k := .val (.slice ab bn cb)) (by rw [hKS]; kernel_rfl) rfl)
                          · refine M.R.of rfl (by kernel_rfl) (.inr ⟨34, false, rfl, by decide, (by rw [hKS]; kernel_rfl), by kernel_rfl⟩) (fun Q listed a w h hd => ?_)
                            have z10 : a.tmps.getD 10 undef = .slice (some ⟨gL, 0, none⟩) xs.length cL := (h.base 10 (by intro j hj; unfold M.frD; omega)).trans s10
                            exact M.wp_pure (.slice (some ⟨gL, 0, none⟩) xs.length cL) rfl (by rw [M.run_env [(10, .slice (some ⟨gL, 0, none⟩) xs.length cL)] ⟨z10, trivial⟩ rfl (by kernel_rfl)]; kernel_rfl) (M.kz_of (k := .val (.slice (some ⟨gL, 0, none⟩) xs.length cL)) (by rw [hKS]; kernel_rfl) rfl)
                          · refine M.R.of rfl (by kernel_rfl) (.inr ⟨34, false, rfl, by decide, (by rw [hKS]; kernel_rfl), by kernel_rfl⟩) (fun Q listed a w h hd => ?_)
                            have z11 : a.tmps.getD 11 undef = .int .i64 (ix : Int) := (h.base 11 (by intro j hj; unfold M.frD; omega)).trans s11
                            exact M.wp_pure (.int .i64 (ix : Int)) rfl (by rw [M.run_env [(11, .int .i64 (ix : Int))] ⟨z11, trivial⟩ rfl (by kernel_rfl)]; kernel_rfl) (M.kz_of (k := .val (.int .i64 (ix : Int))) (by rw [hKS]; kernel_rfl) rfl)
                          · refine M.R.of rfl (by kernel_rfl) (.inr ⟨34, false, rfl, by decide, (by rw [hKS]; kernel_rfl), by kernel_rfl⟩) (fun Q listed a w h hd => ?_)
                            have z78 : a.tmps.getD 78 undef = .slice (some ⟨gL, 0, none⟩) xs.length cL := M.kz_val (by rw [hKS]; kernel_rfl) (h.done 36 (by decide) (hd 36 (by kernel_rfl)))
                            have z79 : a.tmps.getD 79 undef = .int .i64 (ix : Int) := M.kz_val (by rw [hKS]; kernel_rfl) (h.done 37 (by decide) (hd 37 (by kernel_rfl)))
                            exact M.wp_pure (.pointer (some ⟨gL, ix, none⟩)) rfl (by rw [M.run_env [(78, .slice (some ⟨gL, 0, none⟩) xs.length cL), (79, .int .i64 (ix : Int))] ⟨z78, z79, trivial⟩ rfl (by kernel_rfl)]; have f0 : M.env [(78, .slice (some ⟨gL, 0, none⟩) xs.length cL), (79, .int .i64 (ix : Int))] (.tmp 78) = .slice (some ⟨gL, 0, none⟩) xs.length cL := rfl; have f1 : M.env [(78, .slice (some ⟨gL, 0, none⟩) xs.length cL), (79, .int .i64 (ix : Int))] (.tmp 79) = .int .i64 (ix : Int) := rfl; simp only [execOp, f0, f1]; go_simp) (M.kz_of (k := .val (.pointer (some ⟨gL, ix, none⟩))) (by rw [hKS]; kernel_rfl) rfl)
                          · refine M.R.of rfl (by kernel_rfl) (.inr ⟨34, false, rfl, by decide, (by rw [hKS]; kernel_rfl), by kernel_rfl⟩) (fun Q listed a w h hd => ?_)
                            have z80 : a.tmps.getD 80 undef = .pointer (some ⟨gL, ix, none⟩) := M.kz_val (by rw [hKS]; kernel_rfl) (h.done 38 (by decide) (hd 38 (by kernel_rfl)))
                            have k2 := (HCL2.out w h.below).2.2.1
                            exact M.wp_pure (.slice (some ⟨xg, 0, none⟩) xn xc) rfl (by rw [M.run_env [(80, .pointer (some ⟨gL, ix, none⟩))] ⟨z80, trivial⟩ rfl (by kernel_rfl)]; go_simp; simp [M.env, k2]) (M.kz_of (k := .val (.slice (some ⟨xg, 0, none⟩) xn xc)) (by rw [hKS]; kernel_rfl) rfl)
                          · refine M.R.of rfl (by kernel_rfl) (.inr ⟨34, false, rfl, by decide, (by rw [hKS]; kernel_rfl), by kernel_rfl⟩) (fun Q listed a w h hd => ?_)
                            have z77 : a.tmps.getD 77 undef = .slice ab bn cb := M.kz_val (by rw [hKS]; kernel_rfl) (h.done 35 (by decide) (hd 35 (by kernel_rfl)))
                            have z81 : a.tmps.getD 81 undef = .slice (some ⟨xg, 0, none⟩) xn xc := M.kz_val (by rw [hKS]; kernel_rfl) (h.done 39 (by decide) (hd 39 (by kernel_rfl)))
                            refine M.wp_call 59 #[.slice ab bn cb, .slice (some ⟨xg, 0, none⟩) xn xc] rfl (by rw [M.run_env [(77, .slice ab bn cb), (81, .slice (some ⟨xg, 0, none⟩) xn xc)] ⟨z77, z81, trivial⟩ rfl (by kernel_rfl)]; kernel_rfl) ?_
                            exact (HBE2.out w h.below).mono fun e w' ⟨h1, h2⟩ => ⟨_, h1, M.kz_of (k := .val (.bool true)) (by rw [hKS]; kernel_rfl) rfl, h2⟩
                          · refine M.R.of rfl (by kernel_rfl) (.inr ⟨34, false, rfl, by decide, (by rw [hKS]; kernel_rfl), by kernel_rfl⟩) (fun Q listed a w h hd => ?_)
                            have z82 : a.tmps.getD 82 undef = .bool true := M.kz_val (by rw [hKS]; kernel_rfl) (h.done 40 (by decide) (hd 40 (by kernel_rfl)))
                            exact M.wp_pure (.bool false) rfl (by rw [M.run_env [(82, .bool true)] ⟨z82, trivial⟩ rfl (by kernel_rfl)]; kernel_rfl) (M.kz_of (k := .val (.bool false)) (by rw [hKS]; kernel_rfl) rfl)
                          · refine M.R.of rfl (by kernel_rfl) (.inr ⟨20, true, rfl, by decide, (by rw [hKS]; kernel_rfl), by kernel_rfl⟩) (fun Q listed a w h hd => ?_)
                            have z76 : a.tmps.getD 76 undef = .bool false := M.kz_val (by rw [hKS]; kernel_rfl) (h.done 34 (by decide) (hd 34 (by kernel_rfl)))
                            have z83 : a.tmps.getD 83 undef = .bool false := M.kz_val (by rw [hKS]; kernel_rfl) (h.done 41 (by decide) (hd 41 (by kernel_rfl)))
                            exact M.wp_pure (.bool false) rfl (by rw [M.run_env [(76, .bool false), (83, .bool false)] ⟨z76, z83, trivial⟩ rfl (by kernel_rfl)]; kernel_rfl) (M.kz_of (k := .val (.bool false)) (by rw [hKS]; kernel_rfl) rfl)
                          · refine M.R.of rfl (by kernel_rfl) (.inl rfl) (fun Q listed a w h hd => ?_)
                            have z62 : a.tmps.getD 62 undef = .bool true := M.kz_val (by rw [hKS]; kernel_rfl) (h.done 20 (by decide) (hd 20 (by kernel_rfl)))
                            have z84 : a.tmps.getD 84 undef = .bool false := M.kz_val (by rw [hKS]; kernel_rfl) (h.done 42 (by decide) (hd 42 (by kernel_rfl)))
                            exact M.wp_pure (.bool false) rfl (by rw [M.run_env [(62, .bool true), (84, .bool false)] ⟨z62, z84, trivial⟩ rfl (by kernel_rfl)]; kernel_rfl) (M.kz_of (k := .val (.bool false)) (by rw [hKS]; kernel_rfl) rfl)
                        case refine_2 =>
                          intro a' w' hsz hd hb hbs hk
                          have e43 : a'.tmps.getD (42 + 43) undef = .bool false := M.kz_val (by rw [hKS]; kernel_rfl) (hk 43 (by decide))
                          obtain ⟨tmps, defers⟩ := a'
                          dsimp only at hsz
                          have hfr := M.frame (lo := 42) (n := 44) (A := tmps) (hb := fun s h => hbs s (fun j hj e => by unfold M.frD at e; omega)) (hs := by exact hsz) (hn := by show 86 ≤ 96; decide)
                          dsimp only at hfr e43 hd
                          obtain ⟨u, hu⟩ : ∃ u : Nat → Value, ∀ i, tmps.getD (42 + i) undef = u i := ⟨_, fun _ => rfl⟩
                          simp only [hu] at hfr e43
                          clear hu hk hbs hsz hKS
                          subst hfr
                          subst hd
                          simp only [List.take_succ_cons, List.take_zero, List.drop_succ_cons, List.drop_zero, List.range, List.range.loop, List.map_cons, List.map_nil, List.cons_append, List.nil_append, e43]
                          have HBW := hid (HFIN2.out w' hb)
                          have HRX := hid (HXR2.out w' hb)
                          have HRB2 := hid (HBR2.out w' hb)
                          go_wp2
                          go_roundw
                          case rel => exact ⟨q, by omega, by go_num, ab, cb, b, cn, by rw [HBN.out], rfl, HRB2.out, HMID.out.miss HCL0.out (.inr HE.out), HBW.out⟩
                          case measure => simp [intOf]
        · have hxe : ix = xs.length := by omega
          subst hxe
          have HALL : Hid (M.St T (M.lxs T.length sz.toNat) b0 c0) := hid (by
            have h := HST.out
            rw [List.take_of_length_le (by simp), HXS.out] at h
            rw [HN.out]; exact h)
          have HEND := hid HALL.out.fra
          have HBE : Hid (Below w.heap.size w wo) := hid (by rw [HG2.out]; exact HBV.out.trans (HBR0.out.mono (by rw [← HG2.out]; exact HBV.out.size)))
          clear hrd hst hb
          obtain ⟨bn, hbn⟩ : ∃ bn, b0.length = bn := ⟨_, rfl⟩
          have HBN := hid hbn
          rw [hbn]
          clear hbn
          by_cases h3 : bn = 0
          · have h3' : ((bn : Int) == 0) = true := beq_iff_eq.2 (by omega)
            have HR0 : Hid (R = ([], 0, 5)) := hid (by rw [← HRR.out]; exact HEND.out.1 (List.length_eq_zero_iff.1 (by rw [HBN.out]; exact h3)))
            go_wp2
            go_ret3
            rw [HR0.out]
            exact ⟨none, 0, rfl, RdI.nil _ _, HBE.out⟩
          · have h3' : ((bn : Int) == 0) = false := beq_eq_false_iff_ne.2 (by omega)
            have HR0 : Hid (R = (M.toI b0, (c0 : Int), 0)) := hid (by
              rw [← HRR.out]
              exact HEND.out.2 (fun e => h3 (by rw [← HBN.out, e]; rfl)))
            go_wp2
            go_ret3
            rw [HR0.out]
            refine ⟨ab, cb, ?_, HRD.out, HBE.out⟩
            show Ending.returned (.tuple #[.slice ab bn cb, .int .i64 (c0 : Int), .int .i64 0]) = .returned (.tuple #[.slice ab (M.toI b0).length cb, .int .i64 (c0 : Int), .int .i64 0])
            rw [M.toI_len, HBN.out]
    · have HV : Hid (M.fraV m T sz = ([], 0, 4)) := hid (by unfold M.fraV M.sz; rw [if_pos h0, if_neg h1, if_neg (by omega)])
      rw [HV.out]
      have HI := hid (fun W => is_b sz 1 10 false (decide_eq_false h1) W)
      clear hB hT h0 hml h1 hm
      go_enter Tryd.func23, Tryd.ntmps23
      go_wp2_with fail
      rw [hW] at *
      go_wp2_with (first
        | (refine HC.out.mono ?_; rintro e w7 ⟨rfl, hb7⟩; have q0 := cell_stays hb7 (Nat.le_refl _) c0; have q1 := cell_stays hb7 (Nat.le_refl _) c1; replace hb7 := hid hb7)
        | (refine (HI.out _).mono ?_; rintro e w8 ⟨rfl, rfl⟩))
      go_ret3
      exact ⟨none, 0, rfl, RdI.nil _ _, HB.out.trans (hb7.out.mono HB.out.size)⟩
  · have HV : Hid (M.fraV m T sz = ([], 0, M.chk m T)) := hid (by unfold M.fraV; rw [if_neg h0])
    rw [HV.out]
    have h0' : (M.chk m T == 0) = false := beq_eq_false_iff_ne.2 h0
    have h0'' : (M.chk m T != 0) = true := by simpa using h0
    generalize M.chk m T = y at *
    clear hB hT h0 hml hm
    go_enter Tryd.func23, Tryd.ntmps23
    go_wp2_with fail
    rw [hW] at *
    go_wp2_with (refine HC.out.mono ?_; rintro e w7 ⟨rfl, hb7⟩; have q0 := cell_stays hb7 (Nat.le_refl _) c0; have q1 := cell_stays hb7 (Nat.le_refl _) c1; replace hb7 := hid hb7)
    go_ret3
    exact ⟨none, 0, rfl, RdI.nil _ _, HB.out.trans (hb7.out.mono HB.out.size)⟩
end Go.Proofs.YthnklabdjaiplaaDoor
