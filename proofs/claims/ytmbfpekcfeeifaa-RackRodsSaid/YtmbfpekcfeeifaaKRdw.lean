/- The walk of the law RackRods. -/
import Derived.Test.YtmbfpekcfeeifaaKRTrm
import Derived.Test.YtmbfpekcfeeifaaKRds
import Derived.Test.YtmbfpekcfeeifaaKGvo
import Derived.Test.YtmbfpekcfeeifaaKNum
import Derived.Test.YtmbfpekcfeeifaaKWorks
namespace Go.Proofs.Ytmbfpekcfeeifaa
open Go.RowKit Ev

theorem K.msg_none {m n : Int} {bs : List Br} (h : K.chr m n bs ≠ 0) : K.msg m n bs = [] ∧ K.fre m n bs = 0 := ⟨by unfold K.msg; rw [if_neg h], by unfold K.fre; rw [if_neg h]⟩
theorem K.trm_len (m n : Int) (bs : List Br) : (K.trm m n bs).length ≤ bs.length := by
  unfold K.trm
  split
  · have := K.jo_len m.toNat bs (K.leads m.toNat [], [], 0)
    unfold K.jo
    simpa using this
  · exact Nat.zero_le _

theorem K.gsr_rods {p q : Nat} {S : List Br} (h : K.chr p q S = 0) : (K.gsr p q S).length = (K.gs (K.leads p S) p (p + q) (p + q)).length := by
  unfold K.gsr K.gsv
  rw [if_pos (K.chr_zero h).1]
  simp
theorem K.grp_step {p q : Nat} {bs : List Br} (h : K.chr p q bs = 0) {k : Nat} (hk : k < (bs ++ K.msg p q bs).length) :
    K.chk p q (K.sm p (K.leads p []) (bs ++ K.msg p q bs) k) = 0 ∧ K.chk p q (K.sm p (K.leads p []) (bs ++ K.msg p q bs) k ++ [(bs ++ K.msg p q bs)[k]]) = 0 ∧ (K.sm p (K.leads p []) (bs ++ K.msg p q bs) k).length ≤ 11 ∧
    ((K.sm p (K.leads p []) (bs ++ K.msg p q bs) (k + 1) = K.sm p (K.leads p []) (bs ++ K.msg p q bs) k ∧ (K.gsr p q (K.sm p (K.leads p []) (bs ++ K.msg p q bs) k ++ [(bs ++ K.msg p q bs)[k]])).length = (K.gsr p q (K.sm p (K.leads p []) (bs ++ K.msg p q bs) k)).length) ∨
     (K.sm p (K.leads p []) (bs ++ K.msg p q bs) (k + 1) = K.sm p (K.leads p []) (bs ++ K.msg p q bs) k ++ [(bs ++ K.msg p q bs)[k]] ∧ (K.gsr p q (K.sm p (K.leads p []) (bs ++ K.msg p q bs) k ++ [(bs ++ K.msg p q bs)[k]])).length < (K.gsr p q (K.sm p (K.leads p []) (bs ++ K.msg p q bs) k)).length)) := by
  have hf := K.full h
  obtain ⟨h1, h2⟩ := K.chr_zero h
  obtain ⟨p', q', e1, e2, hok⟩ := K.chk_ok h1
  have hp : 1 ≤ p ∧ p ≤ 6 := by have := hok.m1; have := hok.m6; omega
  have hq : q ≤ 6 := by have := hok.n6; omega
  generalize bs ++ K.msg p q bs = B at *
  have hl := K.sm_few hp hq hf (Nat.le_of_lt hk)
  have hmem := (K.sm_mem (m := p) (M := K.leads p []) (rods := B) k (Nat.le_of_lt hk)).1
  have c1 := K.chr_mk h (S := K.sm p (K.leads p []) B k) (by omega) (fun b hb => hf b (hmem b hb))
  have c2 := K.chr_mk h (S := K.sm p (K.leads p []) B k ++ [B[k]]) (by rw [List.length_append]; have : [B[k]].length = 1 := rfl; omega) (fun b hb => by
    rcases List.mem_append.1 hb with hb | hb
    · exact hf b (hmem b hb)
    · rw [List.mem_singleton.1 hb]; exact hf _ (List.getElem_mem hk))
  refine ⟨(K.chr_zero c1).1, (K.chr_zero c2).1, hl, ?_⟩
  have ho := K.fre_one c2
  rw [K.fre_rods c1, K.fre_rods c2] at ho
  rw [K.gsr_rods c1, K.gsr_rods c2, K.sm_succ p (K.leads p []) hk, K.sm_leads p (Nat.le_of_lt hk)]
  cases hR : K.R (K.leads p (K.sm p (K.leads p []) B k)) B[k].1.toNat (p + B[k].2.1.toNat) with
  | true => exact .inl ⟨rfl, by have := ho.1 hR; omega⟩
  | false => exact .inr ⟨rfl, by have := ho.2 hR; omega⟩

set_option maxHeartbeats 8000000 in
set_option maxRecDepth 100000 in
theorem rackRods_walk (m n : Int) (a : Option Addr) (c : Nat) (bs : List Br) (w : World) (hc1 : bs.length ≤ c) (hc2 : c ≤ maxLen) (hR : RdB w a bs) :
    Calls Try.prog 5 #[K.rk m n a bs.length c] w fun e w' => e = .returned (.bool true) ∧ Below w.heap.size w w' := by
  have hm : bs.length ≤ maxLen := by omega
  obtain ⟨HB0, hbx⟩ := box_rack w m n a c bs hR
  have HBX := hid hbx
  have hr0 := hR.stays HB0.out
  have HWK := hid works_gives
  by_cases h60 : 60 < bs.length
  · unfold maxLen at hm hc2
    unfold K.rk
    clear hbx hR hr0
    go_enter Try.func5, Try.ntmps5
    go_wp2_with fail
    refine (HWK.out _).mono ?_
    rintro e w3 ⟨rfl, hb⟩
    have HB3 := hid (HB0.out.trans (hb.mono HB0.out.size))
    clear hb
    go_wp2
    go_ret
    exact ⟨rfl, HB3.out⟩
  have HGV := hid (given_own m n a c bs _ (by omega) hr0)
  have HF1 := hid (fun W hx => freedom_any m n a c bs W hm hx)
  have HF2 := hid (fun a1 c1 W hx => refFreedom_any m n a1 c1 bs W hm hx)
  have HM1 := hid (fun W hx => missing_any m n a c bs W hm hx)
  have HT1 := hid (fun W hx => trim_any m n a c bs W hm hx)
  have HT2 := hid (fun a1 c1 W hx => refTrim_any m n a1 c1 bs W hm hx)
  have HNE := hid (fun r1 r2 k1 k2 W h1 h2 => numbers_eq r1 r2 k1 k2 (K.trm m n bs) W (Nat.le_trans (K.trm_len m n bs) hm) h1 h2)
  have HTL := hid (Nat.le_trans (K.trm_len m n bs) hm)
  unfold K.Gvo at HGV
  unfold K.LsE at HT1 HT2
  generalize K.trm m n bs = tr at *
  generalize K.tre m n bs = te at *
  clear hbx hR hr0
  unfold maxLen at hm hc2 HTL
  have htl := HTL.out
  by_cases h0 : K.chr m n bs = 0
  case neg =>
    obtain ⟨e1, e2⟩ := K.msg_none h0
    rw [e1] at HM1
    rw [e2] at HF1 HF2
    have hne : (K.chr m n bs != 0) = true := by simpa using h0
    unfold K.rk at HGV HF1 HF2 HM1 HT1 HT2 ⊢
    generalize K.chr m n bs = ce at *
    have hcc : (ce != ce) = false := by simp
    have htt : (te != te) = false := by simp
    clear e1 e2 h0
    go_enter Try.func5, Try.ntmps5
    go_wp2_with fail
    refine HGV.out.mono ?_
    rintro e w1 ⟨a1, c1, rfl, hr1, hb⟩
    obtain ⟨k0, k1, k2, hra, hbw, hsz⟩ := HBX.out w1 hb
    have hbA : Below w1.heap.size w1 (w1.alloc (.cells #[.int .i64 m, .int .i64 n, .slice a1 bs.length c1] 28)) := (Below.refl _ _).alloc (Nat.le_refl _) _
    have HXV : Hid ((w1.alloc (.cells #[.int .i64 m, .int .i64 n, .slice a1 bs.length c1] 28)).rowIs w1.heap.size 28 3 (K.rkF m n (.slice a1 bs.length c1))) := hid (World.rowIs_alloc w1 #[.int .i64 m, .int .i64 n, .slice a1 bs.length c1] 28 _ (fun i hi => by
      have h : i < 3 := hi
      have h2 : i = 0 ∨ i = 1 ∨ i = 2 := by omega
      rcases h2 with rfl | rfl | rfl <;> rfl))
    have HQ0 := hid (cell_stays hbA (Nat.le_refl _) k0)
    have HQ1 := hid (cell_stays hbA (Nat.le_refl _) k1)
    have HQ2 := hid (cell_stays hbA (Nat.le_refl _) k2)
    have HRA3 := hid (hra.stays hbA)
    have HROW := hid (show RowBR (w1.alloc (.cells #[.int .i64 m, .int .i64 n, .slice a1 bs.length c1] 28)) _ (.slice a1 bs.length c1) bs from World.ownsRow.alloc hr1 _)
    have HRLO := hid (fun q (hq : (Value.slice a1 bs.length c1).ownBlock = some q) => World.ownsRow.lt hr1 q hq)
    have HRX3 : Hid (RdB (w1.alloc (.cells #[.int .i64 m, .int .i64 n, .slice a1 bs.length c1] 28)) a1 bs) := hid (by
      obtain ⟨x, y, e, h⟩ := hr1.rd
      injection e with e1
      subst e1; exact h.stays hbA)
    have HG0 := hid hb.size
    have HBA := hid (hb.trans (hbA.mono hb.size))
    have HB3 := hid (hbw.trans (hbA.mono hbw.size))
    clear hbA hb hra hbw hr1 HB0 HGV
    go_wp2_with fail
    clear k0 k1 k2 hsz
    have HS3 : Hid ((w1.alloc (.cells #[.int .i64 m, .int .i64 n, .slice a1 bs.length c1] 28)).heap.size = w1.heap.size + 1) := hid (by simp)
    generalize w1.alloc (.cells #[.int .i64 m, .int .i64 n, .slice a1 bs.length c1] 28) = w3 at *
    generalize w1.heap.size = g at *
    clear w1
    have HCELL := hid (fun W (h : Below w3.heap.size w3 W) => show W.cell? ⟨w.heap.size, 0, none⟩ = some (.int .i64 m) ∧ W.cell? ⟨w.heap.size, 1, none⟩ = some (.int .i64 n) ∧ W.cell? ⟨w.heap.size, 2, none⟩ = some (.slice a bs.length c) ∧ W.cell? ⟨g, 0, none⟩ = some (.int .i64 m) ∧ W.cell? ⟨g, 1, none⟩ = some (.int .i64 n) ∧ W.cell? ⟨g, 2, none⟩ = some (.slice a1 bs.length c1) from
      have hz := HXV.out.of_block (h.block _ HXV.out.lt)
      ⟨cell_stays h (Nat.le_refl _) HQ0.out, cell_stays h (Nat.le_refl _) HQ1.out, cell_stays h (Nat.le_refl _) HQ2.out, hz.cell (i := 0) (by omega), hz.cell (i := 1) (by omega), hz.cell (i := 2) (by omega)⟩)
    have HRA := hid (fun W (h : Below w3.heap.size w3 W) => HRA3.out.stays h)
    have HRX := hid (fun W (h : Below w3.heap.size w3 W) => HRX3.out.stays h)
    refine (HF1.out w3 HRA3.out).mono ?_
    rintro e w4 ⟨rfl, hb⟩
    have HE4 := hid hb
    obtain ⟨p0, p1, p2, u0, u1, u2⟩ := HCELL.out _ hb
    clear hb HQ0 HQ1 HQ2 HRA3 HRX3 HF1
    go_wp2_with fail
    refine (HF2.out a1 c1 w4 (HRX.out _ HE4.out)).mono ?_
    rintro e w5 ⟨rfl, hb⟩
    have HE5 := hid (HE4.out.trans (hb.mono HE4.out.size))
    obtain ⟨p0, p1, p2, u0, u1, u2⟩ := HCELL.out _ HE5.out
    clear hb HF2
    go_wp2_with fail
    refine (HM1.out w5 (HRA.out _ HE5.out)).mono ?_
    rintro e w6 ⟨v6, rfl, hrow, hb⟩
    have HE56 := hid hb.size
    have HE6 := hid (HE5.out.trans (hb.mono HE5.out.size))
    obtain ⟨rm, cm, rfl, _⟩ := hrow.rd
    have HM6 := hid hrow
    obtain ⟨p0, p1, p2, u0, u1, u2⟩ := HCELL.out _ HE6.out
    clear hb hrow HM1
    go_wp2_with fail
    refine (HT1.out w6 (HRA.out _ HE6.out)).mono ?_
    rintro e w7 ⟨r1, k1, rfl, hrd1, hb⟩
    have HE57 := hid (Nat.le_trans HE56.out hb.size)
    have HE7 := hid (HE6.out.trans (hb.mono HE6.out.size))
    have HM7 := hid (ownsRow_stays HM6.out hb)
    have HD7 := hid hrd1
    obtain ⟨p0, p1, p2, u0, u1, u2⟩ := HCELL.out _ HE7.out
    clear hb hrd1 HT1 HM6
    go_wp2_with fail
    refine (HT2.out a1 c1 w7 (HRX.out _ HE7.out)).mono ?_
    rintro e w8 ⟨r2, k2, rfl, hrd2, hb⟩
    have HE58 := hid (Nat.le_trans HE57.out hb.size)
    have HE8 := hid (HE7.out.trans (hb.mono HE7.out.size))
    have HM8 := hid (ownsRow_stays HM7.out hb)
    have HN8 := hid (HNE.out r1 r2 k1 k2 w8 (HD7.out.stays2 hb) hrd2)
    clear hb hrd2 HT2 HM7 HD7 HNE
    go_wp2_with fail
    refine HN8.out.mono ?_
    rintro e w9 ⟨rfl, nq, rfl⟩
    have HE9 := hid (below_drewN HE8.out nq)
    have HE59 : Hid (w5.heap.size ≤ (w8.drewN nq).heap.size) := hid HE58.out
    clear HE56 HE57 HE58
    have HM9 : Hid (RowB (w8.drewN nq) w5.heap.size _ _) := hid HM8.out
    generalize w8.drewN nq = w9 at *
    have HB9 := hid (HB3.out.trans (HE9.out.mono HB3.out.size))
    clear HM8 HN8 p0 p1 p2 u0 u1 u2
    go_wp2_with fail
    refine (HWK.out _).mono ?_
    rintro e w10 ⟨rfl, hb⟩
    have HB10 := hid (HB9.out.trans (hb.mono HB9.out.size))
    clear hb
    go_wp2
    go_ret
    exact ⟨rfl, HB10.out⟩
  case pos =>
    obtain ⟨p, q, rfl, rfl, hok⟩ := K.chk_ok (K.chr_zero h0).1
    have HCH := hid h0
    have hml := K.msg_len h0
    have hpq : p ≤ 6 ∧ q ≤ 6 := ⟨hok.m6, hok.n6⟩
    have hp1 : 1 ≤ p := hok.m1
    have hfew := hok.few
    have HFL := hid (K.full h0)
    have HFS := hid (K.full_stiff h0)
    rw [h0] at HF1 HF2 HM1
    unfold K.rk at HGV HF1 HF2 HM1 HT1 HT2 ⊢
    rw [← hml] at HF1 HF2
    have hm9 : (K.msg p q bs).length ≤ 12 := by
      have h1 := K.fre_rods h0
      have h2 := K.gs_len (K.leads p bs) p (p + q) (p + q)
      omega
    have HGS := hid (fun k (hk : k < (bs ++ K.msg p q bs).length) => K.grp_step h0 hk)
    have HGR := hid (fun W (S : List Br) ra rc (hl : S.length ≤ 60) hr => refGroups_any p q ra rc S W (by unfold maxLen; omega) hr)
    have HSTF := hid (fun W (S : List Br) ra rc (hl : S.length ≤ 60) hr => refStiff_any p q ra rc S W (by unfold maxLen; omega) hr)
    have HGL := hid (fun (S : List Br) => show (K.gsr p q S).length ≤ 12 by
      unfold K.gsr
      split
      · unfold K.gsv
        simp only [Int.toNat_natCast]
        have h2 := K.gs_len (K.leads p S) p (p + q) (p + q)
        omega
      · exact Nat.zero_le _)
    have HFW := hid (show (K.sm p (K.leads p []) (bs ++ K.msg p q bs) (bs ++ K.msg p q bs).length).length ≤ 11 from K.sm_few ⟨hp1, hpq.1⟩ hpq.2 (K.full h0) (Nat.le_refl _))
    unfold K.GsER at HGR
    unfold K.rk at HGR HSTF
    clear hml h0 hok
    generalize K.msg p q bs = ms at *
    have htt : (te != te) = false := by simp
    have hll : ((ms.length : Int) != (ms.length : Int)) = false := by simp
    go_enter Try.func5, Try.ntmps5
    go_wp2_with fail
    refine HGV.out.mono ?_
    rintro e w1 ⟨a1, c1, rfl, hr1, hb⟩
    obtain ⟨k0, k1, k2, hra, hbw, hsz⟩ := HBX.out w1 hb
    have hbA : Below w1.heap.size w1 (w1.alloc (.cells #[.int .i64 (p : Int), .int .i64 (q : Int), .slice a1 bs.length c1] 28)) := (Below.refl _ _).alloc (Nat.le_refl _) _
    have HXV : Hid ((w1.alloc (.cells #[.int .i64 (p : Int), .int .i64 (q : Int), .slice a1 bs.length c1] 28)).rowIs w1.heap.size 28 3 (K.rkF (p : Int) (q : Int) (.slice a1 bs.length c1))) := hid (World.rowIs_alloc w1 #[.int .i64 (p : Int), .int .i64 (q : Int), .slice a1 bs.length c1] 28 _ (fun i hi => by
      have h : i < 3 := hi
      have h2 : i = 0 ∨ i = 1 ∨ i = 2 := by omega
      rcases h2 with rfl | rfl | rfl <;> rfl))
    have HQ0 := hid (cell_stays hbA (Nat.le_refl _) k0)
    have HQ1 := hid (cell_stays hbA (Nat.le_refl _) k1)
    have HQ2 := hid (cell_stays hbA (Nat.le_refl _) k2)
    have HRA3 := hid (hra.stays hbA)
    have HROW := hid (show RowBR (w1.alloc (.cells #[.int .i64 (p : Int), .int .i64 (q : Int), .slice a1 bs.length c1] 28)) _ (.slice a1 bs.length c1) bs from World.ownsRow.alloc hr1 _)
    have HRLO := hid (fun q (hq : (Value.slice a1 bs.length c1).ownBlock = some q) => World.ownsRow.lt hr1 q hq)
    have HRX3 : Hid (RdB (w1.alloc (.cells #[.int .i64 (p : Int), .int .i64 (q : Int), .slice a1 bs.length c1] 28)) a1 bs) := hid (by
      obtain ⟨x, y, e, h⟩ := hr1.rd
      injection e with e1
      subst e1; exact h.stays hbA)
    have HG0 := hid hb.size
    have HBA := hid (hb.trans (hbA.mono hb.size))
    have HB3 := hid (hbw.trans (hbA.mono hbw.size))
    clear hbA hb hra hbw hr1 HB0 HGV
    go_wp2_with fail
    clear k0 k1 k2 hsz
    have HS3 : Hid ((w1.alloc (.cells #[.int .i64 (p : Int), .int .i64 (q : Int), .slice a1 bs.length c1] 28)).heap.size = w1.heap.size + 1) := hid (by simp)
    generalize w1.alloc (.cells #[.int .i64 (p : Int), .int .i64 (q : Int), .slice a1 bs.length c1] 28) = w3 at *
    generalize w1.heap.size = g at *
    clear w1
    have HCELL := hid (fun W (h : Below w3.heap.size w3 W) => show W.cell? ⟨w.heap.size, 0, none⟩ = some (.int .i64 (p : Int)) ∧ W.cell? ⟨w.heap.size, 1, none⟩ = some (.int .i64 (q : Int)) ∧ W.cell? ⟨w.heap.size, 2, none⟩ = some (.slice a bs.length c) ∧ W.cell? ⟨g, 0, none⟩ = some (.int .i64 (p : Int)) ∧ W.cell? ⟨g, 1, none⟩ = some (.int .i64 (q : Int)) ∧ W.cell? ⟨g, 2, none⟩ = some (.slice a1 bs.length c1) from
      have hz := HXV.out.of_block (h.block _ HXV.out.lt)
      ⟨cell_stays h (Nat.le_refl _) HQ0.out, cell_stays h (Nat.le_refl _) HQ1.out, cell_stays h (Nat.le_refl _) HQ2.out, hz.cell (i := 0) (by omega), hz.cell (i := 1) (by omega), hz.cell (i := 2) (by omega)⟩)
    have HRA := hid (fun W (h : Below w3.heap.size w3 W) => HRA3.out.stays h)
    have HRX := hid (fun W (h : Below w3.heap.size w3 W) => HRX3.out.stays h)
    refine (HF1.out w3 HRA3.out).mono ?_
    rintro e w4 ⟨rfl, hb⟩
    have HE4 := hid hb
    obtain ⟨p0, p1, p2, u0, u1, u2⟩ := HCELL.out _ hb
    clear hb HQ0 HQ1 HQ2 HRA3 HRX3 HF1
    go_wp2_with fail
    refine (HF2.out a1 c1 w4 (HRX.out _ HE4.out)).mono ?_
    rintro e w5 ⟨rfl, hb⟩
    have HE5 := hid (HE4.out.trans (hb.mono HE4.out.size))
    obtain ⟨p0, p1, p2, u0, u1, u2⟩ := HCELL.out _ HE5.out
    clear hb HF2
    go_wp2_with fail
    refine (HM1.out w5 (HRA.out _ HE5.out)).mono ?_
    rintro e w6 ⟨v6, rfl, hrow, hb⟩
    have HE56 := hid hb.size
    have HE6 := hid (HE5.out.trans (hb.mono HE5.out.size))
    obtain ⟨rm, cm, rfl, _⟩ := hrow.rd
    have HM6 := hid hrow
    obtain ⟨p0, p1, p2, u0, u1, u2⟩ := HCELL.out _ HE6.out
    clear hb hrow HM1
    go_wp2_with fail
    refine (HT1.out w6 (HRA.out _ HE6.out)).mono ?_
    rintro e w7 ⟨r1, k1, rfl, hrd1, hb⟩
    have HE57 := hid (Nat.le_trans HE56.out hb.size)
    have HE7 := hid (HE6.out.trans (hb.mono HE6.out.size))
    have HM7 := hid (ownsRow_stays HM6.out hb)
    have HD7 := hid hrd1
    obtain ⟨p0, p1, p2, u0, u1, u2⟩ := HCELL.out _ HE7.out
    clear hb hrd1 HT1 HM6
    go_wp2_with fail
    refine (HT2.out a1 c1 w7 (HRX.out _ HE7.out)).mono ?_
    rintro e w8 ⟨r2, k2, rfl, hrd2, hb⟩
    have HE58 := hid (Nat.le_trans HE57.out hb.size)
    have HE8 := hid (HE7.out.trans (hb.mono HE7.out.size))
    have HM8 := hid (ownsRow_stays HM7.out hb)
    have HN8 := hid (HNE.out r1 r2 k1 k2 w8 (HD7.out.stays2 hb) hrd2)
    clear hb hrd2 HT2 HM7 HD7 HNE
    go_wp2_with fail
    refine HN8.out.mono ?_
    rintro e w9 ⟨rfl, nq, rfl⟩
    have HE9 := hid (below_drewN HE8.out nq)
    have HE59 : Hid (w5.heap.size ≤ (w8.drewN nq).heap.size) := hid HE58.out
    clear HE56 HE57 HE58
    have HM9 : Hid (RowB (w8.drewN nq) w5.heap.size _ _) := hid HM8.out
    generalize w8.drewN nq = w9 at *
    have HB9 := hid (HB3.out.trans (HE9.out.mono HB3.out.size))
    clear HM8 HN8 p0 p1 p2 u0 u1 u2
    have HXR9 := hid (ownsRow_stays HROW.out HE9.out)
    have HXV9 := hid (HXV.out.of_block (HE9.out.block _ HXV.out.lt))
    have HZK := hid (fun b (hb : b ∈ ms) => (HFL.out b (List.mem_append_right _ hb)).2)
    have HW9 := hid (HBA.out.trans (HE9.out.mono HBA.out.size))
    have HMB := hid (fun q' (hq : (Value.slice rm ms.length cm).ownBlock = some q') => World.ownsRow.lt (show World.ownsRow w9 w5.heap.size _ _ (Value.slice rm ms.length cm) _ _ from HM9.out) q' hq)
    have HSI : Hid ((w.alloc (.cells #[.int .i64 (p : Int), .int .i64 (q : Int), .slice a bs.length c] 24)).heap.size ≤ g ∧ g < w5.heap.size ∧ w5.heap.size ≤ w9.heap.size ∧ w.heap.size < (w.alloc (.cells #[.int .i64 (p : Int), .int .i64 (q : Int), .slice a bs.length c] 24)).heap.size) := hid (by
      have h1 := HG0.out
      have h2 := HS3.out
      have h3 := HE5.out.size
      have h5 := (HBX.out _ (Below.refl _ _)).2.2.2.2.2
      refine ⟨h1, by omega, ?_, h5⟩
      exact HE59.out)
    have HBW0 : Hid (Below w.heap.size w (w.alloc (.cells #[.int .i64 (p : Int), .int .i64 (q : Int), .slice a bs.length c] 24))) := hid ((Below.refl _ _).alloc (Nat.le_refl _) _)
    obtain ⟨i0, hi, hz0, hz1, hz2⟩ := info_parts (show (Try.prog.info? 64).map (fun i => (i.zero, i.size, i.bytes)) = some (some (.agg #[.int .i64 0, .int .i64 0, .int .i64 0]), 3, 24) by kernel_rfl)
    generalize w.alloc (.cells #[.int .i64 (p : Int), .int .i64 (q : Int), .slice a bs.length c] 24) = W0 at *
    clear HROW HXV HBX HCELL HRA HRX HE4 HE5 HE6 HE7 HE8 HE9 HBA HS3 HG0 HB3 HTL htl htt hll HE59
    go_wp2
    go_loopw [14] (fun i wr => ∃ k : Nat, k ≤ ms.length ∧ i = .int .i64 k ∧ RowB wr w5.heap.size (.slice rm ms.length cm) ms ∧ Below W0.heap.size W0 wr ∧ w9.heap.size ≤ wr.heap.size ∧ ∃ bv, wr.rowIs g 28 3 (K.rkF p q bv) ∧ RowBR wr W0.heap.size bv (bs ++ ms.take k) ∧ (∀ q', bv.ownBlock = some q' → q' < g ∨ w9.heap.size ≤ q')) (fun i _ => ms.length - (intOf i).toNat)
    case atStart => exact ⟨0, Nat.zero_le _, rfl, HM9.out, HW9.out, Nat.le_refl _, _, HXV9.out, by rw [List.take_zero, List.append_nil]; exact HXR9.out, fun q' hq => .inl (HRLO.out q' hq).2⟩
    case round =>
      clear HM9 HW9 HXV9 HXR9 HRLO
      obtain ⟨k, hk, rfl, hmr, hb, hsz, bv, hv, hbr, hnw⟩ := hrel
      have HMR := hid hmr
      have HB := hid hb
      have HSZ := hid hsz
      have HV := hid hv
      have HBR := hid hbr
      have HNW := hid hnw
      clear hmr hb hsz hv hbr hnw
      by_cases hlt : k < ms.length
      · obtain ⟨ra, rc, rfl, _⟩ := HBR.out.rd
        have hrd : RdB wr rm ms := by
          obtain ⟨x, y, e, h⟩ := HMR.out.rd
          injection e with e1
          subst e1; exact h
        obtain ⟨b, off, rfl, c1', c2', c3'⟩ := hrd k hlt
        have hzz := HZK.out _ (List.getElem_mem hlt)
        have HTK : Hid (bs ++ ms.take (k + 1) = (bs ++ ms.take k) ++ [ms[k]]) := hid (by rw [List.take_succ_eq_append_getElem hlt, List.append_assoc])
        have HTLn := hid (show (bs ++ ms.take k).length ≤ 60 by rw [List.length_append, List.length_take]; omega)
        have hbm : b < wr.heap.size := World.block_lt_of_cell? _ _ c1'
        have hbg : b ≠ g := by
          have h1 := (HMB.out b rfl).1
          have h2 := HSI.out.2.1
          omega
        have HMB2 := hid (HMB.out b rfl)
        generalize hT1 : bs ++ ms.take (k + 1) = T1 at *
        have HT1 := hid hT1
        clear hT1
        generalize bs ++ ms.take k = T at *
        generalize ms[k] = br at *
        obtain ⟨x, y, z⟩ := br
        simp only at c1' c2' c3' hzz
        have hix : (0 : Int) ≤ (k : Int) ∧ (k : Int) < (ms.length : Int) := by omega
        have v2 : wr.cell? ⟨g, 2, none⟩ = some (.slice ra T.length rc) := HV.out.cell (i := 2) (by omega)
        have g1 : g < wr.heap.size := HV.out.lt
        have f2 := HV.out.frozen 2
        have HIU : Hid ((wr.alloc (.cells #[.int .i64 x, .int .i64 y, .int .i64 z] 64)).ownsRow W0.heap.size 64 3 (.slice ra T.length rc) T.length (brCells T) ∧ ([.int .i64 x, .int .i64 y, .int .i64 z] : List Value).length = 1 * 3 ∧ (∀ j u, ([.int .i64 x, .int .i64 y, .int .i64 z] : List Value)[j]? = some u → (wr.alloc (.cells #[.int .i64 x, .int .i64 y, .int .i64 z] 64)).cell? (Addr.add ⟨wr.heap.size, 0, none⟩ j) = some u) ∧ (∀ u ∈ ([.int .i64 x, .int .i64 y, .int .i64 z] : List Value), u.oneCell' = true) ∧ T.length + 1 ≤ 1000 ∧ W0.heap.size ≤ (wr.alloc (.cells #[.int .i64 x, .int .i64 y, .int .i64 z] 64)).heap.size) :=
          hid ⟨World.ownsRow.alloc HBR.out _, rfl, K.br_cells (K.br_new wr x y z), (fun u hu => by simp at hu; rcases hu with rfl | rfl | rfl <;> rfl), (by have := HTLn.out; omega), Nat.le_trans HB.out.size (by simp)⟩
        have HU := hid (HB.out.alloc HB.out.size (.cells #[.int .i64 x, .int .i64 y, .int .i64 z] 64))
        have HZA : Hid (w9.heap.size ≤ (wr.alloc (.cells #[.int .i64 x, .int .i64 y, .int .i64 z] 64)).heap.size) := hid (Nat.le_trans HSZ.out (by simp))
        have hvA := hid (HV.out.alloc (.cells #[.int .i64 x, .int .i64 y, .int .i64 z] 64))
        have hmA := hid (World.ownsRow.alloc (show World.ownsRow wr w5.heap.size 63 3 (.slice (some ⟨b, off, none⟩) ms.length cm) ms.length (brCells ms) from HMR.out) (.cells #[.int .i64 x, .int .i64 y, .int .i64 z] 64))
        subst hzz
        clear hrd HZK
        go_wp2
        go_region_law first | (refine step_append_n rfl (.tmp 102) (.tmp 107) 26 (by rfl) 64 i0 (.agg #[.int .i64 0, .int .i64 0, .int .i64 0]) 3 Try.underlying26 hi hz0 hz1 (by rw [hz2]; decide) rfl (by decide) W0.heap.size (.slice ra T.length rc) T.length (brCells T) (by simp [Act.eval]) ⟨wr.heap.size, 0, none⟩ 1 1 [.int .i64 x, .int .i64 y, .int .i64 0] (by simp [Act.eval]) (by exact HIU.out) ?_; intro v8 w8 hw8 hg8 h38; have hb8 := hid (Below.grown (show Below W0.heap.size W0 _ by exact K.bsamR HU.out rfl rfl rfl rfl) hg8 (by exact HU.out.size) (fun q' hq => (World.ownsRow.lt HBR.out q' hq).1)); have hv8 := hid (row_grown2 hvA.out hg8 (fun e => by have h1 := HNW.out _ e; have h2 := HSI.out; omega) rfl); have hm8 := hid (own_grown2 hmA.out hg8 (.inr fun e => by (have h1 := HNW.out b e.symm; have h2 := HMB2.out; have h3 := HSI.out; omega)) rfl); have hn8 := hid (fun q' (hq : v8.ownBlock = some q') => show q' < g ∨ w9.heap.size ≤ q' from h38.elim (fun h => HNW.out q' (h.symm.trans hq)) (fun h => .inr (Nat.le_trans HZA.out (Nat.le_of_eq (Option.some.inj (h.symm.trans hq)))))); have ho8 := hid hw8; have hz8 := hid (Nat.le_trans HZA.out (hg8.size)); obtain ⟨g8, c8, rfl⟩ := own_form hw8; clear hw8 hg8 h38; have r2 := hv8.out.cell (i := 2) (show _ < 3 by omega); have p2 := hv8.out.frozen 2)
        all_goals
          have hvf : Hid ((w8.setCell ⟨g, 2, none⟩ (.slice (some ⟨g8, 0, none⟩) (T.length + 1) c8)).rowIs g 28 3 (K.rkF p q (.slice (some ⟨g8, 0, none⟩) (T.length + 1) c8))) := hid ((hv8.out.set 2 _).congr fun i hi => by
            have h4 : i = 0 ∨ i = 1 ∨ i = 2 := by omega
            unfold K.rkF
            rcases h4 with rfl | rfl | rfl <;> simp)
          have hbf := hid (hb8.out.setCell (p := ⟨g, 2, none⟩) HSI.out.1 (.slice (some ⟨g8, 0, none⟩) (T.length + 1) c8))
          have hsf : Hid (w9.heap.size ≤ (w8.setCell ⟨g, 2, none⟩ (.slice (some ⟨g8, 0, none⟩) (T.length + 1) c8)).heap.size) := hid (Nat.le_trans hz8.out (by simp [World.setCell]))
          have hmf : Hid (RowB (w8.setCell ⟨g, 2, none⟩ (.slice (some ⟨g8, 0, none⟩) (T.length + 1) c8)) w5.heap.size (.slice (some ⟨b, off, none⟩) ms.length cm) ms) := hid (own_off hm8.out HSI.out.2.1)
          have hrf : Hid (RowBR (w8.setCell ⟨g, 2, none⟩ (.slice (some ⟨g8, 0, none⟩) (T.length + 1) c8)) W0.heap.size (.slice (some ⟨g8, 0, none⟩) (T.length + 1) c8) T1) := hid (by
            rw [HTK.out]
            unfold RowBR
            rw [List.length_append, brCells_snoc]
            exact World.ownsRow.kept ho8.out (grown_set _ _ _) (.inr fun e => by have h1 := hn8.out g e; have h2 := HSI.out; omega))
          clear hv8 hm8 ho8 hb8 r2 p2 hz8
          go_wp2
          go_roundw
          case rel => exact ⟨k + 1, by omega, by go_num, hmf.out, hbf.out, hsf.out, _, hvf.out, by rw [HT1.out]; exact hrf.out, hn8.out⟩
          case measure => simp [intOf]; omega
      · have hke : k = ms.length := by omega
        have hBl : (bs ++ ms).length ≤ 60 := by rw [List.length_append]; omega
        subst hke
        rw [List.take_length] at HBR
        have HW10 := hid (show Below w.heap.size w wr from HBW0.out.trans (HB.out.mono (Nat.le_of_lt HSI.out.2.2.2)))
        generalize hBB : bs ++ ms = B at *
        clear hBB
        obtain ⟨rb, rcb, rfl, hrdB⟩ := HBR.out.rd
        have HRDB := hid hrdB
        have x0 : wr.cell? ⟨g, 0, none⟩ = some (.int .i64 (p : Int)) := HV.out.cell (i := 0) (by omega)
        have x1 : wr.cell? ⟨g, 1, none⟩ = some (.int .i64 (q : Int)) := HV.out.cell (i := 1) (by omega)
        have hB36 : B.length ≤ 60 := hBl
        clear hrdB HNW HMR HMB HZK HB HSZ HBW0 HSI HFL hBl
        go_wp2
        have HY : Hid ((wr.alloc (.cells #[.int .i64 (p : Int), .int .i64 (q : Int), .slice none 0 0] 28)).rowIs wr.heap.size 28 3 (K.rkF p q (.slice none 0 0))) := hid (World.rowIs_alloc wr #[.int .i64 (p : Int), .int .i64 (q : Int), .slice none 0 0] 28 _ (fun i hi => by
          have h : i < 3 := hi
          have h2 : i = 0 ∨ i = 1 ∨ i = 2 := by omega
          rcases h2 with rfl | rfl | rfl <;> rfl))
        have HBY : Hid (Below wr.heap.size wr (wr.alloc (.cells #[.int .i64 (p : Int), .int .i64 (q : Int), .slice none 0 0] 28))) := hid ((Below.refl _ _).alloc (Nat.le_refl _) _)
        have HSY : Hid ((wr.alloc (.cells #[.int .i64 (p : Int), .int .i64 (q : Int), .slice none 0 0] 28)).heap.size = wr.heap.size + 1) := hid (by simp)
        generalize wr.alloc (.cells #[.int .i64 (p : Int), .int .i64 (q : Int), .slice none 0 0] 28) = w10 at *
        have HGY : Hid (g < wr.heap.size) := hid HV.out.lt
        generalize hgy : wr.heap.size = gy at *
        have HGE := hid hgy
        clear hgy x0 x1
        generalize hwx : wr = wx at *
        clear hwx
        go_loopw [16] (fun i wz => ∃ k : Nat, k ≤ B.length ∧ i = .int .i64 k ∧ Below gy wx wz ∧ w10.heap.size ≤ wz.heap.size ∧ ∃ bv, wz.rowIs gy 28 3 (K.rkF p q bv) ∧ RowBR wz w10.heap.size bv (K.sm p (K.leads p []) B k)) (fun i _ => B.length - (intOf i).toNat)
        case atStart => exact ⟨0, Nat.zero_le _, rfl, HBY.out, Nat.le_refl _, _, HY.out, by rw [K.sm_zero]; exact World.ownsRow_nil _ _ _ _⟩
        case round =>
          obtain ⟨k, hk, rfl, hb, hsz2, bv, hv, hbr⟩ := hrel
          have HB := hid hb
          have HV2 := hid hv
          have HBR2 := hid hbr
          have HSZ2 := hid hsz2
          have HXX := hid (HV.out.of_block (hb.block _ HGY.out))
          have HBX2 := hid (show Below wx.heap.size wx wr from by rw [HGE.out]; exact hb)
          have HRB := hid (HRDB.out.stays HBX2.out)
          clear hb hsz2 hv hbr
          by_cases hlt : k < B.length
          · obtain ⟨b, off, rfl, c1, c2, c3⟩ := HRB.out k hlt
            obtain ⟨gc1, gc2, gl, gs4⟩ := HGS.out k hlt
            have HSL := hid gl
            generalize hS1 : K.sm p (K.leads p []) B (k + 1) = S1 at *
            have HS1E := hid hS1
            clear hS1
            generalize K.sm p (K.leads p []) B k = S at *
            generalize B[k] = br at *
            obtain ⟨x, y, z⟩ := br
            simp only at c1 c2 c3
            obtain ⟨ra, rc, rfl, hrd⟩ := HBR2.out.rd
            have HRD := hid hrd
            have HSRC : Hid ((Value.slice ra S.length rc = .slice none 0 0 ∧ S.length = 0) ∨ ∃ b off, ra = some ⟨b, off, none⟩) := hid (by
              rcases HBR2.out.2 with ⟨e, h⟩ | ⟨g, cap, cur, e, _⟩
              · exact .inl ⟨e, h⟩
              · injection e with e1; exact .inr ⟨g, 0, e1⟩)
            have HG1 := hid (fun W hr => HGR.out W S ra rc (by have := HSL.out; omega) hr)
            have HG2 := hid (fun W ra rc hr => HGR.out W (S ++ [(x, y, z)]) ra rc (by have := HSL.out; rw [List.length_append]; have : [(x, y, z)].length = 1 := rfl; omega) hr)
            rw [gc1] at HG1
            rw [gc2] at HG2
            have HGS4 := hid gs4
            clear gc1 gc2 gl gs4
            have y0 : wr.cell? ⟨gy, 0, none⟩ = some (.int .i64 (p : Int)) := HV2.out.cell (i := 0) (by omega)
            have y1 : wr.cell? ⟨gy, 1, none⟩ = some (.int .i64 (q : Int)) := HV2.out.cell (i := 1) (by omega)
            have y2 : wr.cell? ⟨gy, 2, none⟩ = some (.slice ra S.length rc) := HV2.out.cell (i := 2) (by omega)
            have k2 : wr.cell? ⟨g, 2, none⟩ = some (.slice (some ⟨b, off, none⟩) B.length rcb) := HXX.out.cell (i := 2) (by omega)
            have hix : (0 : Int) ≤ (k : Int) ∧ (k : Int) < (B.length : Int) := by omega
            have HCE := hid (show wr.cell? ⟨b, off + k * 3, none⟩ = some (.int .i64 x) ∧ wr.cell? ⟨b, off + k * 3 + 1, none⟩ = some (.int .i64 y) ∧ wr.cell? ⟨b, off + k * 3 + 2, none⟩ = some (.int .i64 z) from ⟨c1, c2, c3⟩)
            have HCS := hid (fun (W : World) (hW : Below wr.heap.size wr W) => show W.cell? ⟨gy, 2, none⟩ = some (.slice ra S.length rc) ∧ W.cell? ⟨g, 2, none⟩ = some (.slice (some ⟨b, off, none⟩) B.length rcb) ∧ W.cell? ⟨b, off + k * 3, none⟩ = some (.int .i64 x) ∧ W.cell? ⟨b, off + k * 3 + 1, none⟩ = some (.int .i64 y) ∧ W.cell? ⟨b, off + k * 3 + 2, none⟩ = some (.int .i64 z) from
              ⟨(HV2.out.of_block (hW.block _ HV2.out.lt)).cell (i := 2) (by omega), (HXX.out.of_block (hW.block _ HXX.out.lt)).cell (i := 2) (by omega), cell_stays hW (Nat.le_refl _) HCE.out.1, cell_stays hW (Nat.le_refl _) HCE.out.2.1, cell_stays hW (Nat.le_refl _) HCE.out.2.2⟩)
            have HW1 : Hid (Below wr.heap.size wr (wr.alloc (.cells #[.int .i64 (p : Int), .int .i64 (q : Int), .slice ra S.length rc] 28))) := hid ((Below.refl _ _).alloc (Nat.le_refl _) _)
            have HV1 : Hid ((wr.alloc (.cells #[.int .i64 (p : Int), .int .i64 (q : Int), .slice ra S.length rc] 28)).rowIs wr.heap.size 28 3 (K.rkF p q (.slice ra S.length rc))) := hid (World.rowIs_alloc wr #[.int .i64 (p : Int), .int .i64 (q : Int), .slice ra S.length rc] 28 _ (fun i hi => by
              have h : i < 3 := hi
              have h2 : i = 0 ∨ i = 1 ∨ i = 2 := by omega
              rcases h2 with rfl | rfl | rfl <;> rfl))
            have HS1 : Hid ((wr.alloc (.cells #[.int .i64 (p : Int), .int .i64 (q : Int), .slice ra S.length rc] 28)).heap.size = wr.heap.size + 1) := hid (by simp)
            clear hrd HGS HGR HSTF HRB HFS HFW
            go_upto_region 24 with (fail)
            generalize wr.alloc (.cells #[.int .i64 (p : Int), .int .i64 (q : Int), .slice ra S.length rc] 28) = W1 at *
            clear c1 c2 c3 y0 y1 y2 k2
            go_cut [17] (fun s17 wx => K.Mor wr wx p q (S ++ [(x, y, z)]) s17)
            case first =>
              have HC1 := hid (fun W (hW : Below W1.heap.size W1 W) => HCS.out W (HW1.out.trans (hW.mono HW1.out.size)))
              have HPA := hid (fun (W : World) (B : Nat) (hb : Below W1.heap.size W1 W) (hB : W1.heap.size ≤ B) (hW : W.heap[B]? = some (.cells #[] 64)) => K.armA (rc := rc) (by have := HSL.out; omega) HSRC.out (HRD.out.stays (HW1.out.trans (hb.mono HW1.out.size))) hb hB hW)
              have HQA := hid (fun (W : World) (C : Nat) (v1 : Value) (hb : Below W1.heap.size W1 W) (ho : W.ownsRow W1.heap.size 64 3 v1 (0 + S.length) ([] ++ brCells S)) (hC : W.rowIs C 64 3 (K.brF x y z)) => K.armB (by have := HSL.out; omega) hb ho hC)
              have HU0 : Hid (Below W1.heap.size W1 (W1.alloc (.cells #[.int .i64 x, .int .i64 y, .int .i64 z] 64))) := hid ((Below.refl _ _).alloc (Nat.le_refl _) _)
              have HU1 : Hid (Below W1.heap.size W1 (W1.alloc (.cells #[] 64))) := hid ((Below.refl _ _).alloc (Nat.le_refl _) _)
              have HU2 : Hid (Below W1.heap.size W1 ((W1.alloc (.cells #[] 64)).alloc (.cells #[.int .i64 x, .int .i64 y, .int .i64 z] 64))) := hid (HU1.out.alloc HU1.out.size _)
              have HU3 : Hid (Below W1.heap.size W1 ((W1.alloc (.cells #[.int .i64 x, .int .i64 y, .int .i64 z] 64)).alloc (.cells #[] 64))) := hid (HU0.out.alloc HU0.out.size _)
              have hz0s : (W1.alloc (.cells #[.int .i64 x, .int .i64 y, .int .i64 z] 64)).heap.size = W1.heap.size + 1 := by simp
              have hz1s : (W1.alloc (.cells #[] 64)).heap.size = W1.heap.size + 1 := by simp
              have HF1 : Hid ((W1.alloc (.cells #[] 64)).heap[W1.heap.size]? = some (.cells #[] 64)) := hid (Go.Deep.blk_alloc_new _ _)
              have HF2 : Hid (((W1.alloc (.cells #[] 64)).alloc (.cells #[.int .i64 x, .int .i64 y, .int .i64 z] 64)).heap[W1.heap.size]? = some (.cells #[] 64)) := hid (by rw [Go.Deep.blk_alloc_lt _ _ _ (by rw [hz1s]; omega)]; exact HF1.out)
              have HF3 : Hid (((W1.alloc (.cells #[.int .i64 x, .int .i64 y, .int .i64 z] 64)).alloc (.cells #[] 64)).heap[W1.heap.size + 1]? = some (.cells #[] 64)) := hid (by rw [← hz0s]; exact Go.Deep.blk_alloc_new _ _)
              have HC2 : Hid (((W1.alloc (.cells #[] 64)).alloc (.cells #[.int .i64 x, .int .i64 y, .int .i64 z] 64)).rowIs (W1.heap.size + 1) 64 3 (K.brF x y z)) := hid (by rw [← hz1s]; exact K.br_new _ x y z)
              have HC3 : Hid (((W1.alloc (.cells #[.int .i64 x, .int .i64 y, .int .i64 z] 64)).alloc (.cells #[] 64)).rowIs W1.heap.size 64 3 (K.brF x y z)) := hid (World.rowIs.alloc (K.br_new W1 x y z) _)
              have g0 : W1.heap.size ≤ W1.heap.size := Nat.le_refl _
              have g1 : W1.heap.size ≤ W1.heap.size + 1 := Nat.le_succ _
              have q0 := HC1.out W1 (Below.refl _ _)
              clear hz0s hz1s HB HG1 HG2
              go_region_held3 (fun W => W.cell? ⟨gy, 2, none⟩ = some (.slice ra S.length rc) ∧ W.cell? ⟨g, 2, none⟩ = some (.slice (some ⟨b, off, none⟩) B.length rcb) ∧ W.cell? ⟨b, off + k * 3, none⟩ = some (.int .i64 x) ∧ W.cell? ⟨b, off + k * 3 + 1, none⟩ = some (.int .i64 y) ∧ W.cell? ⟨b, off + k * 3 + 2, none⟩ = some (.int .i64 z)) (first | exact HCS.out _ hb8.out | exact HC1.out _ (K.bsamR (Below.refl _ _) rfl rfl rfl rfl) | exact HC1.out _ (K.bsamR hb6.out rfl rfl rfl rfl) | exact HC1.out _ (K.bsamR hb5.out rfl rfl rfl rfl) | exact HC1.out _ (K.bsamR hb4.out rfl rfl rfl rfl) | exact HC1.out _ (K.bsamR HU3.out rfl rfl rfl rfl) | exact HC1.out _ (K.bsamR HU2.out rfl rfl rfl rfl) | exact HC1.out _ (K.bsamR HU1.out rfl rfl rfl rfl) | exact HC1.out _ (K.bsamR HU0.out rfl rfl rfl rfl) | go_keep) (first | (refine step_append_m rfl (.tmp 123) (.tmp 125) 26 (by rfl) 64 i0 (.agg #[.int .i64 0, .int .i64 0, .int .i64 0]) 3 Try.underlying26 hi hz0 hz1 (by rw [hz2]; decide) rfl (by decide) W1.heap.size (.slice (some ⟨W1.heap.size, 0, none⟩) 0 0) 0 [] (by simp [Act.eval]) (.slice ra S.length rc) S.length (brCells S) (by simp [Act.eval]) (HPA.out _ _ (K.bsamR HU1.out rfl rfl rfl rfl) g0 (by exact HF1.out)) ?_; intro v1 wa hw1 hg1 h31; have hb4 := hid (Below.grown (show Below W1.heap.size W1 _ by exact K.bsamR HU1.out rfl rfl rfl rfl) hg1 (by exact HU1.out.size) (fun q hq => by cases hq; exact g0)); have ho1 := hid hw1; have hb5 := hid (hb4.out.alloc hb4.out.size (.cells #[.int .i64 x, .int .i64 y, .int .i64 z] 64)); have ho5 := hid (World.ownsRow.alloc hw1 (.cells #[.int .i64 x, .int .i64 y, .int .i64 z] 64)); have hcx5 := hid (K.br_new wa x y z); clear hw1 hg1 h31) | (refine step_append_m rfl (.tmp 123) (.tmp 125) 26 (by rfl) 64 i0 (.agg #[.int .i64 0, .int .i64 0, .int .i64 0]) 3 Try.underlying26 hi hz0 hz1 (by rw [hz2]; decide) rfl (by decide) W1.heap.size (.slice (some ⟨W1.heap.size, 0, none⟩) 0 0) 0 [] (by simp [Act.eval]) (.slice ra S.length rc) S.length (brCells S) (by simp [Act.eval]) (HPA.out _ _ (K.bsamR HU2.out rfl rfl rfl rfl) g0 (by exact HF2.out)) ?_; intro v1 wa hw1 hg1 h31; have hb4 := hid (Below.grown (show Below W1.heap.size W1 _ by exact K.bsamR HU2.out rfl rfl rfl rfl) hg1 (by exact HU2.out.size) (fun q hq => by cases hq; exact g0)); have ho1 := hid hw1; have hcx := hid (row_grown (show World.rowIs _ _ _ _ _ from HC2.out) (show World.grownBy ((W1.alloc (.cells #[] 64)).alloc (.cells #[.int .i64 x, .int .i64 y, .int .i64 z] 64)) wa _ from ⟨hg1.os, hg1.tape, hg1.output, hg1.size, hg1.block⟩) (fun e => by have e2 : W1.heap.size = W1.heap.size + 1 := Option.some.inj e; omega)); clear hw1 hg1 h31) | (refine step_append_m rfl (.tmp 123) (.tmp 125) 26 (by rfl) 64 i0 (.agg #[.int .i64 0, .int .i64 0, .int .i64 0]) 3 Try.underlying26 hi hz0 hz1 (by rw [hz2]; decide) rfl (by decide) W1.heap.size (.slice (some ⟨W1.heap.size + 1, 0, none⟩) 0 0) 0 [] (by simp [Act.eval]) (.slice ra S.length rc) S.length (brCells S) (by simp [Act.eval]) (HPA.out _ _ (K.bsamR HU3.out rfl rfl rfl rfl) g1 (by exact HF3.out)) ?_; intro v1 wa hw1 hg1 h31; have hb4 := hid (Below.grown (show Below W1.heap.size W1 _ by exact K.bsamR HU3.out rfl rfl rfl rfl) hg1 (by exact HU3.out.size) (fun q hq => by cases hq; exact g1)); have ho1 := hid hw1; have hcx := hid (row_grown (show World.rowIs _ _ _ _ _ from HC3.out) (show World.grownBy ((W1.alloc (.cells #[.int .i64 x, .int .i64 y, .int .i64 z] 64)).alloc (.cells #[] 64)) wa _ from ⟨hg1.os, hg1.tape, hg1.output, hg1.size, hg1.block⟩) (fun e => by have e2 : W1.heap.size + 1 = W1.heap.size := Option.some.inj e; omega)); clear hw1 hg1 h31) | (refine step_append_n rfl (.tmp 126) (.tmp 132) 26 (by rfl) 64 i0 (.agg #[.int .i64 0, .int .i64 0, .int .i64 0]) 3 Try.underlying26 hi hz0 hz1 (by rw [hz2]; decide) rfl (by decide) W1.heap.size v1 (0 + S.length) ([] ++ brCells S) (by simp [Act.eval]) ⟨wa.heap.size, 0, none⟩ 1 1 [.int .i64 x, .int .i64 y, .int .i64 z] (by simp [Act.eval]) (HQA.out _ _ _ (K.bsamR hb5.out rfl rfl rfl rfl) (by exact ho5.out) (by exact hcx5.out)) ?_; intro v2 wb hw2 hg2 h32; have hb6 := hid (Below.grown (show Below W1.heap.size W1 _ by exact K.bsamR hb5.out rfl rfl rfl rfl) hg2 (by exact hb5.out.size) (fun q hq => (World.ownsRow.lt ho5.out q hq).1)); have ho2 := hid (K.armB_row hw2); clear hw2 hg2 h32; have hmo := hid (K.mor_set HS1.out HV1.out HW1.out hb6.out ho2.out); have hb8 := hid ((HW1.out.trans (hb6.out.mono HW1.out.size)).setCell (p := ⟨wr.heap.size, 2, none⟩) (Nat.le_refl _) v2); have hv2 := HV1.out.of_block (hb6.out.block _ HV1.out.lt); have r2 := hv2.cell (i := 2) (show _ < 3 by omega); have p2 := hv2.frozen 2; obtain ⟨a2, c2, rfl, hrd⟩ := ho2.out.rd; clear hrd hv2; simp only [List.length_append, List.length_cons, List.length_nil, Nat.zero_add] at hb8 hmo) | (refine step_append_n rfl (.tmp 126) (.tmp 132) 26 (by rfl) 64 i0 (.agg #[.int .i64 0, .int .i64 0, .int .i64 0]) 3 Try.underlying26 hi hz0 hz1 (by rw [hz2]; decide) rfl (by decide) W1.heap.size v1 (0 + S.length) ([] ++ brCells S) (by simp [Act.eval]) ⟨W1.heap.size + 1, 0, none⟩ 1 1 [.int .i64 x, .int .i64 y, .int .i64 z] (by simp [Act.eval]) (HQA.out _ _ _ (K.bsamR hb4.out rfl rfl rfl rfl) (by exact ho1.out) (by exact hcx.out)) ?_; intro v2 wb hw2 hg2 h32; have hb6 := hid (Below.grown (show Below W1.heap.size W1 _ by exact K.bsamR hb4.out rfl rfl rfl rfl) hg2 (by exact hb4.out.size) (fun q hq => (World.ownsRow.lt ho1.out q hq).1)); have ho2 := hid (K.armB_row hw2); clear hw2 hg2 h32; have hmo := hid (K.mor_set HS1.out HV1.out HW1.out hb6.out ho2.out); have hb8 := hid ((HW1.out.trans (hb6.out.mono HW1.out.size)).setCell (p := ⟨wr.heap.size, 2, none⟩) (Nat.le_refl _) v2); have hv2 := HV1.out.of_block (hb6.out.block _ HV1.out.lt); have r2 := hv2.cell (i := 2) (show _ < 3 by omega); have p2 := hv2.frozen 2; obtain ⟨a2, c2, rfl, hrd⟩ := ho2.out.rd; clear hrd hv2; simp only [List.length_append, List.length_cons, List.length_nil, Nat.zero_add] at hb8 hmo) | (refine step_append_n rfl (.tmp 126) (.tmp 132) 26 (by rfl) 64 i0 (.agg #[.int .i64 0, .int .i64 0, .int .i64 0]) 3 Try.underlying26 hi hz0 hz1 (by rw [hz2]; decide) rfl (by decide) W1.heap.size v1 (0 + S.length) ([] ++ brCells S) (by simp [Act.eval]) ⟨W1.heap.size, 0, none⟩ 1 1 [.int .i64 x, .int .i64 y, .int .i64 z] (by simp [Act.eval]) (HQA.out _ _ _ (K.bsamR hb4.out rfl rfl rfl rfl) (by exact ho1.out) (by exact hcx.out)) ?_; intro v2 wb hw2 hg2 h32; have hb6 := hid (Below.grown (show Below W1.heap.size W1 _ by exact K.bsamR hb4.out rfl rfl rfl rfl) hg2 (by exact hb4.out.size) (fun q hq => (World.ownsRow.lt ho1.out q hq).1)); have ho2 := hid (K.armB_row hw2); clear hw2 hg2 h32; have hmo := hid (K.mor_set HS1.out HV1.out HW1.out hb6.out ho2.out); have hb8 := hid ((HW1.out.trans (hb6.out.mono HW1.out.size)).setCell (p := ⟨wr.heap.size, 2, none⟩) (Nat.le_refl _) v2); have hv2 := HV1.out.of_block (hb6.out.block _ HV1.out.lt); have r2 := hv2.cell (i := 2) (show _ < 3 by omega); have p2 := hv2.frozen 2; obtain ⟨a2, c2, rfl, hrd⟩ := ho2.out.rd; clear hrd hv2; simp only [List.length_append, List.length_cons, List.length_nil, Nat.zero_add] at hb8 hmo))
              all_goals
                go_wp2
                go_meet
                exact hmo.out
            case rest =>
              obtain ⟨a9, c9, rfl, hz9, hr9, hb9⟩ := hcut
              generalize S ++ [(x, y, z)] = T at *
              have HZ9 := hid hz9
              have HR9 := hid hr9
              have HB9 := hid hb9
              have HD9 : Hid (RdB wc a9 T) := hid (by
                obtain ⟨a', c', e, h⟩ := hr9.rd
                injection e with e1
                rw [e1]; exact h)
              have HV9 := hid (HV2.out.of_block (hb9.block _ HV2.out.lt))
              have y0 : wc.cell? ⟨gy, 0, none⟩ = some (.int .i64 (p : Int)) := HV9.out.cell (i := 0) (by omega)
              have y1 : wc.cell? ⟨gy, 1, none⟩ = some (.int .i64 (q : Int)) := HV9.out.cell (i := 1) (by omega)
              have y2 : wc.cell? ⟨gy, 2, none⟩ = some (.slice ra S.length rc) := HV9.out.cell (i := 2) (by omega)
              have HE1 := hid (HG1.out wc (HRD.out.stays hb9))
              have HGL0 := hid (HGL.out S)
              have HGL1 := hid (HGL.out T)
              clear hz9 hr9 hb9 HG1 HCS HW1 HV1 HS1 HCE HSRC HV2
              generalize K.gsr p q T = G1 at *
              generalize K.gsr p q S = G0 at *
              go_wp2_with fail
              refine HE1.out.mono ?_
              rintro e w6 ⟨v6, lo6, hi6, rfl, hgs, hb⟩
              obtain ⟨ga, gc, rfl, _⟩ := hgs.rd
              have HB6 := hid (HB9.out.trans (hb.mono HB9.out.size))
              have HZ6 := hid (HZ9.out.of_block (hb.block _ HZ9.out.lt))
              have HR6 : Hid (RowBR w6 (wr.heap.size + 1) (.slice a9 T.length c9) T) := hid (ownsRow_stays HR9.out hb)
              have HV6 := hid (HV9.out.of_block (hb.block _ HV9.out.lt))
              have HE2 := hid (HG2.out w6 a9 c9 (HD9.out.stays hb))
              have z0 : w6.cell? ⟨wr.heap.size, 0, none⟩ = some (.int .i64 (p : Int)) := HZ6.out.cell (i := 0) (by omega)
              have z1 : w6.cell? ⟨wr.heap.size, 1, none⟩ = some (.int .i64 (q : Int)) := HZ6.out.cell (i := 1) (by omega)
              have z2 : w6.cell? ⟨wr.heap.size, 2, none⟩ = some (.slice a9 T.length c9) := HZ6.out.cell (i := 2) (by omega)
              clear hb hgs y0 y1 y2 HE1 HZ9 HR9 HD9 HV9 HB9 HG2
              go_wp2_with fail
              refine HE2.out.mono ?_
              rintro e w7 ⟨v7, lo7, hi7, rfl, hgs, hb⟩
              obtain ⟨ga7, gc7, rfl, _⟩ := hgs.rd
              have HB7 := hid (HB6.out.trans (hb.mono HB6.out.size))
              have HZ7 := hid (HZ6.out.of_block (hb.block _ HZ6.out.lt))
              have HR7 : Hid (RowBR w7 (wr.heap.size + 1) (.slice a9 T.length c9) T) := hid (ownsRow_stays HR6.out hb)
              have HV7 := hid (HV6.out.of_block (hb.block _ HV6.out.lt))
              have HS7 : Hid (RowBR w7 w10.heap.size (.slice ra S.length rc) S) := hid (ownsRow_stays (show wr.ownsRow w10.heap.size 64 3 (.slice ra S.length rc) S.length (brCells S) from HBR2.out) HB7.out)
              have hgle : gy ≤ wr.heap.size := Nat.le_of_lt (Nat.lt_of_lt_of_le (by have := HSY.out; omega) HSZ2.out)
              have HW7 := hid (HB.out.trans (HB7.out.mono hgle))
              have HSZ7 : Hid (w10.heap.size ≤ w7.heap.size) := hid (Nat.le_trans HSZ2.out HB7.out.size)
              have HL12 := hid (show G0.length ≤ 12 ∧ G1.length ≤ 12 from ⟨HGL0.out, HGL1.out⟩)
              clear hb hgs z0 z1 z2 HE2 HZ6 HR6 HV6 HB6
              rcases HGS4.out with ⟨h1, h2⟩ | ⟨h1, h2⟩
              · have HN := hid h1
                have hno : ¬ (G1.length : Int) < (G0.length : Int) := by omega
                clear h1 h2
                go_wp2
                go_roundw
                case rel => exact ⟨k + 1, by omega, by go_num, HW7.out, HSZ7.out, _, HV7.out, by rw [HS1E.out, HN.out]; exact HS7.out⟩
                case measure => simp [intOf]; omega
              · have HN := hid h1
                have hyes : (G1.length : Int) < (G0.length : Int) := by omega
                have z0 : w7.cell? ⟨wr.heap.size, 0, none⟩ = some (.int .i64 (p : Int)) := HZ7.out.cell (i := 0) (by omega)
                have z1 : w7.cell? ⟨wr.heap.size, 1, none⟩ = some (.int .i64 (q : Int)) := HZ7.out.cell (i := 1) (by omega)
                have z2 : w7.cell? ⟨wr.heap.size, 2, none⟩ = some (.slice a9 T.length c9) := HZ7.out.cell (i := 2) (by omega)
                have r0 := HV7.out.cell (i := 0) (show _ < 3 by omega)
                have r1 := HV7.out.cell (i := 1) (show _ < 3 by omega)
                have r2 := HV7.out.cell (i := 2) (show _ < 3 by omega)
                have f0 := HV7.out.frozen 0
                have f1 := HV7.out.frozen 1
                have f2 := HV7.out.frozen 2
                have hlo : w10.heap.size ≤ wr.heap.size + 1 := by have := HSZ2.out; omega
                have hvf := hid (rkF_put (m := (p : Int)) (n := (q : Int)) (v := .slice a9 T.length c9) HV7.out)
                have hgw : gy < wr.heap.size + 1 := by omega
                have htf : Hid (RowBR (((w7.setCell ⟨gy, 0, none⟩ (.int .i64 (p : Int))).setCell ⟨gy, 1, none⟩ (.int .i64 (q : Int))).setCell ⟨gy, 2, none⟩ (.slice a9 T.length c9)) w10.heap.size (.slice a9 T.length c9) T) := hid (own_mono2 (own_off (own_off (own_off HR7.out hgw) hgw) hgw) hlo)
                have hbf := hid (((HW7.out.setCell (p := ⟨gy, 0, none⟩) (Nat.le_refl _) (.int .i64 (p : Int))).setCell (p := ⟨gy, 1, none⟩) (Nat.le_refl _) (.int .i64 (q : Int))).setCell (p := ⟨gy, 2, none⟩) (Nat.le_refl _) (.slice a9 T.length c9))
                have hsf : Hid (w10.heap.size ≤ (((w7.setCell ⟨gy, 0, none⟩ (.int .i64 (p : Int))).setCell ⟨gy, 1, none⟩ (.int .i64 (q : Int))).setCell ⟨gy, 2, none⟩ (.slice a9 T.length c9)).heap.size) := hid (Nat.le_trans HSZ7.out (by simp [World.setCell]))
                clear h1 h2 hlo hgw HV7 HR7 HW7 HS7
                go_wp2
                go_roundw
                case rel => exact ⟨k + 1, by omega, by go_num, hbf.out, hsf.out, _, hvf.out, by rw [HS1E.out, HN.out]; exact htf.out⟩
                case measure => simp [intOf]; omega
          · have hke : k = B.length := by omega
            subst hke
            obtain ⟨ra, rc, rfl, hrd⟩ := HBR2.out.rd
            have HS9 := hid (HSTF.out wr (K.sm p (K.leads p []) B B.length) ra rc (by have := HFW.out; omega) hrd)
            rw [HFS.out] at HS9
            have y0 : wr.cell? ⟨gy, 0, none⟩ = some (.int .i64 (p : Int)) := HV2.out.cell (i := 0) (by omega)
            have y1 : wr.cell? ⟨gy, 1, none⟩ = some (.int .i64 (q : Int)) := HV2.out.cell (i := 1) (by omega)
            have y2 : wr.cell? ⟨gy, 2, none⟩ = some (.slice ra (K.sm p (K.leads p []) B B.length).length rc) := HV2.out.cell (i := 2) (by omega)
            have x2 : wr.cell? ⟨g, 2, none⟩ = some (.slice rb B.length rcb) := HXX.out.cell (i := 2) (by omega)
            clear hrd HGS HGR HSTF HGL HFS HFW
            generalize K.sm p (K.leads p []) B B.length = SF at *
            go_wp2_with fail
            refine HS9.out.mono ?_
            rintro e w11 ⟨rfl, hb⟩
            have HB11 := hid (HW10.out.trans ((HBX2.out.trans (hb.mono HBX2.out.size)).mono HW10.out.size))
            clear hb y0 y1 y2
            go_wp2_with fail
            refine (HWK.out _).mono ?_
            rintro e w12 ⟨rfl, hb⟩
            have HB12 := hid (HB11.out.trans (hb.mono HB11.out.size))
            clear hb
            go_wp2
            go_ret
            exact ⟨rfl, HB12.out⟩
end Go.Proofs.Ytmbfpekcfeeifaa
