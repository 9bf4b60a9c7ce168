/- Package tuscheref05: the walks of Loose and Verify. -/
import Derived.Test.YtmbfpekcfeeifaaKVerify
import Derived.Test.YtmbfpekcfeeifaaKBrs
import Derived.Deep.RegionHeld3
namespace Go.Proofs.Ytmbfpekcfeeifaa
open Go.RowKit

set_option maxHeartbeats 2000000 in
set_option maxRecDepth 100000 in
theorem refLoose_any (m n : Int) (a : Option Addr) (c : Nat) (bs : List Br) (w : World) (hm : bs.length ≤ maxLen) (hR : RdB w a bs) :
    Calls Try.prog 28 #[K.rk m n a bs.length c] w fun e w' => e = .returned (.int .i64 (K.lse m n bs)) ∧ Below w.heap.size w w' := by
  obtain ⟨HB0, hbx⟩ := box_rackR w m n a c bs hR
  have HG := hid (refStiff_any m n a c bs _ hm (hR.stays HB0.out))
  clear hbx hR hm
  have HL : Hid (K.lse m n bs = if K.chk m n bs = 0 then (if K.stf m n bs = true then 14 else 0) else K.chk m n bs) := hid rfl
  generalize K.lse m n bs = le at *
  generalize K.stf m n bs = st at *
  generalize K.chk m n bs = err at *
  unfold K.rk at HG ⊢
  by_cases h : err = 0
  · subst h
    rw [if_pos rfl] at HL
    cases st with
    | true =>
      rw [if_pos rfl] at HL
      go_enter Try.func28, Try.ntmps28
      go_wp2_with fail
      refine HG.out.mono ?_
      rintro e w1 ⟨rfl, hb⟩
      have HB := hid (HB0.out.trans (hb.mono HB0.out.size))
      clear hb
      go_wp2
      go_ret
      exact ⟨ret_int HL.out.symm, HB.out⟩
    | false =>
      rw [if_neg (by simp)] at HL
      go_enter Try.func28, Try.ntmps28
      go_wp2_with fail
      refine HG.out.mono ?_
      rintro e w1 ⟨rfl, hb⟩
      have HB := hid (HB0.out.trans (hb.mono HB0.out.size))
      clear hb
      go_wp2
      go_ret
      exact ⟨ret_int HL.out.symm, HB.out⟩
  · have h1 : (err == 0) = false := by simpa using h
    rw [if_neg h] at HL
    clear h
    go_enter Try.func28, Try.ntmps28
    go_wp2_with fail
    refine HG.out.mono ?_
    rintro e w1 ⟨rfl, hb⟩
    have HB := hid (HB0.out.trans (hb.mono HB0.out.size))
    clear hb
    go_wp2
    go_ret
    exact ⟨ret_int HL.out.symm, HB.out⟩

/-- The first numbers are all like the first one. -/
def K.smk (zs : List Int) (k : Nat) : Bool := (zs.take k).all fun x => x == zs.getD 0 0
theorem K.smk_succ {zs : List Int} {k : Nat} (h : k < zs.length) : K.smk zs (k + 1) = (K.smk zs k && (zs[k] == zs.getD 0 0)) := by
  unfold K.smk
  rw [List.take_succ_eq_append_getElem h, List.all_append]
  simp
theorem K.smk_end (zs : List Int) : K.smk zs zs.length = K.same zs := by unfold K.smk K.same; rw [List.take_length]
theorem K.oob_at {zs : List Int} {k : Nat} (h : k < zs.length) (hb : ¬ (-1000000 ≤ zs[k] ∧ zs[k] ≤ 1000000)) : K.oob zs = true := by
  unfold K.oob
  rw [List.any_eq_true]
  exact ⟨_, List.getElem_mem h, decide_eq_true (by omega)⟩
theorem K.oob_none {zs : List Int} (h : ∀ k (hk : k < zs.length), -1000000 ≤ zs[k] ∧ zs[k] ≤ 1000000) : K.oob zs = false := by
  unfold K.oob
  rw [List.any_eq_false]
  intro x hx
  obtain ⟨k, hk, rfl⟩ := List.getElem_of_mem hx
  have := h k hk
  simp; omega

set_option maxHeartbeats 8000000 in
set_option maxRecDepth 100000 in
theorem refVerify_any (m n : Int) (a : Option Addr) (c : Nat) (bs : List Br) (a1 : Option Addr) (c1 : Nat) (R : List Int) (a2 : Option Addr) (c2 : Nat) (C : List Int) (w : World) (hm : bs.length ≤ maxLen) (hl1 : R.length ≤ 40) (hl2 : C.length ≤ 40) (hR : RdB w a bs) (h1 : RdI w a1 R) (h2 : RdI w a2 C) :
    Calls Try.prog 30 #[K.rk m n a bs.length c, .agg #[.slice a1 R.length c1, .slice a2 C.length c2]] w fun e w' => e = .returned (.int .i64 (K.ver m n bs R C)) ∧ Below w.heap.size w w' := by
  obtain ⟨hb0, hbx⟩ := K.vf_box w 28 55 m n (.slice a bs.length c) (.slice a1 R.length c1) (.slice a2 C.length c2)
  have HBX := hid hbx
  have HB0 := hid hb0
  have HRB := hid (hR.stays hb0)
  have HR1 := hid (h1.stays2 hb0)
  have HR2 := hid (h2.stays2 hb0)
  have HCK := hid (refCheck_any m n a c bs _ hm (hR.stays hb0))
  clear hb0 hbx hR h1 h2
  by_cases h0 : K.chk m n bs = 0
  case neg =>
    have hne : (K.chk m n bs != 0) = true := by simpa using h0
    have hne2 : (K.chk m n bs == 0) = false := by simpa using h0
    have HV : Hid (K.ver m n bs R C = K.chk m n bs) := hid (by unfold K.ver; rw [if_neg h0])
    rw [HV.out]
    unfold K.rk at HCK ⊢
    generalize K.chk m n bs = err at *
    clear h0 HV
    go_enter Try.func30, Try.ntmps30
    go_wp2_with fail
    refine HCK.out.mono ?_
    rintro e w1 ⟨rfl, hb⟩
    have HB1 := hid (HB0.out.trans (hb.mono HB0.out.size))
    clear hb
    go_wp2
    go_ret
    exact ⟨rfl, HB1.out⟩
  case pos =>
    have HV : Hid (K.ver m n bs R C = if (R.length : Int) = m ∧ (C.length : Int) = n then (if K.oob (R ++ C) = true then 4 else if K.same (R ++ C) = true then 20 else if bs.all (K.kp R C) = true then 0 else 13) else 3) := hid (by unfold K.ver; rw [if_pos h0])
    obtain ⟨p, q, rfl, rfl, hok⟩ := K.chk_ok h0
    rw [h0] at HCK
    have HOK := hid hok
    unfold K.rk at HCK ⊢
    generalize K.ver (p : Int) (q : Int) bs R C = ver at *
    clear h0 hok
    by_cases hrl : R.length = p
    case neg =>
      have hd : ((R.length : Int) != (p : Int)) = true := by simp; omega
      have HE : Hid (ver = 3) := hid (by rw [HV.out, if_neg (by omega)])
      clear HV
      go_enter Try.func30, Try.ntmps30
      go_wp2_with fail
      refine HCK.out.mono ?_
      rintro e w1 ⟨rfl, hb⟩
      obtain ⟨hx, hy⟩ := HBX.out w1 hb
      have HB1 := hid (HB0.out.trans (hb.mono HB0.out.size))
      have k0 : w1.cell? ⟨w.heap.size, 0, none⟩ = some (.int .i64 (p : Int)) := hx.cell (i := 0) (by omega)
      have y0 : w1.cell? ⟨w.heap.size + 1, 0, none⟩ = some (.slice a1 R.length c1) := hy.cell (i := 0) (by omega)
      clear hb hx hy
      go_wp2
      go_ret
      exact ⟨ret_int HE.out.symm, HB1.out⟩
    case pos =>
    subst hrl
    have hd : ((R.length : Int) != (R.length : Int)) = false := by simp
    by_cases hcl : C.length = q
    case neg =>
      have hd2 : ((C.length : Int) != (q : Int)) = true := by simp; omega
      have HE : Hid (ver = 3) := hid (by rw [HV.out, if_neg (by omega)])
      clear HV
      go_enter Try.func30, Try.ntmps30
      go_wp2_with fail
      refine HCK.out.mono ?_
      rintro e w1 ⟨rfl, hb⟩
      obtain ⟨hx, hy⟩ := HBX.out w1 hb
      have HB1 := hid (HB0.out.trans (hb.mono HB0.out.size))
      have k0 : w1.cell? ⟨w.heap.size, 0, none⟩ = some (.int .i64 (R.length : Int)) := hx.cell (i := 0) (by omega)
      have k1 : w1.cell? ⟨w.heap.size, 1, none⟩ = some (.int .i64 (q : Int)) := hx.cell (i := 1) (by omega)
      have y0 : w1.cell? ⟨w.heap.size + 1, 0, none⟩ = some (.slice a1 R.length c1) := hy.cell (i := 0) (by omega)
      have y1 : w1.cell? ⟨w.heap.size + 1, 1, none⟩ = some (.slice a2 C.length c2) := hy.cell (i := 1) (by omega)
      clear hb hx hy
      go_wp2
      go_ret
      exact ⟨ret_int HE.out.symm, HB1.out⟩
    case pos =>
    subst hcl
    have hd2 : ((C.length : Int) != (C.length : Int)) = false := by simp
    rw [if_pos ⟨rfl, rfl⟩] at HV
    have hp1 := HOK.out.m1
    have hfw := HOK.out.few
    have hq1 := HOK.out.n1
    obtain ⟨i0, hi, hz0, hz1, hz2⟩ := info_parts (show (Try.prog.info? 3).map (fun i => (i.zero, i.size, i.bytes)) = some (some (.int .i64 0), 1, 8) by kernel_rfl)
    obtain ⟨b1, o1, rfl, _⟩ := HR1.out 0 (by omega)
    obtain ⟨b2, o2, rfl, _⟩ := HR2.out 0 (by omega)
    go_enter Try.func30, Try.ntmps30
    go_wp2_with fail
    refine HCK.out.mono ?_
    rintro e w1 ⟨rfl, hb⟩
    obtain ⟨hx, hy⟩ := HBX.out w1 hb
    have HB1 := hid (HB0.out.trans (hb.mono HB0.out.size))
    have HX := hid hx
    have HY := hid hy
    have HRB1 := hid (HRB.out.stays hb)
    have HR11 := hid (HR1.out.stays2 hb)
    have HR21 := hid (HR2.out.stays2 hb)
    have k0 : w1.cell? ⟨w.heap.size, 0, none⟩ = some (.int .i64 (R.length : Int)) := hx.cell (i := 0) (by omega)
    have k1 : w1.cell? ⟨w.heap.size, 1, none⟩ = some (.int .i64 (C.length : Int)) := hx.cell (i := 1) (by omega)
    have y0 : w1.cell? ⟨w.heap.size + 1, 0, none⟩ = some (.slice (some ⟨b1, o1, none⟩) R.length c1) := hy.cell (i := 0) (by omega)
    have y1 : w1.cell? ⟨w.heap.size + 1, 1, none⟩ = some (.slice (some ⟨b2, o2, none⟩) C.length c2) := hy.cell (i := 1) (by omega)
    have hsz : w.heap.size + 1 < w1.heap.size := hy.lt
    have HCS := hid (fun W (hW : Below w1.heap.size w1 W) => show W.cell? ⟨w.heap.size + 1, 0, none⟩ = some (.slice (some ⟨b1, o1, none⟩) R.length c1) ∧ W.cell? ⟨w.heap.size + 1, 1, none⟩ = some (.slice (some ⟨b2, o2, none⟩) C.length c2) from
      ⟨(HY.out.of_block (hW.block _ HY.out.lt)).cell (i := 0) (by omega), (HY.out.of_block (hW.block _ HY.out.lt)).cell (i := 1) (by omega)⟩)
    clear hb hx hy HCK HBX HB0 HRB HR1 HR2
    have HFA := hid (fun (W : World) (hb : Below w1.heap.size w1 W) (hW : W.heap = (w1.alloc (.cells #[] 3)).heap) => show W.ownsRow w1.heap.size 3 1 (.slice (some ⟨w1.heap.size, 0, none⟩) 0 0) 0 [] ∧ (R.map (Value.int .i64)).length = R.length * 1 ∧ (∀ j u, (R.map (Value.int .i64))[j]? = some u → W.cell? (Addr.add ⟨b1, o1, none⟩ j) = some u) ∧ (∀ u ∈ R.map (Value.int .i64), u.oneCell' = true) ∧ 0 + R.length ≤ 1000 ∧ w1.heap.size ≤ W.heap.size from
      ⟨⟨rfl, Or.inr ⟨w1.heap.size, 0, #[], rfl, Nat.le_refl _, by rw [hW]; exact heap_oneI w1 _, Nat.le_refl _, Nat.zero_le _, rfl, rfl⟩⟩, by simp, (HR11.out.stays2 hb).cellsI, (fun u hu => by obtain ⟨x, _, rfl⟩ := List.mem_map.1 hu; rfl), by omega, hb.size⟩)
    have HFB := hid (fun (W : World) (v1 : Value) (hb : Below w1.heap.size w1 W) (ho : W.ownsRow w1.heap.size 3 1 v1 (0 + R.length) ([] ++ R.map (Value.int .i64))) => show W.ownsRow w1.heap.size 3 1 v1 (0 + R.length) ([] ++ R.map (Value.int .i64)) ∧ (C.map (Value.int .i64)).length = C.length * 1 ∧ (∀ j u, (C.map (Value.int .i64))[j]? = some u → W.cell? (Addr.add ⟨b2, o2, none⟩ j) = some u) ∧ (∀ u ∈ C.map (Value.int .i64), u.oneCell' = true) ∧ 0 + R.length + C.length ≤ 1000 ∧ w1.heap.size ≤ W.heap.size from
      ⟨ho, by simp, (HR21.out.stays2 hb).cellsI, (fun u hu => by obtain ⟨x, _, rfl⟩ := List.mem_map.1 hu; rfl), by omega, hb.size⟩)
    have HSZ : Hid (w1.heap.size ≤ (w1.alloc (.cells #[] 3)).heap.size) := hid (by simp)
    have HBK : Hid (∀ k, k < w1.heap.size → (w1.alloc (.cells #[] 3)).heap[k]? = w1.heap[k]?) := hid (fun k hk => Below.heap_alloc _ _ _ hk)
    have HCV := hid (fun (W : World) (v : Value) (h : W.ownsRow w1.heap.size 3 1 v (0 + R.length + C.length) (([] ++ R.map (Value.int .i64)) ++ C.map (Value.int .i64))) => show RowI W w1.heap.size v (R ++ C) from by
      unfold RowI
      rw [show (R ++ C).length = 0 + R.length + C.length by simp, List.map_append]
      exact h)
    have hd9 : Hid (Below w1.heap.size w1 w1.drew) := hid (Below.refl _ _).drew
    go_wp2
    obtain ⟨z0, z1⟩ := HCS.out _ hd9.out
    go_region_held3 (fun W => W.cell? ⟨w.heap.size + 1, 0, none⟩ = some (.slice (some ⟨b1, o1, none⟩) R.length c1) ∧ W.cell? ⟨w.heap.size + 1, 1, none⟩ = some (.slice (some ⟨b2, o2, none⟩) C.length c2)) (first | exact HCS.out _ (Hid.out (by assumption)) | exact HCS.out _ (hd9.out.alloc hd9.out.size _) | exact HCS.out _ hb4.out | exact HCS.out _ hb6.out | go_keep) (first | (refine step_append_n rfl (.tmp 36) (.tmp 38) 40 (by rfl) 3 i0 (.int .i64 0) 1 Try.underlying40 hi hz0 hz1 (by rw [hz2]; decide) rfl (by decide) w1.heap.size (.slice (some ⟨w1.heap.size, 0, none⟩) 0 0) 0 [] (by simp [Act.eval]) ⟨b1, o1, none⟩ R.length c1 (R.map (Value.int .i64)) (by simp [Act.eval]) (HFA.out _ (by exact ⟨rfl, rfl, rfl, HSZ.out, HBK.out⟩) rfl) ?_; intro v1 wa hw1 hg1 _; have hb4 := hid (Below.grown (show Below w1.heap.size w1 _ by exact ⟨rfl, rfl, rfl, HSZ.out, HBK.out⟩) hg1 (by exact HSZ.out) (fun q hq => by cases hq; exact Nat.le_refl _)); have ho1 := hid hw1; clear hw1 hg1) | (refine step_append_n rfl (.tmp 39) (.tmp 41) 40 (by rfl) 3 i0 (.int .i64 0) 1 Try.underlying40 hi hz0 hz1 (by rw [hz2]; decide) rfl (by decide) w1.heap.size v1 (0 + R.length) ([] ++ R.map (Value.int .i64)) (by simp [Act.eval]) ⟨b2, o2, none⟩ C.length c2 (C.map (Value.int .i64)) (by simp [Act.eval]) (HFB.out _ v1 (by exact hb4.out) (by exact ho1.out)) ?_; intro v2 wb hw2 hg2 _; have hb6 := hid (Below.grown (show Below w1.heap.size w1 _ from hb4.out) hg2 (by exact hb4.out.size) (fun q hq => (World.ownsRow.lt ho1.out q hq).1)); have ho2 := hid (HCV.out _ _ hw2); clear hw2 hg2; obtain ⟨a5, c5, rfl, hrd⟩ := ho2.out.rd; have hrd2 := hid hrd; clear hrd))
    all_goals
      obtain ⟨zs, hzs⟩ : ∃ zs, zs = R ++ C := ⟨_, rfl⟩
      have HZL : Hid (zs.length = R.length + C.length) := hid (by rw [hzs]; exact List.length_append)
      have HNN : Hid (2 ≤ R.length + C.length ∧ R.length + C.length ≤ 80) := hid (by omega)
      have HBW := hid (HB1.out.trans (hb6.out.mono HB1.out.size))
      have HW6 := hid hb6.out
      simp only [List.length_append]
      rw [← hzs] at HV hrd2
      clear ho2 hzs HCV
      generalize hN : R.length + C.length = N at *
      clear ho1 hb4 hd9 z0 z1 HFA HFB HSZ HBK hb6 k0 k1 y0 y1
      have HRZ := hid (show RdI wb a5 zs from hrd2.out)
      go_wp2
      go_loopw [7, 8] (fun s i wr => ∃ k : Nat, k ≤ N ∧ i = .int .i64 k ∧ s = .bool (K.smk zs k) ∧ (∀ j (hj : j < k) (hl : j < zs.length), -1000000 ≤ zs[j] ∧ zs[j] ≤ 1000000) ∧ Below wb.heap.size wb wr) (fun _ i _ => N - (intOf i).toNat)
      case atStart => exact ⟨0, Nat.zero_le _, rfl, rfl, fun j hj => absurd hj (Nat.not_lt_zero _), Below.refl _ _⟩
      case round =>
        obtain ⟨k, hk, rfl, rfl, hin, hb⟩ := hrel
        have HIN := hid hin
        have HBL := hid hb
        have HB9 := hid (HBW.out.trans (hb.mono HBW.out.size))
        have hN80 := HNN.out
        clear hin hb
        by_cases hlt : k < N
        · have hltz : k < zs.length := by rw [HZL.out]; exact hlt
          obtain ⟨b5, o5, rfl, ck⟩ := (HRZ.out.stays2 HBL.out) k hltz
          obtain ⟨b5', o5', he, cz⟩ := (HRZ.out.stays2 HBL.out) 0 (by omega)
          simp only [Option.some.injEq, Addr.mk.injEq, and_true] at he
          obtain ⟨rfl, rfl⟩ := he
          have HSM := hid (K.smk_succ hltz)
          have HOA := hid (fun h => K.oob_at hltz h)
          have hz0e : zs[0] = zs.getD 0 0 := by rw [List.getD_eq_getElem?_getD, List.getElem?_eq_getElem (by omega)]; rfl
          rw [hz0e] at cz
          have HNX : Hid (∀ x, zs[k] = x → -1000000 ≤ x ∧ x ≤ 1000000 → ∀ j (hj : j < k + 1) (hl : j < zs.length), -1000000 ≤ zs[j] ∧ zs[j] ≤ 1000000) := hid (fun x e hx j hj hl => by
            by_cases ej : j = k
            · subst ej; rw [e]; exact hx
            · exact HIN.out j (by omega) hl)
          obtain ⟨x, hx⟩ : ∃ x, zs[k] = x := ⟨_, rfl⟩
          rw [hx] at ck HSM HOA
          have HXX := hid hx
          clear hx hz0e
          generalize zs.getD 0 0 = z at *
          have HIS := hid (is_any x (-1000000) 1000000 _ rfl wr)
          have hix : (0 : Int) ≤ (k : Int) ∧ (k : Int) < (N : Int) := by omega
          have hi0 : 0 < N := by omega
          simp only [Nat.add_zero] at cz
          by_cases hr : -1000000 ≤ x ∧ x ≤ 1000000
          · rw [decide_eq_true hr] at HIS
            have HN1 := hid (HNX.out x HXX.out hr)
            clear hr
            cases hs : K.smk zs k with
            | false =>
              have HS1 : Hid (K.smk zs (k + 1) = false) := hid (by rw [HSM.out, hs]; rfl)
              go_wp2_with fail
              refine HIS.out.mono ?_
              rintro e w5 ⟨rfl, rfl⟩
              go_wp2
              go_quiet (fail)
              have HBQ := hid (below_drewN HBL.out nq)
              go_wp2
              go_roundw
              case rel => exact ⟨k + 1, by omega, by go_num, by rw [HS1.out], HN1.out, HBQ.out⟩
              case measure => simp [intOf]; omega
            | true =>
              have HS1 : Hid (K.smk zs (k + 1) = (x == z)) := hid (by rw [HSM.out, hs]; rfl)
              go_wp2_with fail
              refine HIS.out.mono ?_
              rintro e w5 ⟨rfl, rfl⟩
              go_wp2
              go_quiet (fail)
              have HBQ := hid (below_drewN HBL.out nq)
              go_wp2
              go_roundw
              case rel => exact ⟨k + 1, by omega, by go_num, by rw [HS1.out], HN1.out, HBQ.out⟩
              case measure => simp [intOf]; omega
          · rw [decide_eq_false hr] at HIS
            have HE : Hid (ver = 4) := hid (by rw [HV.out, if_pos (HOA.out hr)])
            clear hr HV
            go_wp2_with fail
            refine HIS.out.mono ?_
            rintro e w5 ⟨rfl, rfl⟩
            go_wp2
            go_ret
            exact ⟨ret_int HE.out.symm, HB9.out⟩
        · have hke : k = N := by omega
          subst hke
          have HOB : Hid (K.oob zs = false) := hid (K.oob_none fun j hj => HIN.out j (by rw [← HZL.out]; exact hj) hj)
          have HSE : Hid (K.smk zs k = K.same zs) := hid (by rw [← K.smk_end, HZL.out])
          rw [if_neg (by rw [HOB.out]; simp)] at HV
          rw [HSE.out]
          cases hs : K.same zs with
          | true =>
            have HE : Hid (ver = 20) := hid (by rw [HV.out, if_pos hs])
            clear HV hs
            go_wp2
            go_ret
            exact ⟨ret_int HE.out.symm, HB9.out⟩
          | false =>
            rw [if_neg (by rw [hs]; simp)] at HV
            clear hs HIN HOB HSE
            go_wp2
            generalize hwr : wr = w6 at *
            clear hwr
            go_loopw [9] (fun i wr => ∃ k : Nat, k ≤ bs.length ∧ i = .int .i64 k ∧ (bs.take k).all (K.kp R C) = true ∧ Below w6.heap.size w6 wr) (fun i _ => bs.length - (intOf i).toNat)
            case atStart => exact ⟨0, Nat.zero_le _, rfl, rfl, Below.refl _ _⟩
            case round =>
              obtain ⟨k, hk, rfl, hal, hb⟩ := hrel
              have HAL := hid hal
              have HBT := hid hb
              have HB7 := hid (HW6.out.trans ((HBL.out.trans (hb.mono HBL.out.size)).mono HW6.out.size))
              have k2 : wr.cell? ⟨w.heap.size, 2, none⟩ = some (.slice a bs.length c) := (HX.out.of_block (HB7.out.block _ HX.out.lt)).cell (i := 2) (by omega)
              have y0 : wr.cell? ⟨w.heap.size + 1, 0, none⟩ = some (.slice (some ⟨b1, o1, none⟩) R.length c1) := (HY.out.of_block (HB7.out.block _ HY.out.lt)).cell (i := 0) (by omega)
              have y1 : wr.cell? ⟨w.heap.size + 1, 1, none⟩ = some (.slice (some ⟨b2, o2, none⟩) C.length c2) := (HY.out.of_block (HB7.out.block _ HY.out.lt)).cell (i := 1) (by omega)
              have hsz7 : w.heap.size + 1 < wr.heap.size := Nat.lt_of_lt_of_le hsz HB7.out.size
              clear hal hb
              by_cases hlt : k < bs.length
              · obtain ⟨b, off, rfl, z1, z2, z3⟩ := (HRB1.out.stays HB7.out) k hlt
                have HTK := hid (K.take_all (R := R) (C := C) hlt)
                have HAF := hid (fun h => K.all_false (R := R) (C := C) hlt h)
                have hin := HOK.out.inb _ (List.getElem_mem hlt)
                generalize bs[k] = br at *
                obtain ⟨x, y, z⟩ := br
                obtain ⟨g1, g2, g3, g4⟩ := hin
                simp only at g1 g2 g3 g4 z1 z2 z3
                obtain ⟨i, rfl⟩ : ∃ i : Nat, x = (i : Int) := ⟨x.toNat, by omega⟩
                obtain ⟨j, rfl⟩ : ∃ j : Nat, y = (j : Int) := ⟨y.toNat, by omega⟩
                have hix : (0 : Int) ≤ (k : Int) ∧ (k : Int) < (bs.length : Int) := by omega
                have hii : i < R.length := by omega
                have hjj : j < C.length := by omega
                have ii : (0 : Int) ≤ (i : Int) ∧ (i : Int) < (R.length : Int) := by omega
                have jj : (0 : Int) ≤ (j : Int) ∧ (j : Int) < (C.length : Int) := by omega
                have HKP := hid (K.kp_at (z := z) hii hjj)
                obtain ⟨b1', o1', he1, q1⟩ := (HR11.out.stays2 HB7.out) i hii
                simp only [Option.some.injEq, Addr.mk.injEq, and_true] at he1
                obtain ⟨rfl, rfl⟩ := he1
                obtain ⟨b2', o2', he2, q2⟩ := (HR21.out.stays2 HB7.out) j hjj
                simp only [Option.some.injEq, Addr.mk.injEq, and_true] at he2
                obtain ⟨rfl, rfl⟩ := he2
                obtain ⟨r, hr⟩ : ∃ r, R[i] = r := ⟨_, rfl⟩
                obtain ⟨s, hs⟩ : ∃ r, C[j] = r := ⟨_, rfl⟩
                rw [hr] at q1 HKP
                rw [hs] at q2 HKP
                have HBA := hid (HBT.out.alloc HBT.out.size (.cells #[.int .i64 (i : Int), .int .i64 (j : Int), .int .i64 z] 64))
                have q3 := cell_stays ((Below.refl wr.heap.size wr).alloc (Nat.le_refl _) (.cells #[.int .i64 (i : Int), .int .i64 (j : Int), .int .i64 z] 64)) (Nat.le_refl _) q1
                have q4 := cell_stays ((Below.refl wr.heap.size wr).alloc (Nat.le_refl _) (.cells #[.int .i64 (i : Int), .int .i64 (j : Int), .int .i64 z] 64)) (Nat.le_refl _) q2
                clear g1 g2 g3 g4 hr hs q1 q2
                by_cases e1 : z = 1
                · subst e1
                  rw [if_pos rfl] at HKP
                  by_cases hg : s < r
                  · have hf := decide_eq_false (show ¬ r ≤ s by omega)
                    have HF := hid hf
                    clear hf
                    have HE : Hid (ver = 13) := hid (by rw [HV.out, if_neg (by rw [HAF.out (by rw [HKP.out]; exact HF.out)]; simp)])
                    clear HV
                    go_wp2
                    go_quiet (fail)
                    have HBQ := hid (HB9.out.trans ((below_drewN HBA.out nq).mono HB9.out.size))
                    go_wp2
                    go_ret
                    exact ⟨ret_int HE.out.symm, HBQ.out⟩
                  · have hf := decide_eq_true (show r ≤ s by omega)
                    have HF := hid hf
                    clear hf
                    have HN : Hid ((bs.take (k + 1)).all (K.kp R C) = true) := hid (by rw [HTK.out, HAL.out, HKP.out]; rw [HF.out]; rfl)
                    go_wp2
                    go_quiet (fail)
                    have HBQ := hid (below_drewN HBA.out nq)
                    go_wp2
                    go_roundw
                    case rel => exact ⟨k + 1, by omega, by go_num, HN.out, HBQ.out⟩
                    case measure => simp [intOf]; omega
                · by_cases e2 : z = 2
                  · subst e2
                    rw [if_neg e1, if_pos rfl] at HKP
                    clear e1
                    by_cases hg : r < s
                    · have hf := decide_eq_false (show ¬ s ≤ r by omega)
                      have HF := hid hf
                      clear hf
                      have HE : Hid (ver = 13) := hid (by rw [HV.out, if_neg (by rw [HAF.out (by rw [HKP.out]; exact HF.out)]; simp)])
                      clear HV
                      go_wp2
                      go_quiet (fail)
                      have HBQ := hid (HB9.out.trans ((below_drewN HBA.out nq).mono HB9.out.size))
                      go_wp2
                      go_ret
                      exact ⟨ret_int HE.out.symm, HBQ.out⟩
                    · have hf := decide_eq_true (show s ≤ r by omega)
                      have HF := hid hf
                      clear hf
                      have HN : Hid ((bs.take (k + 1)).all (K.kp R C) = true) := hid (by rw [HTK.out, HAL.out, HKP.out]; rw [HF.out]; rfl)
                      go_wp2
                      go_quiet (fail)
                      have HBQ := hid (below_drewN HBA.out nq)
                      go_wp2
                      go_roundw
                      case rel => exact ⟨k + 1, by omega, by go_num, HN.out, HBQ.out⟩
                      case measure => simp [intOf]; omega
                  · rw [if_neg e1, if_neg e2] at HKP
                    have d1 : (z != 1) = true := by simpa using e1
                    have d2 : (z != 2) = true := by simpa using e2
                    clear e1 e2
                    by_cases hg : s < r
                    · have hf := decide_eq_false (show ¬ r = s by omega)
                      have HF := hid hf
                      clear hf
                      have HE : Hid (ver = 13) := hid (by rw [HV.out, if_neg (by rw [HAF.out (by rw [HKP.out]; exact HF.out)]; simp)])
                      clear HV
                      go_wp2
                      go_quiet (fail)
                      have HBQ := hid (HB9.out.trans ((below_drewN HBA.out nq).mono HB9.out.size))
                      go_wp2
                      go_ret
                      exact ⟨ret_int HE.out.symm, HBQ.out⟩
                    · by_cases hg2 : r < s
                      · have hf := decide_eq_false (show ¬ r = s by omega)
                        have HF := hid hf
                        clear hf
                        have HE : Hid (ver = 13) := hid (by rw [HV.out, if_neg (by rw [HAF.out (by rw [HKP.out]; exact HF.out)]; simp)])
                        clear HV
                        go_wp2
                        go_quiet (fail)
                        have HBQ := hid (HB9.out.trans ((below_drewN HBA.out nq).mono HB9.out.size))
                        go_wp2
                        go_ret
                        exact ⟨ret_int HE.out.symm, HBQ.out⟩
                      · have hf := decide_eq_true (show r = s by omega)
                        have HF := hid hf
                        clear hf
                        have HN : Hid ((bs.take (k + 1)).all (K.kp R C) = true) := hid (by rw [HTK.out, HAL.out, HKP.out]; rw [HF.out]; rfl)
                        go_wp2
                        go_quiet (fail)
                        have HBQ := hid (below_drewN HBA.out nq)
                        go_wp2
                        go_roundw
                        case rel => exact ⟨k + 1, by omega, by go_num, HN.out, HBQ.out⟩
                        case measure => simp [intOf]; omega
              · have hke : bs.length = k := by omega
                subst hke
                have HN : Hid (bs.all (K.kp R C) = true) := hid (by have := HAL.out; rwa [List.take_length] at this)
                have HE : Hid (ver = 0) := hid (by rw [HV.out, if_pos HN.out])
                have HBF := hid (HB9.out.trans (HBT.out.mono HB9.out.size))
                clear HV
                go_wp2
                go_ret
                exact ⟨ret_int HE.out.symm, HBF.out⟩
end Go.Proofs.Ytmbfpekcfeeifaa
