/- Package rack: the walk of Verify. -/
import Derived.Test.YtmbfpekcfeeifaaKVer
namespace Go.Proofs.Ytmbfpekcfeeifaa
open Go.RowKit

/-- A rack and a motion in boxes. -/
def K.moF (u v : Value) (i : Nat) : Value := if i = 0 then u else v
theorem K.vf_box (w : World) (tr tm : TypeId) (m n : Int) (sl u v : Value) : Below w.heap.size w ((w.alloc (.cells #[.int .i64 m, .int .i64 n, sl] tr)).alloc (.cells #[u, v] tm)) ∧
    ∀ w', Below ((w.alloc (.cells #[.int .i64 m, .int .i64 n, sl] tr)).alloc (.cells #[u, v] tm)).heap.size ((w.alloc (.cells #[.int .i64 m, .int .i64 n, sl] tr)).alloc (.cells #[u, v] tm)) w' →
      w'.rowIs w.heap.size tr 3 (K.rkF m n sl) ∧ w'.rowIs (w.heap.size + 1) tm 2 (K.moF u v) := by
  have h1 : (w.alloc (.cells #[.int .i64 m, .int .i64 n, sl] tr)).rowIs w.heap.size tr 3 (K.rkF m n sl) := World.rowIs_alloc w #[.int .i64 m, .int .i64 n, sl] tr _ (fun i hi => by
    have h : i < 3 := hi
    have h2 : i = 0 ∨ i = 1 ∨ i = 2 := by omega
    rcases h2 with rfl | rfl | rfl <;> rfl)
  have h2 : ((w.alloc (.cells #[.int .i64 m, .int .i64 n, sl] tr)).alloc (.cells #[u, v] tm)).rowIs (w.heap.size + 1) tm 2 (K.moF u v) := by
    have := World.rowIs_alloc (w.alloc (.cells #[.int .i64 m, .int .i64 n, sl] tr)) #[u, v] tm (K.moF u v) (fun i hi => by
      have h : i < 2 := hi
      have h2 : i = 0 ∨ i = 1 := by omega
      rcases h2 with rfl | rfl <;> rfl)
    rw [show (w.alloc (.cells #[.int .i64 m, .int .i64 n, sl] tr)).heap.size = w.heap.size + 1 by simp] at this
    exact this
  have h3 := World.rowIs.alloc h1 (.cells #[u, v] tm)
  exact ⟨((Below.refl _ w).alloc (Nat.le_refl _) _).alloc (by simp) _, fun w' hb => ⟨h3.of_block (hb.block _ h3.lt), h2.of_block (hb.block _ h2.lt)⟩⟩
theorem K.take_all {R C : List Int} {bs : List Br} {k : Nat} (h : k < bs.length) : (bs.take (k + 1)).all (K.kp R C) = ((bs.take k).all (K.kp R C) && K.kp R C bs[k]) := by
  rw [List.take_succ_eq_append_getElem h, List.all_append]
  simp
theorem K.all_false {R C : List Int} {bs : List Br} {k : Nat} (h : k < bs.length) (hf : K.kp R C bs[k] = false) : bs.all (K.kp R C) = false := by
  rw [List.all_eq_false]
  exact ⟨_, List.getElem_mem h, by rw [hf]; simp⟩

set_option maxHeartbeats 8000000 in
set_option maxRecDepth 100000 in
theorem verify_any (m n : Int) (a : Option Addr) (c : Nat) (bs : List Br) (a1 : Option Addr) (c1 : Nat) (R : List Int) (a2 : Option Addr) (c2 : Nat) (C : List Int) (w : World) (hm : bs.length ≤ maxLen) (hl1 : R.length ≤ 40) (hl2 : C.length ≤ 40) (hR : RdB w a bs) (h1 : RdI w a1 R) (h2 : RdI w a2 C) :
    Calls Try.prog 29 #[K.rk m n a bs.length c, .agg #[.slice a1 R.length c1, .slice a2 C.length c2]] w fun e w' => e = .returned (.int .i64 (K.ver m n bs R C)) ∧ Below w.heap.size w w' := by
  obtain ⟨hb0, hbx⟩ := K.vf_box w 24 50 m n (.slice a bs.length c) (.slice a1 R.length c1) (.slice a2 C.length c2)
  have HBX := hid hbx
  have HB0 := hid hb0
  have HRB := hid (hR.stays hb0)
  have HR1 := hid (h1.stays2 hb0)
  have HR2 := hid (h2.stays2 hb0)
  have HCK := hid (check_any m n a c bs _ hm (hR.stays hb0))
  clear hb0 hbx hR h1 h2
  by_cases h0 : K.chk m n bs = 0
  case neg =>
    have hne : (K.chk m n bs != 0) = true := by simpa using h0
    have HV : Hid (K.ver m n bs R C = K.chk m n bs) := hid (by unfold K.ver; rw [if_neg h0])
    rw [HV.out]
    unfold K.rk at HCK ⊢
    generalize K.chk m n bs = err at *
    clear h0 HV
    go_enter Try.func29, Try.ntmps29
    go_wp2_with fail
    refine HCK.out.mono ?_
    rintro e w1 ⟨rfl, hb⟩
    have HB1 := hid (HB0.out.trans (hb.mono HB0.out.size))
    clear hb
    go_wp2
    go_ret
    exact ⟨rfl, HB1.out⟩
  case pos =>
    have HV : Hid (K.ver m n bs R C = if (R.length : Int) = m ∧ (C.length : Int) = n then (if K.oob (R ++ C) = true then 4 else if K.same (R ++ C) = true then 20 else if bs.all (K.kp R C) = true then 0 else 13) else 3) := hid (by unfold K.ver; rw [if_pos h0])
    obtain ⟨p, q, rfl, rfl, hok⟩ := K.chk_ok h0
    rw [h0] at HCK
    have HOK := hid hok
    unfold K.rk at HCK ⊢
    generalize K.ver (p : Int) (q : Int) bs R C = ver at *
    clear h0 hok
    by_cases hrl : R.length = p
    case neg =>
      have hd : ((R.length : Int) != (p : Int)) = true := by simp; omega
      have HE : Hid (ver = 3) := hid (by rw [HV.out, if_neg (by omega)])
      clear HV
      go_enter Try.func29, Try.ntmps29
      go_wp2_with fail
      refine HCK.out.mono ?_
      rintro e w1 ⟨rfl, hb⟩
      obtain ⟨hx, hy⟩ := HBX.out w1 hb
      have HB1 := hid (HB0.out.trans (hb.mono HB0.out.size))
      have k0 : w1.cell? ⟨w.heap.size, 0, none⟩ = some (.int .i64 (p : Int)) := hx.cell (i := 0) (by omega)
      have y0 : w1.cell? ⟨w.heap.size + 1, 0, none⟩ = some (.slice a1 R.length c1) := hy.cell (i := 0) (by omega)
      clear hb hx hy
      go_wp2
      go_ret
      exact ⟨ret_int HE.out.symm, HB1.out⟩
    case pos =>
    subst hrl
    have hd : ((R.length : Int) != (R.length : Int)) = false := by simp
    by_cases hcl : C.length = q
    case neg =>
      have hd2 : ((C.length : Int) != (q : Int)) = true := by simp; omega
      have HE : Hid (ver = 3) := hid (by rw [HV.out, if_neg (by omega)])
      clear HV
      go_enter Try.func29, Try.ntmps29
      go_wp2_with fail
      refine HCK.out.mono ?_
      rintro e w1 ⟨rfl, hb⟩
      obtain ⟨hx, hy⟩ := HBX.out w1 hb
      have HB1 := hid (HB0.out.trans (hb.mono HB0.out.size))
      have k0 : w1.cell? ⟨w.heap.size, 0, none⟩ = some (.int .i64 (R.length : Int)) := hx.cell (i := 0) (by omega)
      have k1 : w1.cell? ⟨w.heap.size, 1, none⟩ = some (.int .i64 (q : Int)) := hx.cell (i := 1) (by omega)
      have y0 : w1.cell? ⟨w.heap.size + 1, 0, none⟩ = some (.slice a1 R.length c1) := hy.cell (i := 0) (by omega)
      have y1 : w1.cell? ⟨w.heap.size + 1, 1, none⟩ = some (.slice a2 C.length c2) := hy.cell (i := 1) (by omega)
      clear hb hx hy
      go_wp2
      go_ret
      exact ⟨ret_int HE.out.symm, HB1.out⟩
    case pos =>
    subst hcl
    have hd2 : ((C.length : Int) != (C.length : Int)) = false := by simp
    rw [if_pos ⟨rfl, rfl⟩] at HV
    have hp1 := HOK.out.m1
    have hfw := HOK.out.few
    have hq1 := HOK.out.n1
    obtain ⟨b1, o1, rfl, _⟩ := HR1.out 0 (by omega)
    obtain ⟨b2, o2, rfl, _⟩ := HR2.out 0 (by omega)
    have HLN : Hid ((R ++ C).length = R.length + C.length) := hid List.length_append
    go_enter Try.func29, Try.ntmps29
    go_wp2_with fail
    refine HCK.out.mono ?_
    rintro e w1 ⟨rfl, hb⟩
    obtain ⟨hx, hy⟩ := HBX.out w1 hb
    have HB1 := hid (HB0.out.trans (hb.mono HB0.out.size))
    have HX := hid hx
    have HY := hid hy
    have HRB1 := hid (HRB.out.stays hb)
    have HR11 := hid (HR1.out.stays2 hb)
    have HR21 := hid (HR2.out.stays2 hb)
    have k0 : w1.cell? ⟨w.heap.size, 0, none⟩ = some (.int .i64 (R.length : Int)) := hx.cell (i := 0) (by omega)
    have k1 : w1.cell? ⟨w.heap.size, 1, none⟩ = some (.int .i64 (C.length : Int)) := hx.cell (i := 1) (by omega)
    have y0 : w1.cell? ⟨w.heap.size + 1, 0, none⟩ = some (.slice (some ⟨b1, o1, none⟩) R.length c1) := hy.cell (i := 0) (by omega)
    have y1 : w1.cell? ⟨w.heap.size + 1, 1, none⟩ = some (.slice (some ⟨b2, o2, none⟩) C.length c2) := hy.cell (i := 1) (by omega)
    have hsz : w.heap.size + 1 < w1.heap.size := hy.lt
    have HCC := hid (fun (W : World) (P : Nat) (hW : Below w1.heap.size w1 W) hp1 hp2 => concatI_any P 0 b1 o1 c1 b2 o2 c2 2 R C W (by omega) (by omega) hp1 hp2 (HR11.out.stays2 hW) (HR21.out.stays2 hW))
    clear hb hx hy HCK HBX HB0 HRB HR1 HR2
    go_wp2_with fail
    clear k0 k1 y0 y1
    refine (HCC.out _ w1.heap.size ((Below.refl _ _).alloc (Nat.le_refl _) _) (by rw [World.cell?_alloc_at _ _ _ _ rfl]; rfl) (by rw [World.cell?_alloc_at _ _ _ _ rfl]; rfl)).mono ?_
    rintro e w2 ⟨v2, rfl, hrow, hb2⟩
    have HB12 : Hid (Below w1.heap.size w1 w2) := hid (((Below.refl _ _).alloc (Nat.le_refl _) _).trans (hb2.mono (by simp)))
    obtain ⟨r2, s2, rfl, hrd⟩ := hrow.rd
    have HMN := hid (minI_any r2 s2 (R ++ C) w2 (by rw [HLN.out]; omega) (by rw [HLN.out]; unfold maxLen; omega) hrd)
    have HMX := hid (maxI_any r2 s2 (R ++ C) w2 (by rw [HLN.out]; omega) (by rw [HLN.out]; unfold maxLen; omega) hrd)
    have HEX := hid (fun lo hi h1 h2 h3 h4 => show K.oob (R ++ C) = (decide (lo < -1000000) || decide (1000000 < hi)) ∧ K.same (R ++ C) = (lo == hi) from ⟨K.oob_ext h1 h2 h3 h4, K.same_ext h1 h2 h3 h4⟩)
    generalize K.oob (R ++ C) = ob at *
    generalize K.same (R ++ C) = sm at *
    generalize R ++ C = zs at *
    clear hrow hb2 hrd HCC
    go_wp2_with fail
    refine HMN.out.mono ?_
    rintro e w3 ⟨lo, rfl, hl1', hl2', rfl⟩
    have HLO := hid hl1'
    have HLO2 := hid hl2'
    clear hl1' hl2' HMN
    go_wp2_with fail
    refine HMX.out.mono ?_
    rintro e w3 ⟨hi, rfl, hh1, hh2, rfl⟩
    obtain ⟨eo, es⟩ := HEX.out lo hi HLO.out HLO2.out hh1 hh2
    subst eo
    subst es
    clear hh1 hh2 HMX HEX HLO HLO2
    have HBE := hid (HB1.out.trans (HB12.out.mono HB1.out.size))
    by_cases g1 : lo < -1000000
    · have HE : Hid (ver = 4) := hid (by rw [HV.out, if_pos (by rw [decide_eq_true g1]; rfl)])
      clear HV
      go_wp2
      go_ret
      exact ⟨ret_int HE.out.symm, HBE.out⟩
    by_cases g2 : 1000000 < hi
    · have HE : Hid (ver = 4) := hid (by rw [HV.out, if_pos (by rw [decide_eq_true g2]; simp)])
      clear HV
      go_wp2
      go_ret
      exact ⟨ret_int HE.out.symm, HBE.out⟩
    rw [if_neg (by rw [decide_eq_false g1, decide_eq_false g2]; simp)] at HV
    by_cases g3 : lo = hi
    · subst g3
      have HE : Hid (ver = 20) := hid (by rw [HV.out, if_pos (by simp)])
      clear HV
      go_wp2
      go_ret
      exact ⟨ret_int HE.out.symm, HBE.out⟩
    have d3 : (lo == hi) = false := by simpa using g3
    rw [if_neg (by rw [d3]; simp)] at HV
    have k2 : w3.cell? ⟨w.heap.size, 2, none⟩ = some (.slice a bs.length c) := (HX.out.of_block (HB12.out.block _ HX.out.lt)).cell (i := 2) (by omega)
    have hsz3 : w.heap.size + 1 < w3.heap.size := Nat.lt_of_lt_of_le hsz HB12.out.size
    clear g3
    go_wp2
    clear k2 hsz3 g1 g2
    go_loopw [54] (fun i wr => ∃ k : Nat, k ≤ bs.length ∧ i = .int .i64 k ∧ (bs.take k).all (K.kp R C) = true ∧ Below w3.heap.size w3 wr) (fun i _ => bs.length - (intOf i).toNat)
    case atStart => exact ⟨0, Nat.zero_le _, rfl, rfl, Below.refl _ _⟩
    case round =>
      obtain ⟨k, hk, rfl, hal, hb⟩ := hrel
      have HAL := hid hal
      have HBL := hid (HB12.out.trans (hb.mono HB12.out.size))
      have HBT := hid hb
      have y0 : wr.cell? ⟨w.heap.size + 1, 0, none⟩ = some (.slice (some ⟨b1, o1, none⟩) R.length c1) := (HY.out.of_block (HBL.out.block _ HY.out.lt)).cell (i := 0) (by omega)
      have y1 : wr.cell? ⟨w.heap.size + 1, 1, none⟩ = some (.slice (some ⟨b2, o2, none⟩) C.length c2) := (HY.out.of_block (HBL.out.block _ HY.out.lt)).cell (i := 1) (by omega)
      have hszr : w.heap.size + 1 < wr.heap.size := Nat.lt_of_lt_of_le hsz HBL.out.size
      clear hal hb
      by_cases hlt : k < bs.length
      · obtain ⟨b, off, rfl, z1, z2, z3⟩ := (HRB1.out.stays HBL.out) k hlt
        have HTK := hid (K.take_all (R := R) (C := C) hlt)
        have HAF := hid (fun h => K.all_false (R := R) (C := C) hlt h)
        have hin := HOK.out.inb _ (List.getElem_mem hlt)
        generalize bs[k] = br at *
        obtain ⟨x, y, z⟩ := br
        obtain ⟨g1, g2, g3, g4⟩ := hin
        simp only at g1 g2 g3 g4 z1 z2 z3
        obtain ⟨i, rfl⟩ : ∃ i : Nat, x = (i : Int) := ⟨x.toNat, by omega⟩
        obtain ⟨j, rfl⟩ : ∃ j : Nat, y = (j : Int) := ⟨y.toNat, by omega⟩
        have hix : (0 : Int) ≤ (k : Int) ∧ (k : Int) < (bs.length : Int) := by omega
        have HKP := hid (keeps_any (some ⟨b1, o1, none⟩) c1 (some ⟨b2, o2, none⟩) c2 R C i j z (wr.alloc (.cells #[.int .i64 (i : Int), .int .i64 (j : Int), .int .i64 z] 63)) (by omega) (by omega) ((HR11.out.stays2 HBL.out).stays2 ((Below.refl _ _).alloc (Nat.le_refl _) _)) ((HR21.out.stays2 HBL.out).stays2 ((Below.refl _ _).alloc (Nat.le_refl _) _)))
        have HBA := hid (HBT.out.alloc HBT.out.size (.cells #[.int .i64 (i : Int), .int .i64 (j : Int), .int .i64 z] 63))
        clear g1 g2 g3 g4
        cases hkp : K.kp R C ((i : Int), (j : Int), z) with
        | true =>
          rw [hkp] at HKP
          have HN : Hid ((bs.take (k + 1)).all (K.kp R C) = true) := hid (by rw [HTK.out, HAL.out, hkp]; rfl)
          clear hkp
          go_wp2_with fail
          refine HKP.out.mono ?_
          rintro e w5 ⟨rfl, hb5⟩
          have HB5 := hid (HBA.out.trans (hb5.mono HBA.out.size))
          clear hb5
          go_wp2
          go_roundw
          case rel => exact ⟨k + 1, by omega, by go_num, HN.out, HB5.out⟩
          case measure => simp [intOf]; omega
        | false =>
          rw [hkp] at HKP
          have HN := hid (HAF.out hkp)
          clear hkp
          have HE : Hid (ver = 13) := hid (by rw [HV.out, if_neg (by rw [HN.out]; simp)])
          go_wp2_with fail
          refine HKP.out.mono ?_
          rintro e w5 ⟨rfl, hb5⟩
          have HB5 := hid (HBA.out.trans (hb5.mono HBA.out.size))
          have HBF := hid (HBE.out.trans (HB5.out.mono HBE.out.size))
          clear hb5
          go_wp2
          go_ret
          exact ⟨ret_int HE.out.symm, HBF.out⟩
      · have hke : bs.length = k := by omega
        subst hke
        have HN : Hid (bs.all (K.kp R C) = true) := hid (by have := HAL.out; rwa [List.take_length] at this)
        have HE : Hid (ver = 0) := hid (by rw [HV.out, if_pos HN.out])
        have HBF := hid (HBE.out.trans (HBT.out.mono HBE.out.size))
        go_wp2
        go_ret
        exact ⟨ret_int HE.out.symm, HBF.out⟩
end Go.Proofs.Ytmbfpekcfeeifaa
