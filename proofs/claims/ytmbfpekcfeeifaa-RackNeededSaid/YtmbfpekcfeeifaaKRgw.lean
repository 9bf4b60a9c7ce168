/- The walks of equal and keeps, which look at motions. -/
import Derived.Test.YtmbfpekcfeeifaaKRgm
import Derived.Test.YtmbfpekcfeeifaaKRVer
import Derived.Test.YtmbfpekcfeeifaaKMade
namespace Go.Proofs.Ytmbfpekcfeeifaa
open Go.RowKit

set_option maxHeartbeats 2000000 in
theorem equal_any (a : Option Addr) (c : Nat) (zs : List Int) (w : World) (hm : zs.length ≤ maxLen) (hx : RdI w a zs) :
    Calls Try.prog 43 #[.slice a zs.length c] w fun e w' => e = .returned (.bool (K.same zs)) ∧ w' = w := by
  unfold maxLen at hm
  have HX := hid hx
  have HE := hid (K.smk_end zs)
  have HS := hid (fun k (h : k < zs.length) => K.smk_succ h)
  have HF : Hid (∀ k, k < zs.length → K.smk zs (k + 1) = false → K.same zs = false) := hid (fun k hk h => by
    unfold K.smk at h
    rw [List.all_eq_false] at h
    obtain ⟨x, hx, hn⟩ := h
    unfold K.same
    rw [List.all_eq_false]
    exact ⟨x, List.mem_of_mem_take hx, hn⟩)
  clear hx
  go_enter Try.func43, Try.ntmps43
  go_wp2
  go_loop [7] (fun i => ∃ k : Nat, k ≤ zs.length ∧ i = .int .i64 k ∧ K.smk zs k = true) (fun i => zs.length - (intOf i).toNat)
  case atStart => exact ⟨0, Nat.zero_le _, rfl, rfl⟩
  case round =>
    obtain ⟨k, hk, rfl, hs⟩ := hrel
    have HSK := hid hs
    clear hs
    by_cases hlt : k < zs.length
    · obtain ⟨b, off, rfl, ck⟩ := HX.out k hlt
      obtain ⟨b', off', he, cz⟩ := HX.out 0 (by omega)
      simp only [Option.some.injEq, Addr.mk.injEq, and_true] at he
      obtain ⟨rfl, rfl⟩ := he
      have hz0e : zs[0] = zs.getD 0 0 := by rw [List.getD_eq_getElem?_getD, List.getElem?_eq_getElem (by omega)]; rfl
      rw [hz0e] at cz
      simp only [Nat.add_zero] at cz
      have HSM := hid (HS.out k hlt)
      have HFF := hid (HF.out k hlt)
      generalize zs[k] = x at *
      generalize zs.getD 0 0 = z at *
      have hix : (0 : Int) ≤ (k : Int) ∧ (k : Int) < (zs.length : Int) := by omega
      have hi0 : 0 < zs.length := by omega
      clear hz0e
      by_cases e : x = z
      · subst e
        have HN : Hid (K.smk zs (k + 1) = true) := hid (by rw [HSM.out, HSK.out]; simp)
        go_wp2
        go_round
        case rel => exact ⟨k + 1, by omega, by go_num, HN.out⟩
        case measure => simp [intOf]; omega
      · have d : (x != z) = true := by simpa using e
        have HN : Hid (K.same zs = false) := hid (HFF.out (by rw [HSM.out, HSK.out]; simpa using e))
        clear e
        go_wp2
        go_ret
        exact ⟨ret_bool HN.out.symm, rfl⟩
    · have hke : k = zs.length := by omega
      subst hke
      have HN : Hid (K.same zs = true) := hid (by rw [← HE.out]; exact HSK.out)
      go_wp2
      go_ret
      exact ⟨ret_bool HN.out.symm, rfl⟩

theorem K.kla_succ (m : Nat) (l : List Int) (bs : List Br) (but : Int) (j : Nat) : K.kla m l bs but (j + 1) = (K.kla m l bs but j && (decide ((j : Int) = but) || K.kl m l (bs.getD j (0, 0, 0)))) := rfl
theorem K.kla_false {m : Nat} {l : List Int} {bs : List Br} {but : Int} {k : Nat} (hk : k < bs.length) (h : K.kla m l bs but (k + 1) = false) : K.kla m l bs but bs.length = false := by
  cases hh : K.kla m l bs but bs.length with
  | false => rfl
  | true =>
    have := (K.kla_iff _).1 hh
    rw [(K.kla_iff (k + 1)).2 (fun i hi => this i (by omega))] at h
    cases h
set_option maxHeartbeats 8000000 in
set_option maxRecDepth 100000 in
theorem keepsL_any (m n : Nat) (a : Option Addr) (c : Nat) (bs : List Br) (a1 : Option Addr) (c1 : Nat) (l : List Int) (but : Int) (w : World) (hm : bs.length ≤ 24) (hR : RdB w a bs) (hin : ∀ b ∈ bs, K.InB m n b) (hk3 : ∀ b ∈ bs, b.2.2 = 0 ∨ b.2.2 = 1 ∨ b.2.2 = 2) (h6 : m ≤ 6) (h66 : n ≤ 6) (hl : l.length = m + n) (h1 : RdI w a1 l) :
    Calls Try.prog 44 #[K.rk m n a bs.length c, .slice a1 l.length c1, .int .i64 but] w fun e w' => e = .returned (.bool (K.kla m l bs but bs.length)) ∧ Below w.heap.size w w' := by
  obtain ⟨HB0, hbx⟩ := box_rack w m n a c bs hR
  have HBX := hid hbx
  have HIN := hid hin
  have HK3 := hid hk3
  have HR1 := hid (h1.stays2 HB0.out)
  have HKF0 := hid (fun k (hk : k < bs.length) (h : K.kla m l bs but (k + 1) = false) => K.kla_false hk h)
  obtain ⟨k0, k1, k2, _, _, hsz⟩ := hbx _ (Below.refl _ _)
  generalize hfin : K.kla m l bs but bs.length = fin at *
  have HFIN := hid hfin
  clear hbx hin hk3 h1 hR hfin
  unfold K.rk
  go_enter Try.func44, Try.ntmps44
  go_wp2
  clear k0 k1 k2 hsz
  generalize w.alloc (.cells #[.int .i64 (m : Int), .int .i64 (n : Int), .slice a bs.length c] 24) = w1 at *
  go_loopw [14] (fun i wr => ∃ k : Nat, k ≤ bs.length ∧ i = .int .i64 k ∧ K.kla m l bs but k = true ∧ Below w1.heap.size w1 wr) (fun i _ => bs.length - (intOf i).toNat)
  case atStart => exact ⟨0, Nat.zero_le _, rfl, rfl, Below.refl _ _⟩
  case round =>
    obtain ⟨k, hk, rfl, hal, hb⟩ := hrel
    have HAL := hid hal
    obtain ⟨k0, k1, k2, hrb, _, hsz⟩ := HBX.out wr hb
    have HBT := hid hb
    clear hal hb
    by_cases hlt : k < bs.length
    · obtain ⟨b, off, rfl, z1, z2, z3⟩ := hrb k hlt
      have hib := HIN.out _ (List.getElem_mem hlt)
      have hkb := HK3.out _ (List.getElem_mem hlt)
      have HKS : Hid (K.kla m l bs but (k + 1) = (K.kla m l bs but k && (decide ((k : Int) = but) || K.kl m l bs[k]))) := hid (by
        rw [K.kla_succ, List.getD_eq_getElem?_getD, List.getElem?_eq_getElem hlt]; rfl)
      have HKF := hid (HKF0.out k hlt)
      generalize bs[k] = br at *
      obtain ⟨x, y, z⟩ := br
      obtain ⟨g1, g2, g3, g4⟩ := hib
      simp only at g1 g2 g3 g4 z1 z2 z3 hkb
      obtain ⟨i, rfl⟩ : ∃ i : Nat, x = (i : Int) := ⟨x.toNat, by omega⟩
      obtain ⟨j, rfl⟩ : ∃ j : Nat, y = (j : Int) := ⟨y.toNat, by omega⟩
      have hii : i < l.length := by omega
      have hjj : m + j < l.length := by omega
      have hix : (0 : Int) ≤ (k : Int) ∧ (k : Int) < (bs.length : Int) := by omega
      have ii : (0 : Int) ≤ (i : Int) ∧ (i : Int) < (l.length : Int) := by omega
      have hws : IntKind.i64.wrap ((m : Int) + (j : Int)) = ((m + j : Nat) : Int) := by rw [IntWalk.i64_in _ (by omega)]; rfl
      have HKL : Hid (K.kl m l ((i : Int), (j : Int), z) = if z = 1 then decide (l[i] ≤ l[m + j]) else if z = 2 then decide (l[m + j] ≤ l[i]) else decide (l[i] = l[m + j])) := hid (by
        unfold K.kl
        simp [List.getD_eq_getElem?_getD, hii, hjj])
      have HBA := hid (HBT.out.alloc HBT.out.size (.cells #[.int .i64 (i : Int), .int .i64 (j : Int), .int .i64 z] 63))
      have hbA : Below wr.heap.size wr (wr.alloc (.cells #[.int .i64 (i : Int), .int .i64 (j : Int), .int .i64 z] 63)) := (Below.refl wr.heap.size wr).alloc (Nat.le_refl _) _
      obtain ⟨b1, o1, rfl, q1⟩ := ((HR1.out.stays2 HBT.out).stays2 hbA) i hii
      obtain ⟨b1', o1', he1, q2⟩ := ((HR1.out.stays2 HBT.out).stays2 hbA) (m + j) hjj
      simp only [Option.some.injEq, Addr.mk.injEq, and_true] at he1
      obtain ⟨rfl, rfl⟩ := he1
      obtain ⟨r, hr⟩ : ∃ r, l[i] = r := ⟨_, rfl⟩
      obtain ⟨s, hs⟩ : ∃ r, l[m + j] = r := ⟨_, rfl⟩
      rw [hr] at q1 HKL
      rw [hs] at q2 HKL
      generalize hmj : m + j = M at *
      have jj : (0 : Int) ≤ (M : Int) ∧ (M : Int) < (l.length : Int) := by omega
      clear g1 g2 g3 g4 hr hs hbA hmj hrb
      by_cases e0 : (k : Int) = but
      · have hd := decide_eq_true e0
        have HD := hid hd
        have hbe : ((k : Int) == but) = true := by simpa using e0
        clear hd e0
        have HN : Hid (K.kla m l bs but (k + 1) = true) := hid (by rw [HKS.out, HAL.out, HD.out]; rfl)
        go_wp2
        go_quiet (fail)
        have HBQ := hid (below_drewN HBA.out nq)
        go_wp2
        go_roundw
        case rel => exact ⟨k + 1, by omega, by go_num, HN.out, HBQ.out⟩
        case measure => simp [intOf]; omega
      · have hd := decide_eq_false e0
        have HD := hid hd
        have hbe : ((k : Int) == but) = false := by simpa using e0
        clear hd e0
        rcases hkb with rfl | rfl | rfl
        · rw [if_neg (by decide), if_neg (by decide)] at HKL
          by_cases e : r = s
          · have hde := decide_eq_true e
            have HDE := hid hde
            have hrs : (r == s) = true := by simpa using e
            clear hde e
            have HN : Hid (K.kla m l bs but (k + 1) = true) := hid (by rw [HKS.out, HAL.out, HD.out, HKL.out, HDE.out]; rfl)
            go_wp2
            go_quiet (fail)
            have HBQ := hid (below_drewN HBA.out nq)
            go_wp2
            go_roundw
            case rel => exact ⟨k + 1, by omega, by go_num, HN.out, HBQ.out⟩
            case measure => simp [intOf]; omega
          · have hde := decide_eq_false e
            have HDE := hid hde
            have hrs : (r == s) = false := by simpa using e
            clear hde e
            have HE := hid (HKF.out (by rw [HKS.out, HAL.out, HD.out, HKL.out, HDE.out]; rfl))
            go_wp2
            go_quiet (fail)
            have HBQ := hid (HB0.out.trans ((below_drewN HBA.out nq).mono HB0.out.size))
            go_wp2
            go_ret
            exact ⟨ret_bool HE.out.symm, HBQ.out⟩
        · rw [if_pos rfl] at HKL
          by_cases e : r ≤ s
          · have hde := decide_eq_true e
            have HDE := hid hde
            clear hde
            have HN : Hid (K.kla m l bs but (k + 1) = true) := hid (by rw [HKS.out, HAL.out, HD.out, HKL.out, HDE.out]; rfl)
            go_wp2
            go_quiet (fail)
            have HBQ := hid (below_drewN HBA.out nq)
            go_wp2
            go_roundw
            case rel => exact ⟨k + 1, by omega, by go_num, HN.out, HBQ.out⟩
            case measure => simp [intOf]; omega
          · have hde := decide_eq_false e
            have HDE := hid hde
            have hrs : (r == s) = false := by rw [beq_eq_false_iff_ne]; omega
            clear hde
            have HE := hid (HKF.out (by rw [HKS.out, HAL.out, HD.out, HKL.out, HDE.out]; rfl))
            go_wp2
            go_quiet (fail)
            have HBQ := hid (HB0.out.trans ((below_drewN HBA.out nq).mono HB0.out.size))
            go_wp2
            go_ret
            exact ⟨ret_bool HE.out.symm, HBQ.out⟩
        · rw [if_neg (by decide), if_pos rfl] at HKL
          by_cases e : s ≤ r
          · have hde := decide_eq_true e
            have HDE := hid hde
            clear hde
            have HN : Hid (K.kla m l bs but (k + 1) = true) := hid (by rw [HKS.out, HAL.out, HD.out, HKL.out, HDE.out]; rfl)
            go_wp2
            go_quiet (fail)
            have HBQ := hid (below_drewN HBA.out nq)
            go_wp2
            go_roundw
            case rel => exact ⟨k + 1, by omega, by go_num, HN.out, HBQ.out⟩
            case measure => simp [intOf]; omega
          · have hde := decide_eq_false e
            have HDE := hid hde
            have hrs : (r == s) = false := by rw [beq_eq_false_iff_ne]; omega
            clear hde
            have HE := hid (HKF.out (by rw [HKS.out, HAL.out, HD.out, HKL.out, HDE.out]; rfl))
            go_wp2
            go_quiet (fail)
            have HBQ := hid (HB0.out.trans ((below_drewN HBA.out nq).mono HB0.out.size))
            go_wp2
            go_ret
            exact ⟨ret_bool HE.out.symm, HBQ.out⟩
    · have hke : k = bs.length := by omega
      subst hke
      have HE : Hid (fin = true) := hid (by rw [← HFIN.out]; exact HAL.out)
      have HBF := hid (HB0.out.trans (HBT.out.mono HB0.out.size))
      go_wp2
      go_ret
      exact ⟨ret_bool HE.out.symm, HBF.out⟩
end Go.Proofs.Ytmbfpekcfeeifaa
