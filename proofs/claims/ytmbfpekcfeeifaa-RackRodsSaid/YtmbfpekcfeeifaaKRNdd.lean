/- Package tuscheref05: the walk of Needed. -/
import Derived.Test.YtmbfpekcfeeifaaKRWo
namespace Go.Proofs.Ytmbfpekcfeeifaa
open Go.RowKit

theorem K.chkL_zero {m n : Int} : ∀ {bs : List Br}, K.chkL m n bs = 0 ↔ ∀ b ∈ bs, (K.inn b.1 m && K.inn b.2.1 n) = true ∧ K.kind b.2.2 = true
  | [] => by simp [K.chkL]
  | b :: bs => by
    have ih := K.chkL_zero (m := m) (n := n) (bs := bs)
    unfold K.chkL
    constructor
    · intro h
      split at h
      case isFalse => omega
      rename_i h1
      split at h
      case isFalse => omega
      rename_i h2
      intro c hc
      rcases List.mem_cons.1 hc with rfl | hc
      · exact ⟨h1, h2⟩
      · exact ih.1 h c hc
    · intro h
      have h0 := h b List.mem_cons_self
      rw [if_pos h0.1, if_pos h0.2]
      exact ih.2 fun c hc => h c (List.mem_cons_of_mem _ hc)
theorem K.chk_wo {m n : Int} {bs : List Br} {k : Nat} (h : K.chk m n bs = 0) (hk : k < bs.length) : K.chk m n (K.wo bs k) = 0 := by
  have hl := K.wo_len hk
  unfold K.chk at h ⊢
  split at h
  case isFalse => omega
  rename_i h1
  split at h
  case isFalse => omega
  rename_i h2
  rw [if_pos h1, if_pos (by omega)]
  exact K.chkL_zero.2 fun b hb => K.chkL_zero.1 h b (K.wo_sub hb)

set_option maxHeartbeats 2000000 in
set_option maxRecDepth 100000 in
theorem refNeeded_any (m n : Int) (a : Option Addr) (c : Nat) (bs : List Br) (w : World) (hc1 : bs.length ≤ c) (hc2 : c ≤ maxLen) (hR : RdB w a bs) :
    Calls Try.prog 22 #[K.rk m n a bs.length c] w (K.LsE (K.ndl m n bs) (K.nde m n bs) w) := by
  have hm : bs.length ≤ maxLen := by omega
  obtain ⟨HB0, hbx⟩ := box_rackR w m n a c bs hR
  have HBX := hid hbx
  have HCK := hid (refStiff_any m n a c bs _ hm (hR.stays HB0.out))
  clear hbx hR
  by_cases h0 : K.chk m n bs = 0
  · have HD : Hid (K.ndl m n bs = (if K.stf m n bs = true then K.nd m.toNat n.toNat bs bs.length else []) ∧ K.nde m n bs = (if K.stf m n bs = true then 0 else 22)) := hid (by unfold K.ndl K.nde; rw [if_pos h0, if_pos h0]; exact ⟨rfl, rfl⟩)
    obtain ⟨p, q, rfl, rfl, hok⟩ := K.chk_ok h0
    have hfew := hok.few
    have HST := hid (fun i (hi : i < bs.length) => show K.stf p q (K.wo bs i) = decide ((K.gsv p q (K.wo bs i)).length = 1) from by
      unfold K.stf; rw [if_pos (K.chk_wo h0 hi)]; simp)
    have HWO := hid (fun (W : World) i (hi : i < bs.length) hr => refWithout_any p q a c i bs W hc1 hc2 (by omega) hi hr)
    have HSK := hid (fun (W : World) i (hi : i < bs.length) r cr hr => refStiff_any p q r cr (K.wo bs i) W (by have := K.wo_len hi; omega) hr)
    rw [HD.out.1, HD.out.2]
    rw [h0] at HCK
    clear h0 HD hok
    simp only [Int.toNat_natCast]
    unfold K.rk at HCK HWO HSK ⊢
    unfold maxLen at hc2 hm
    cases hst : K.stf p q bs with
    | false =>
      rw [hst] at HCK
      simp only [Bool.false_eq_true, if_false]
      clear hst
      go_enter Try.func22, Try.ntmps22
      go_wp2_with fail
      refine HCK.out.mono ?_
      rintro e w1 ⟨rfl, hb⟩
      have HBW := hid (HB0.out.trans (hb.mono HB0.out.size))
      clear hb
      go_wp2
      go_ret2
      exact ⟨_, _, rfl, (fun k hk => absurd hk (Nat.not_lt_zero _)), HBW.out⟩
    | true =>
      rw [hst] at HCK
      simp only [if_true]
      clear hst
      go_enter Try.func22, Try.ntmps22
      go_wp2_with fail
      refine HCK.out.mono ?_
      rintro e w2 ⟨rfl, hb⟩
      obtain ⟨k0, k1, k2, _, hbw, hsz⟩ := HBX.out w2 hb
      have HB2 := hid hbw
      have HBY := hid hb
      clear hb hbw
      go_wp2
      go_loopw [6, 7] (fun v s wr => ∃ k : Nat, k ≤ bs.length ∧ s = .int .i64 k ∧ RowI wr w2.heap.size v (K.nd p q bs k) ∧ Below w2.heap.size w2 wr) (fun _ s _ => bs.length - (intOf s).toNat)
      case atStart => exact ⟨0, Nat.zero_le _, rfl, World.ownsRow_nil _ _ _ _, Below.refl _ _⟩
      case round =>
        obtain ⟨k, hk, rfl, hrow, hb⟩ := hrel
        have HROW := hid hrow
        have HBL := hid hb
        obtain ⟨k0, k1, k2, hr, hbw, hsz⟩ := HBX.out wr (HBY.out.trans (hb.mono HBY.out.size))
        have HR := hid hr
        clear hrow hb hbw hr
        by_cases hlt : k < bs.length
        · obtain ⟨i0, hi, hz0, hz1, hz2⟩ := info_parts (show (Try.prog.info? 3).map (fun i => (i.zero, i.size, i.bytes)) = some (some (.int .i64 0), 1, 8) by kernel_rfl)
          have HNX : Hid (K.nd p q bs (k + 1) = if (K.gsv p q (K.wo bs k)).length = 1 then K.nd p q bs k else K.nd p q bs k ++ [(k : Int)]) := hid rfl
          have HNL := hid (K.nd_len p q bs k)
          have HWK := hid (HWO.out wr k hlt HR.out)
          have HSS := hid (fun W r cr hr => HSK.out W k hlt r cr hr)
          rw [HST.out k hlt] at HSS
          unfold K.Gvn at HWK
          unfold K.rk at HWK
          generalize (K.gsv p q (K.wo bs k)).length = L at *
          generalize K.wo bs k = wo at *
          go_wp2_with fail
          refine HWK.out.mono ?_
          rintro e w4 ⟨a4, c4, rfl, _, _, hr4, hb4⟩
          have HR4 := hid hr4
          have HB4 := hid hb4
          clear hr4 hb4
          go_wp2_with fail
          refine (HSS.out _ _ _ HR4.out).mono ?_
          rintro e w8 ⟨rfl, hb8⟩
          have HB8 := hid (HB4.out.trans (hb8.mono HB4.out.size))
          have HO8 := hid (ownsRow_stays (show wr.ownsRow w2.heap.size 3 1 u6 (K.nd p q bs k).length ((K.nd p q bs k).map (Value.int .i64)) from HROW.out) HB8.out)
          have HB9 := hid (HBL.out.trans (HB8.out.mono HBL.out.size))
          clear hb8 HR4 HB4 HWK HSS
          generalize K.chk p q wo = err at *
          by_cases hL : L = 1
          · have hd : decide (L = 1) = true := decide_eq_true hL
            rw [if_pos hL] at HNX
            clear hL
            go_wp2
            go_roundw
            case rel => exact ⟨k + 1, by omega, by go_num, by rw [HNX.out]; exact HO8.out, HB9.out⟩
            case measure => simp [intOf]; omega
          · have hd : decide (L = 1) = false := decide_eq_false hL
            rw [if_neg hL] at HNX
            clear hL
            have hnl := HNL.out
            have HM1 : Hid ((K.nd p q bs k).length + 1 ≤ maxLen) := hid (by unfold maxLen; omega)
            have HM2 : Hid (((K.nd p q bs k).length + 1) * 8 ≤ 140737488355328) := hid (by omega)
            have HSZ : Hid (w2.heap.size ≤ w8.heap.size) := hid HB9.out.size
            clear hnl
            go_wp2_with (at_builtin; refine wpList_append_own _ rfl _ _ 40 rfl w2.heap.size 3 i0 (.int .i64 0) 1 8 Try.underlying40 hi hz0 hz1 hz2 rfl (by decide) _ _ _ rfl (ownsRow_stays HO8.out ((Below.refl _ _).alloc (Nat.le_refl _) _)) ⟨w8.heap.size, 0, none⟩ 1 1 [.int .i64 (k : Int)] rfl rfl ?c1 ?c2 HM1.out HM2.out ?c5 ?_)
            case c1 =>
              intro j u hj
              match j, hj with
              | 0, hj => simp at hj; subst hj; simp [Addr.add]
            case c2 => intro u hu; simp at hu; subst hu; rfl
            case c5 => exact Nat.le_trans HSZ.out (by simp)
            intro v' w9 hown' hgrow _
            have HBZ9 := hid (Below.grown (HB9.out.alloc HB9.out.size (.cells #[.int .i64 (k : Int)] 3)) hgrow (by simp; have := HB9.out.size; omega) (fun q hq => (World.ownsRow.lt HO8.out q hq).1))
            have HO9 := hid hown'
            clear hown' hgrow
            go_wp2
            go_roundw
            case rel => exact ⟨k + 1, by omega, by go_num, by
              rw [HNX.out]
              unfold RowI
              rw [List.length_append, List.map_append]
              exact HO9.out, HBZ9.out⟩
            case measure => simp [intOf]; omega
        · have hke : k = bs.length := by omega
          subst hke
          obtain ⟨ra, rc, rfl, hrd⟩ := HROW.out.rd
          have HRD := hid hrd
          have HBE := hid (HB2.out.trans (HBL.out.mono HB2.out.size))
          clear hrd HROW HR
          go_wp2
          go_ret2
          exact ⟨ra, rc, rfl, HRD.out, HBE.out⟩
  · have hne : (K.chk m n bs != 0) = true := by simpa using h0
    have heq : (K.chk m n bs == 0) = false := by simpa using h0
    have HD : Hid (K.ndl m n bs = [] ∧ K.nde m n bs = K.chk m n bs) := hid (by unfold K.ndl K.nde; rw [if_neg h0, if_neg h0]; exact ⟨rfl, rfl⟩)
    rw [HD.out.1, HD.out.2]
    clear HD
    generalize K.stf m n bs = st at *
    generalize K.chk m n bs = err at *
    clear hm
    have hd : decide (err = 0) = false := decide_eq_false h0
    clear h0
    unfold K.rk at HCK ⊢
    go_enter Try.func22, Try.ntmps22
    go_wp2_with fail
    refine HCK.out.mono ?_
    rintro e w1 ⟨rfl, hb⟩
    have HBW := hid (HB0.out.trans (hb.mono HB0.out.size))
    clear hb
    go_wp2
    go_ret2
    exact ⟨_, _, rfl, (fun k hk => absurd hk (Nat.not_lt_zero _)), HBW.out⟩
end Go.Proofs.Ytmbfpekcfeeifaa
