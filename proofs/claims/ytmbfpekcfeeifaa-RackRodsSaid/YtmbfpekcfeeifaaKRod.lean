/- Package rack: the walks of checkRods and Freedom. -/
import Derived.Test.YtmbfpekcfeeifaaKStiffs
namespace Go.Proofs.Ytmbfpekcfeeifaa
open Go.RowKit

/-- The error of the first brace that is no rod. -/
def K.rodL : List Br → Int
  | [] => 0
  | b :: bs => if b.2.2 = 0 then K.rodL bs else 10
/-- The error of a rack that is to have only rods. -/
def K.chr (m n : Int) (bs : List Br) : Int := if K.chk m n bs = 0 then K.rodL bs else K.chk m n bs
/-- How many rods are missing. -/
noncomputable def K.fre (m n : Int) (bs : List Br) : Int := if K.chr m n bs = 0 then ((K.gsv m.toNat n.toNat bs).length : Int) - 1 else 0
theorem K.rodL_drop {bs : List Br} {k : Nat} (h : k < bs.length) : K.rodL (bs.drop k) = if bs[k].2.2 = 0 then K.rodL (bs.drop (k + 1)) else 10 := by
  rw [List.drop_eq_getElem_cons h, K.rodL]
theorem K.rodL_zero : ∀ {bs : List Br}, K.rodL bs = 0 ↔ ∀ b ∈ bs, b.2.2 = 0
  | [] => by simp [K.rodL]
  | b :: bs => by
    have ih := K.rodL_zero (bs := bs)
    unfold K.rodL
    constructor
    · intro h
      split at h
      case isFalse => omega
      rename_i h1
      intro c hc
      rcases List.mem_cons.1 hc with rfl | hc
      · exact h1
      · exact ih.1 h c hc
    · intro h
      rw [if_pos (h b List.mem_cons_self)]
      exact ih.2 fun c hc => h c (List.mem_cons_of_mem _ hc)
theorem K.chr_zero {m n : Int} {bs : List Br} (h : K.chr m n bs = 0) : K.chk m n bs = 0 ∧ ∀ b ∈ bs, b.2.2 = 0 := by
  unfold K.chr at h
  split at h
  case isFalse h1 => exact absurd h h1
  rename_i h1
  exact ⟨h1, K.rodL_zero.1 h⟩

set_option maxHeartbeats 2000000 in
set_option maxRecDepth 100000 in
theorem checkRods_any (m n : Int) (a : Option Addr) (c : Nat) (bs : List Br) (w : World) (hm : bs.length ≤ maxLen) (hR : RdB w a bs) :
    Calls Try.prog 69 #[K.rk m n a bs.length c] w fun e w' => e = .returned (.int .i64 (K.chr m n bs)) ∧ Below w.heap.size w w' := by
  obtain ⟨HB0, hbx⟩ := box_rack w m n a c bs hR
  have HBX := hid hbx
  have HCK := hid (check_any m n a c bs _ hm (hR.stays HB0.out))
  clear hbx hR
  by_cases h0 : K.chk m n bs = 0
  · have HRS : Hid (K.chr m n bs = K.rodL (bs.drop 0)) := hid (by unfold K.chr; rw [if_pos h0, List.drop_zero])
    rw [h0] at HCK
    unfold maxLen at hm
    clear h0
    unfold K.rk at HCK ⊢
    go_enter Try.func69, Try.ntmps69
    go_wp2_with fail
    refine HCK.out.mono ?_
    rintro e w1 ⟨rfl, hb⟩
    obtain ⟨k0, k1, k2, hr, hbw, hsz⟩ := HBX.out w1 hb
    have HR1 := hid hr
    have HBW := hid hbw
    clear hb hr hbw
    go_wp2
    clear k0 k1 k2
    go_loopw [14] (fun i wr => ∃ k : Nat, k ≤ bs.length ∧ i = .int .i64 k ∧ K.chr m n bs = K.rodL (bs.drop k) ∧ Below w1.heap.size w1 wr) (fun i _ => bs.length - (intOf i).toNat)
    case atStart => exact ⟨0, Nat.zero_le _, rfl, HRS.out, Below.refl _ _⟩
    case round =>
      clear HRS
      obtain ⟨k, hk, rfl, hrs, hq⟩ := hrel
      have HRS := hid hrs
      have HQ := hid hq
      clear hrs hq
      by_cases hlt : k < bs.length
      · obtain ⟨b, off, rfl, c1, c2, c3⟩ := (HR1.out.stays HQ.out) k hlt
        have HD := hid (K.rodL_drop hlt)
        have HQ2 := hid (HQ.out.alloc HQ.out.size (.cells #[.int .i64 bs[k].1, .int .i64 bs[k].2.1, .int .i64 bs[k].2.2] 63))
        generalize bs[k] = br at *
        obtain ⟨x, y, z⟩ := br
        simp only at c1 c2 c3 HD HQ2
        have hix : (0 : Int) ≤ (k : Int) ∧ (k : Int) < (bs.length : Int) := by omega
        by_cases hz : z = 0
        · have HR2 : Hid (K.chr m n bs = K.rodL (bs.drop (k + 1))) := hid (by rw [HRS.out, HD.out, if_pos hz])
          subst hz
          go_wp2
          go_roundw
          case rel => exact ⟨k + 1, by omega, by go_num, HR2.out, HQ2.out⟩
          case measure => simp [intOf]; omega
        · have HR2 : Hid (K.chr m n bs = 10) := hid (by rw [HRS.out, HD.out, if_neg hz])
          have z0 : (z != 0) = true := by simpa using hz
          clear hz
          go_wp2
          go_ret
          exact ⟨ret_int HR2.out.symm, HBW.out.trans (HQ2.out.mono HBW.out.size)⟩
      · have hke : k = bs.length := by omega
        subst hke
        have HR2 : Hid (K.chr m n bs = 0) := hid (by rw [HRS.out, List.drop_length]; rfl)
        go_wp2
        go_ret
        exact ⟨ret_int HR2.out.symm, HBW.out.trans (HQ.out.mono HBW.out.size)⟩
  · have hne : (K.chk m n bs != 0) = true := by simpa using h0
    have HRS : Hid (K.chr m n bs = K.chk m n bs) := hid (by unfold K.chr; rw [if_neg h0])
    rw [HRS.out]
    generalize K.chk m n bs = err at *
    clear h0 hm
    unfold K.rk at HCK ⊢
    go_enter Try.func69, Try.ntmps69
    go_wp2_with fail
    refine HCK.out.mono ?_
    rintro e w1 ⟨rfl, hb⟩
    have HBW := hid (HB0.out.trans (hb.mono HB0.out.size))
    clear hb
    go_wp2
    go_ret
    exact ⟨rfl, HBW.out⟩

set_option maxHeartbeats 2000000 in
set_option maxRecDepth 100000 in
theorem freedom_any (m n : Int) (a : Option Addr) (c : Nat) (bs : List Br) (w : World) (hm : bs.length ≤ maxLen) (hR : RdB w a bs) :
    Calls Try.prog 31 #[K.rk m n a bs.length c] w fun e w' => e = .returned (.tuple #[.int .i64 (K.fre m n bs), .int .i64 (K.chr m n bs)]) ∧ Below w.heap.size w w' := by
  obtain ⟨HB0, hbx⟩ := box_rack w m n a c bs hR
  have HBX := hid hbx
  have HCK := hid (checkRods_any m n a c bs _ hm (hR.stays HB0.out))
  clear hbx hR
  by_cases h0 : K.chr m n bs = 0
  · obtain ⟨p, q, rfl, rfl, hok⟩ := K.chk_ok (K.chr_zero h0).1
    have HRS : Hid (K.fre p q bs = ((K.gsv p q bs).length : Int) - 1) := hid (by unfold K.fre; rw [if_pos h0]; simp)
    have HLG := hid (show (K.gsv p q bs).length ≤ p + q from K.gs_len _ _ _ _)
    rw [h0] at HCK
    have HC0 := hid (fun w1 hr => groupsOf_any p q a c bs w1 hm hr hok.m6 hok.n6 hok.inb)
    have HG : Hid (K.gs (K.leads p bs) p (p + q) (p + q) = K.gsv p q bs) := hid rfl
    rw [HG.out] at HC0
    have hpq : p ≤ 6 ∧ q ≤ 6 := ⟨hok.m6, hok.n6⟩
    rw [HRS.out, h0]
    clear h0 hok hm
    generalize K.gsv p q bs = gs at *
    clear HRS HG
    have hl9 := HLG.out
    unfold K.rk at HCK HC0 ⊢
    go_enter Try.func31, Try.ntmps31
    go_wp2_with fail
    refine HCK.out.mono ?_
    rintro e w1 ⟨rfl, hb⟩
    obtain ⟨k0, k1, k2, hr, hbw, hsz⟩ := HBX.out w1 hb
    have HC := hid (HC0.out w1 hr)
    have HBW := hid hbw
    clear hb hr hbw
    go_wp2_with fail
    refine HC.out.mono ?_
    rintro e w2 ⟨v, lo, hi, rfl, hgs, hb⟩
    obtain ⟨ga, gc, rfl, _⟩ := hgs.rd
    have HB2 := hid (HBW.out.trans (hb.mono HBW.out.size))
    have hsub : IntKind.i64.wrap ((gs.length : Int) - 1) = (gs.length : Int) - 1 := IntWalk.i64_in _ (by omega)
    clear hgs hb
    go_wp2
    go_ret2
    exact ⟨rfl, HB2.out⟩
  · have hne : (K.chr m n bs != 0) = true := by simpa using h0
    have HRS : Hid (K.fre m n bs = 0) := hid (by unfold K.fre; rw [if_neg h0])
    rw [HRS.out]
    generalize K.chr m n bs = err at *
    clear h0 hm
    unfold K.rk at HCK ⊢
    go_enter Try.func31, Try.ntmps31
    go_wp2_with fail
    refine HCK.out.mono ?_
    rintro e w1 ⟨rfl, hb⟩
    have HBW := hid (HB0.out.trans (hb.mono HB0.out.size))
    clear hb
    go_wp2
    go_ret2
    exact ⟨rfl, HBW.out⟩
end Go.Proofs.Ytmbfpekcfeeifaa
