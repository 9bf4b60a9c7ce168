/- Package tuscheref05: the walk of Freedom. -/
import Derived.Test.YtmbfpekcfeeifaaKGiven
import Derived.Test.YtmbfpekcfeeifaaKRod
namespace Go.Proofs.Ytmbfpekcfeeifaa
open Go.RowKit

theorem K.rodL_snoc (b : Br) : ∀ l : List Br, K.rodL (l ++ [b]) = if K.rodL l = 0 then (if b.2.2 = 0 then 0 else 10) else K.rodL l
  | [] => by simp [K.rodL]
  | c :: l => by
    rw [List.cons_append, K.rodL, K.rodL, K.rodL_snoc b l]
    by_cases h : c.2.2 = 0
    · rw [if_pos h, if_pos h]
    · rw [if_neg h, if_neg h, if_neg (by decide)]
/-- The error after some braces. -/
def K.ere (m n : Int) (bs : List Br) (k : Nat) : Int := if K.chk m n bs = 0 then K.rodL (bs.take k) else K.chk m n bs
theorem K.ere_succ {m n : Int} {bs : List Br} {k : Nat} (h : k < bs.length) : K.ere m n bs (k + 1) = if K.ere m n bs k = 0 then (if bs[k].2.2 = 0 then 0 else 10) else K.ere m n bs k := by
  unfold K.ere
  by_cases h0 : K.chk m n bs = 0
  · rw [if_pos h0, if_pos h0, List.take_succ_eq_append_getElem h, K.rodL_snoc]
  · rw [if_neg h0, if_neg h0, if_neg h0]

set_option maxHeartbeats 4000000 in
set_option maxRecDepth 100000 in
theorem refFreedom_any (m n : Int) (a : Option Addr) (c : Nat) (bs : List Br) (w : World) (hm : bs.length ≤ maxLen) (hR : RdB w a bs) :
    Calls Try.prog 32 #[K.rk m n a bs.length c] w fun e w' => e = .returned (.tuple #[.int .i64 (K.fre m n bs), .int .i64 (K.chr m n bs)]) ∧ Below w.heap.size w w' := by
  obtain ⟨HB0, hbx⟩ := box_rackR w m n a c bs hR
  have HBX := hid hbx
  have HGR := hid (refGroups_any m n a c bs _ hm (hR.stays HB0.out))
  clear hbx hR
  have HE0 : Hid (K.ere m n bs 0 = K.chk m n bs) := hid (by unfold K.ere; split <;> simp_all [K.rodL])
  have HES := hid (fun k (h : k < bs.length) => K.ere_succ (m := m) (n := n) h)
  have HEE : Hid (K.ere m n bs bs.length = K.chr m n bs) := hid (by unfold K.ere K.chr; rw [List.take_length])
  have HFR : Hid ((K.chr m n bs = 0 → K.fre m n bs = ((K.gsr m n bs).length : Int) - 1) ∧ (K.chr m n bs ≠ 0 → K.fre m n bs = 0) ∧ (K.gsr m n bs).length ≤ 12) := hid (by
    refine ⟨fun h => ?_, fun h => by unfold K.fre; rw [if_neg h], ?_⟩
    · unfold K.fre K.gsr; rw [if_pos h, if_pos (K.chr_zero h).1]
    · by_cases h : K.chk m n bs = 0
      · obtain ⟨p, q, rfl, rfl, hok⟩ := K.chk_ok h
        unfold K.gsr
        rw [if_pos h]
        simp only [Int.toNat_natCast]
        have h1 := K.gs_len (K.leads p bs) p (p + q) (p + q)
        have h2 := hok.m6
        have h3 := hok.n6
        unfold K.gsv
        omega
      · unfold K.gsr; rw [if_neg h]; exact Nat.zero_le _)
  unfold maxLen at hm
  unfold K.GsER at HGR
  rw [← HE0.out] at HGR
  unfold K.rk at HGR ⊢
  go_enter Try.func32, Try.ntmps32
  go_wp2_with fail
  refine HGR.out.mono ?_
  rintro e w1 ⟨v, lo, hi, rfl, hgs, hb⟩
  obtain ⟨ga, gc, rfl, _⟩ := hgs.rd
  have HBZ := hid hb
  clear hgs hb HGR HE0
  go_wp2
  go_loopw [5, 6] (fun e i wr => ∃ k : Nat, k ≤ bs.length ∧ i = .int .i64 k ∧ e = .int .i64 (K.ere m n bs k) ∧ Below w1.heap.size w1 wr) (fun _ i _ => bs.length - (intOf i).toNat)
  case atStart => exact ⟨0, Nat.zero_le _, rfl, rfl, Below.refl _ _⟩
  case round =>
    obtain ⟨k, hk, rfl, rfl, hb⟩ := hrel
    have HB := hid hb
    obtain ⟨k0, k1, k2, hr, hbw, hsz⟩ := HBX.out wr (HBZ.out.trans (hb.mono HBZ.out.size))
    have HR := hid hr
    have HBW := hid hbw
    clear hb hr hbw
    by_cases hlt : k < bs.length
    · obtain ⟨b, off, rfl, c1, c2, c3⟩ := HR.out k hlt
      have HS := hid (HES.out k hlt)
      generalize bs[k] = br at *
      obtain ⟨x, y, z⟩ := br
      simp only at c1 c2 c3 HS
      generalize hE1 : K.ere m n bs (k + 1) = E1 at *
      have HE1 := hid hE1
      clear hE1
      generalize K.ere m n bs k = E at *
      have hix : (0 : Int) ≤ (k : Int) ∧ (k : Int) < (bs.length : Int) := by omega
      by_cases hE : E = 0
      · subst hE
        by_cases hz : z = 0
        · subst hz
          have HN : Hid (E1 = 0) := hid (by rw [HS.out]; rfl)
          go_wp2
          go_roundw
          case rel => exact ⟨k + 1, by omega, by go_num, by rw [HE1.out, HN.out], HB.out⟩
          case measure => simp [intOf]; omega
        · have HN : Hid (E1 = 10) := hid (by rw [HS.out, if_pos rfl, if_neg hz])
          have hz2 : (z != 0) = true := by simpa using hz
          clear hz
          go_wp2
          go_roundw
          case rel => exact ⟨k + 1, by omega, by go_num, by rw [HE1.out, HN.out], HB.out⟩
          case measure => simp [intOf]; omega
      · have HN : Hid (E1 = E) := hid (by rw [HS.out, if_neg hE])
        have hE2 : (E == 0) = false := by rw [beq_eq_false_iff_ne]; exact hE
        clear hE
        go_wp2
        go_roundw
        case rel => exact ⟨k + 1, by omega, by go_num, by rw [HE1.out, HN.out], HB.out⟩
        case measure => simp [intOf]; omega
    · have hke : k = bs.length := by omega
      subst hke
      rw [HEE.out]
      by_cases hE : K.chr m n bs = 0
      · have HF := hid (HFR.out.1 hE)
        have hl12 := HFR.out.2.2
        rw [hE]
        have HC : Hid (K.chr m n bs = 0) := hid hE
        clear hE
        generalize (K.gsr m n bs).length = G at *
        have hsub : IntKind.i64.wrap ((G : Int) - 1) = (G : Int) - 1 := IntWalk.i64_in _ (by omega)
        go_wp2
        go_ret2
        exact ⟨by rw [HF.out, HC.out]; rfl, HBW.out⟩
      · have HF := hid (HFR.out.2.1 hE)
        have hE2 : (K.chr m n bs != 0) = true := by simpa using hE
        generalize hcc : K.chr m n bs = C at *
        have HC := hid hcc
        clear hcc hE
        go_wp2
        go_ret2
        exact ⟨by rw [HF.out, HC.out]; rfl, HBW.out⟩
end Go.Proofs.Ytmbfpekcfeeifaa
