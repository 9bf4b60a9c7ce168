/- Package ink: the walk of the reference's Colour. -/
import Derived.Test.YtapndndbibgjoaaIColour
namespace Go.Proofs.Ytapndndbibgjoaa
open Go.RowKit

set_option maxHeartbeats 4000000 in
set_option maxRecDepth 100000 in
theorem refColour_any (n : Int) (a al ac : Option Addr) (c cl cc : Nat) (T : List (List Int)) (l : List Int) (ch : List Bool) (w : World) (hm : T.length ≤ maxLen) (hml : l.length ≤ maxLen) (hmc : ch.length ≤ maxLen) (hT : RdM w a T) (hl : RdI w al l) (hc : RdB w ac ch) :
    Calls Try.prog 20 #[K.pal n a T.length c, .slice al l.length cl, .slice ac ch.length cc] w fun e w' => e = .returned (.tuple #[.int .i64 (K.clrV n T l ch), .int .i64 (K.clrE n T l ch)]) ∧ Below w.heap.size w w' := by
  have hb0 : Below w.heap.size w (w.alloc (.cells #[.int .i64 n, .slice a T.length c] 29)) := (Below.refl _ _).alloc (Nat.le_refl _) _
  have k0 : (w.alloc (.cells #[.int .i64 n, .slice a T.length c] 29)).cell? ⟨w.heap.size, 0, none⟩ = some (.int .i64 n) := by rw [World.cell?_alloc_at _ _ _ _ rfl]; rfl
  have k1 : (w.alloc (.cells #[.int .i64 n, .slice a T.length c] 29)).cell? ⟨w.heap.size, 1, none⟩ = some (.slice a T.length c) := by rw [World.cell?_alloc_at _ _ _ _ rfl]; rfl
  have HB0 := hid hb0
  have HK1 := hid k1
  have HC := hid (sequenced_any n a al c cl T l 12 _ hm hml (hT.stays hb0) (hl.stays hb0))
  have HT := hid (hT.stays hb0)
  have HL := hid (hl.stays hb0)
  have HCH := hid (hc.stays hb0)
  have HE : Hid (K.clrE n T l ch = if K.sq n T l 12 ≠ 0 then K.sq n T l 12 else if ch.length ≠ l.length then 3 else 0) := hid rfl
  have HV : Hid (K.clrV n T l ch = if K.clrE n T l ch ≠ 0 then 0 else ((K.mix (K.rowsOf T l) ch l.length : Nat) : Int)) := hid rfl
  clear hb0 hT hl hc
  unfold maxLen at hml hmc
  unfold K.pal at HC ⊢
  by_cases h0 : K.sq n T l 12 = 0
  · obtain ⟨hg0, h12, hin⟩ := K.sq_good h0
    have hg := K.good_of hg0
    rw [h0] at HC
    by_cases h1 : ch.length = l.length
    · have hE : K.clrE n T l ch = 0 := by rw [HE.out, if_neg (by omega), if_neg (by omega)]
      have hV : K.clrV n T l ch = ((K.mix (K.rowsOf T l) ch l.length : Nat) : Int) := by rw [HV.out, if_neg (by omega)]
      rw [hE, hV]
      clear hE hV HE HV h0
      have h7 : n.toNat ≤ 7 := by have := hg.hi; omega
      have hn1 : 1 ≤ n.toNat := by have := hg.lo; omega
      have HROW := hid (K.rowsOf_rows hg hin)
      have HRW := hid hg.rows
      have HIN := hid hin
      have hf := hg.few
      have hlr := K.rowsOf_length T l
      have hne : ((ch.length : Int) != (l.length : Int)) = false := by rw [h1]; simp
      clear hg hin hg0
      go_enter Try.func20, Try.ntmps20
      go_wp2_with fail
      generalize w.alloc (.cells #[.int .i64 n, .slice a T.length c] 29) = w1 at *
      refine HC.out.mono ?_
      rintro e w2 ⟨rfl, hb⟩
      have HB2 := hid (HB0.out.trans (hb.mono HB0.out.size))
      have HQ1 := hid (cell_stays hb (Nat.le_refl _) HK1.out)
      have HT2 := hid (HT.out.stays hb)
      have HL2 := hid (HL.out.stays hb)
      have HCH2 := hid (HCH.out.stays hb)
      clear hb HC HT HL HCH k0 k1 HK1 HB0
      go_wp2
      go_loopw [9, 10] (fun v i wr => ∃ k : Nat, k ≤ l.length ∧ i = .int .i64 k ∧ v = .int .i64 (K.mix (K.rowsOf T l) ch k : Nat) ∧ Quiet w2 wr) (fun _ i _ => l.length - (intOf i).toNat)
      case atStart => exact ⟨0, Nat.zero_le _, rfl, rfl, Quiet.refl _⟩
      case round =>
        obtain ⟨k, hk, rfl, rfl, hqt⟩ := hrel
        have HQ := hid hqt
        clear hqt
        by_cases hlt : k < l.length
        · have q1 := cell_stays HQ.out.below (Nat.le_refl _) HQ1.out
          obtain ⟨b, off, rfl, hcx⟩ := (HL2.out.stays HQ.out.below) k hlt
          have hkc : k < ch.length := by omega
          obtain ⟨b2, off2, rfl, hcc⟩ := (HCH2.out.stays HQ.out.below) k hkc
          obtain ⟨j, hj⟩ : ∃ j : Nat, l[k] = (j : Int) := ⟨l[k].toNat, by have := HIN.out _ (List.getElem_mem hlt); omega⟩
          have hjT : j < T.length := by have := HIN.out _ (List.getElem_mem hlt); omega
          obtain ⟨b3, off3, ra, rc, rfl, hrc, hrr⟩ := (HT2.out.stays HQ.out.below) j hjT
          have hrow := HRW.out T[j] (List.getElem_mem hjT)
          have hmx := K.mix_lt hn1 HROW.out ch k (by omega)
          have HMS : Hid (K.mix (K.rowsOf T l) ch (k + 1) = if ch[k] = true then (T[j].getD (K.mix (K.rowsOf T l) ch k) 0).toNat else K.mix (K.rowsOf T l) ch k) := hid (by
            rw [show K.mix (K.rowsOf T l) ch (k + 1) = if ch.getD k false = true then (((K.rowsOf T l).getD k []).getD (K.mix (K.rowsOf T l) ch k) 0).toNat else K.mix (K.rowsOf T l) ch k from rfl]
            have e2 : (K.rowsOf T l).getD k [] = T[j] := by
              unfold K.rowsOf
              simp only [List.getD, List.getElem?_map, List.getElem?_eq_getElem hlt, Option.map_some, Option.getD_some, hj, Int.toNat_natCast, List.getElem?_eq_getElem hjT]
            rw [e2]
            simp only [List.getD, List.getElem?_eq_getElem hkc, Option.getD_some])
          have hix : (0 : Int) ≤ (k : Int) ∧ (k : Int) < (l.length : Int) := by omega
          have hix2 : (k : Int) < (ch.length : Int) := by omega
          have hix3 : (0 : Int) ≤ (j : Int) ∧ (j : Int) < (T.length : Int) := by omega
          rw [hj] at hcx
          generalize K.mix (K.rowsOf T l) ch k = y at *
          have hyr : y < T[j].length := by rw [hrow.1]; exact hmx
          obtain ⟨b4, off4, rfl, hry⟩ := hrr y hyr
          obtain ⟨m, hm1, hm2⟩ := hrow.at hmx
          have hry2 : T[j][y] = (m : Int) := by
            simpa [List.getD, List.getElem?_eq_getElem hyr] using hm2
          rw [hry2] at hry
          have hix4 : (0 : Int) ≤ (y : Int) ∧ (y : Int) < (T[j].length : Int) := by omega
          generalize ch[k] = yes at *
          cases yes with
          | false =>
            have HN : Hid (K.mix (K.rowsOf T l) ch (k + 1) = y) := hid (by rw [HMS.out, if_neg (by simp)])
            clear HMS hj hm2 hry2 hrow hrr
            go_wp2
            go_roundw
            case rel => exact ⟨k + 1, by omega, by go_num, by rw [HN.out], HQ.out⟩
            case measure => simp [intOf]; omega
          | true =>
            have HN : Hid (K.mix (K.rowsOf T l) ch (k + 1) = m) := hid (by rw [HMS.out, if_pos rfl, hm2, Int.toNat_natCast])
            clear HMS hj hm2 hry2 hrow hrr
            generalize T[j] = row at *
            go_wp2
            go_quiet (fail)
            go_wp2
            go_roundw
            case rel => exact ⟨k + 1, by omega, by go_num, by rw [HN.out], HQ.out.drewN _⟩
            case measure => simp [intOf]; omega
        · have hke : k = l.length := by omega
          subst hke
          have HBZ := hid (HB2.out.trans (HQ.out.below.mono HB2.out.size))
          go_wp2
          go_ret2
          exact ⟨rfl, HBZ.out⟩
    · have hE : K.clrE n T l ch = 3 := by rw [HE.out, if_neg (by omega), if_pos h1]
      have hV : K.clrV n T l ch = 0 := by rw [HV.out, if_pos (by omega)]
      rw [hE, hV]
      have hne : ((ch.length : Int) != (l.length : Int)) = true := by simp; omega
      clear hE hV HE HV h0
      go_enter Try.func20, Try.ntmps20
      go_wp2_with fail
      generalize w.alloc (.cells #[.int .i64 n, .slice a T.length c] 29) = w1 at *
      refine HC.out.mono ?_
      rintro e w2 ⟨rfl, hb⟩
      have HB2 := hid (HB0.out.trans (hb.mono HB0.out.size))
      clear hb HC k0 k1
      go_wp2
      go_ret2
      exact ⟨rfl, HB2.out⟩
  · have hE : K.clrE n T l ch = K.sq n T l 12 := by rw [HE.out, if_pos h0]
    have hV : K.clrV n T l ch = 0 := by rw [HV.out, hE, if_pos h0]
    rw [hE, hV]
    have h0b : (K.sq n T l 12 == 0) = false := by simpa using h0
    clear hE hV HE HV
    generalize K.sq n T l 12 = q at *
    clear h0
    go_enter Try.func20, Try.ntmps20
    go_wp2_with fail
    generalize w.alloc (.cells #[.int .i64 n, .slice a T.length c] 29) = w1 at *
    refine HC.out.mono ?_
    rintro e w2 ⟨rfl, hb⟩
    have HB2 := hid (HB0.out.trans (hb.mono HB0.out.size))
    clear hb HC k0 k1
    go_wp2
    go_ret2
    exact ⟨rfl, HB2.out⟩
end Go.Proofs.Ytapndndbibgjoaa
