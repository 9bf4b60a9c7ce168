/- The walk of the law HoursLengths. -/
import Derived.Test.YthlcnklbeolhpaaHRefV
import Derived.Test.YthlcnklbeolhpaaHSumw
namespace Go.Proofs.Ythlcnklbeolhpaa
open Go.RowKit Ev

set_option maxHeartbeats 8000000 in
set_option maxRecDepth 100000 in
theorem hoursLengths_any (a : Option Addr) (c : Nat) (T : List (List Int)) (s : Int) (sa : Option Addr) (sc : Nat) (L : List Stp) (w : World) (hLm : L.length ≤ maxLen) (hAm : ∀ p ∈ L, p.2.length ≤ maxLen) (hx : RdM w a T) (hs : RdS w sa L) :
    Calls Try.prog 5 #[.slice a T.length c, .int .i64 s, .slice sa L.length sc] w fun e w' => e = .returned (.bool true) ∧ Below w.heap.size w w' := by
  have HLG := hid (large_any a c T w hx)
  have HWK := hid works_gives
  unfold maxLen at hLm
  cases hlg : H.lrg T with
  | true =>
    rw [hlg] at HLG
    clear hx hlg hs hAm
    go_enter Try.func5, Try.ntmps5
    go_wp2_with fail
    refine HLG.out.mono ?_
    rintro e w' ⟨rfl, rfl⟩
    go_wp2_with fail
    refine (HWK.out _).mono ?_
    rintro e w3 ⟨rfl, hb⟩
    have HB3 := hid hb
    clear hb
    go_wp2
    go_ret
    exact ⟨rfl, HB3.out⟩
  | false =>
  rw [hlg] at HLG
  by_cases h300 : 300 < L.length
  · have h3 : (300 : Int) < (L.length : Int) := by omega
    clear hx hlg hs hAm
    go_enter Try.func5, Try.ntmps5
    go_wp2_with fail
    refine HLG.out.mono ?_
    rintro e w' ⟨rfl, rfl⟩
    go_wp2_with fail
    refine (HWK.out _).mono ?_
    rintro e w3 ⟨rfl, hb⟩
    have HB3 := hid hb
    clear hb
    go_wp2
    go_ret
    exact ⟨rfl, HB3.out⟩
  · have h3 : ¬ (300 : Int) < (L.length : Int) := by omega
    obtain ⟨hT20, hR20⟩ := H.lrg_small hlg
    have hm : T.length ≤ maxLen := by unfold maxLen; omega
    have hl : ∀ i (h : i < T.length), T[i].length ≤ maxLen := fun i h => by have := hR20 i h; unfold maxLen; omega
    have HS := hid hs
    have HAM := hid (fun k (h : k < L.length) => hAm L[k] (List.getElem_mem h))
    have HG := hid (fun W (hW : Below w.heap.size w W) => given_any sa sc L W (by omega) (hs.stays hW))
    have HA1 := hid (fun W (hW : Below w.heap.size w W) => Length_any a c T s sa sc L W hm hl hAm (hx.stays hW) (hs.stays hW))
    have HA2 := hid (fun W (hW : Below w.heap.size w W) => Verify_any a c T s sa sc L W hm hl hAm (hx.stays hW) (hs.stays hW))
    have HB1 := hid (fun W a2 c2 (hW : Below w.heap.size w W) (hA : ∀ p ∈ L, p.2.length ≤ 20) (hs2 : RdS W a2 L) => refLength_any a c T s a2 c2 L W hm hl (by omega) hA (hx.stays hW) hs2)
    have HB2 := hid (fun W a2 c2 (hW : Below w.heap.size w W) (hA : ∀ p ∈ L, p.2.length ≤ 20) (hs2 : RdS W a2 L) => refVerify_any a c T s a2 c2 L W hm hl (by omega) hA (hx.stays hW) hs2)
    clear hx hlg hs hAm hm hl hT20 hR20
    generalize H.lgt T s L = z1 at *
    generalize H.pln T s L = z2 at *
    generalize H.vfy T s L = z3 at *
    go_enter Try.func5, Try.ntmps5
    go_wp2_with fail
    refine HLG.out.mono ?_
    rintro e w' ⟨rfl, rfl⟩
    go_wp2
    go_loop [7] (fun i => ∃ k : Nat, k ≤ L.length ∧ i = .int .i64 k ∧ ∀ j (hj : j < L.length), j < k → L[j].2.length ≤ 20) (fun i => L.length - (intOf i).toNat)
    case atStart => exact ⟨0, Nat.zero_le _, rfl, fun j _ hj => absurd hj (Nat.not_lt_zero _)⟩
    case round =>
      obtain ⟨k, hk, rfl, hall⟩ := hrel
      have HAL := hid hall
      clear hall
      by_cases hlt : k < L.length
      · obtain ⟨b, off, r, rc, rfl, _, q2, _⟩ := HS.out k hlt
        have ham := HAM.out k hlt
        have HNX := hid (show L[k].2.length ≤ 20 → ∀ j (hj : j < L.length), j < k + 1 → L[j].2.length ≤ 20 from fun h0 j hj hjk => by
          by_cases e : j = k
          · subst e; exact h0
          · exact HAL.out j hj (by omega))
        have hix : (0 : Int) ≤ (k : Int) ∧ (k : Int) < (L.length : Int) := by omega
        generalize L[k].2.length = y at *
        by_cases hy : 20 < y
        · have hy2 : (20 : Int) < (y : Int) := by omega
          clear HNX
          go_wp2_with fail
          refine (HWK.out _).mono ?_
          rintro e w3 ⟨rfl, hb⟩
          have HB3 := hid hb
          clear hb
          go_wp2
          go_ret
          exact ⟨rfl, HB3.out⟩
        · have hy2 : ¬ (20 : Int) < (y : Int) := by omega
          have HN2 := hid (HNX.out (by omega))
          clear HNX
          go_wp2
          go_round
          case rel => exact ⟨k + 1, by omega, by go_num, HN2.out⟩
          case measure => simp [intOf]; omega
      · obtain rfl : L.length = k := by omega
        have HA := hid (show ∀ p ∈ L, p.2.length ≤ 20 from fun p hp => by
          obtain ⟨j, hj, rfl⟩ := List.mem_iff_getElem.1 hp
          exact HAL.out j hj hj)
        have t1 : (z1 == z1) = true := by simp
        have t2 : (z2 == z2) = true := by simp
        have t3 : (z3 == z3) = true := by simp
        clear HAL HAM HS
        go_wp2_with fail
        refine (HG.out _ (Below.refl _ _)).mono ?_
        rintro e w1 ⟨a2, c2, rfl, hs2, hb⟩
        have HW1 := hid hb
        have HS2 := hid hs2
        clear hb hs2
        go_wp2_with fail
        refine (HA1.out _ HW1.out).mono ?_
        rintro e w2 ⟨rfl, hb⟩
        have HE2 := hid hb
        have HW2 := hid (HW1.out.trans (hb.mono HW1.out.size))
        clear hb
        go_wp2_with fail
        refine (HB1.out _ a2 c2 HW2.out HA.out (HS2.out.stays HE2.out)).mono ?_
        rintro e w3 ⟨rfl, hb⟩
        have HE3 := hid (HE2.out.trans (hb.mono HE2.out.size))
        have HW3 := hid (HW2.out.trans (hb.mono HW2.out.size))
        clear hb
        go_wp2_with fail
        refine (HA2.out _ HW3.out).mono ?_
        rintro e w4 ⟨rfl, hb⟩
        have HE4 := hid (HE3.out.trans (hb.mono HE3.out.size))
        have HW4 := hid (HW3.out.trans (hb.mono HW3.out.size))
        clear hb
        go_wp2_with fail
        refine (HB2.out _ a2 c2 HW4.out HA.out (HS2.out.stays HE4.out)).mono ?_
        rintro e w5 ⟨rfl, hb⟩
        have HW5 := hid (HW4.out.trans (hb.mono HW4.out.size))
        clear hb
        go_wp2_with fail
        refine (HWK.out _).mono ?_
        rintro e w6 ⟨rfl, hb⟩
        have HW6 := hid (HW5.out.trans (hb.mono HW5.out.size))
        clear hb
        go_wp2
        go_ret
        exact ⟨rfl, HW6.out⟩
end Go.Proofs.Ythlcnklbeolhpaa
