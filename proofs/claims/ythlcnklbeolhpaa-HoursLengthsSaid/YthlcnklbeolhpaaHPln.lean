/- Package hours: the walks of checkPlan, Length and Verify. -/
import Derived.Test.YthlcnklbeolhpaaHSrv
import Derived.Test.YthlcnklbeolhpaaHSht
namespace Go.Proofs.Ythlcnklbeolhpaa
open Go.RowKit

/-- The error of steps: that of the first that has one. -/
def H.ste (m n : Nat) (s : Int) : List Stp → Int
  | [] => 0
  | p :: L => if H.stp m n s p ≠ 0 then H.stp m n s p else H.ste m n s L
theorem H.ste_hit {m n : Nat} {s : Int} : ∀ {L : List Stp} {k : Nat} (hk : k < L.length), (∀ j (h : j < L.length), j < k → H.stp m n s L[j] = 0) → H.stp m n s L[k] ≠ 0 → H.ste m n s L = H.stp m n s L[k]
  | p :: L, 0, _, _, he => by
    have he' : H.stp m n s p ≠ 0 := he
    rw [H.ste, if_pos he']
    rfl
  | p :: L, k + 1, hk, h0, he => by
    have h1 : H.stp m n s p = 0 := h0 0 (Nat.zero_lt_succ _) (Nat.zero_lt_succ _)
    rw [H.ste, if_neg (by simpa using h1)]
    exact H.ste_hit (L := L) (k := k) (by simpa using hk) (fun j h hj => h0 (j + 1) (by simpa using h) (by omega)) he
theorem H.ste_none {m n : Nat} {s : Int} : ∀ {L : List Stp}, (∀ j (h : j < L.length), H.stp m n s L[j] = 0) → H.ste m n s L = 0
  | [], _ => rfl
  | p :: L, h0 => by
    have h1 : H.stp m n s p = 0 := h0 0 (Nat.zero_lt_succ _)
    rw [H.ste, if_neg (by simpa using h1)]
    exact H.ste_none (L := L) (fun j h => h0 (j + 1) (by simpa using h))
theorem H.ste_all {m n : Nat} {s : Int} : ∀ {L : List Stp}, H.ste m n s L = 0 → ∀ p ∈ L, H.stp m n s p = 0
  | [], _, p, hp => by simp at hp
  | q :: L, h, p, hp => by
    rw [H.ste] at h
    by_cases e : H.stp m n s q ≠ 0
    · rw [if_pos e] at h; exact absurd h e
    · rw [if_neg e] at h
      rcases List.mem_cons.1 hp with rfl | hp
      · simpa using e
      · exact H.ste_all h p hp
theorem H.stp_ok {m n : Nat} {s : Int} {p : Stp} (h : H.stp m n s p = 0) : p.2.length = m ∧ (1 ≤ p.1 ∧ p.1 ≤ 1100) ∧ ∀ x ∈ p.2, H.okp n x := by
  unfold H.stp at h
  by_cases e1 : p.2.length ≠ m
  · rw [if_pos e1] at h; cases h
  · rw [if_neg e1] at h
    by_cases e2 : p.1 < 1 ∨ 1100 < p.1
    · rw [if_pos e2] at h; cases h
    · rw [if_neg e2] at h
      by_cases e3 : ¬ ∀ x ∈ p.2, H.okp n x
      · rw [if_pos e3] at h; cases h
      · exact ⟨by simpa using e1, by omega, Classical.byContradiction e3⟩
/-- The error of a plan. -/
def H.pln (T : List (List Int)) (s : Int) (L : List Stp) : Int :=
  if H.chks T s ≠ 0 then H.chks T s else if 200 < L.length then 2 else if H.ste T.length (H.wid T) s L ≠ 0 then H.ste T.length (H.wid T) s L else if H.srv T L = true then 0 else 13

set_option maxHeartbeats 8000000 in
set_option maxRecDepth 100000 in
theorem checkPlan_any (a : Option Addr) (c : Nat) (T : List (List Int)) (s : Int) (sa : Option Addr) (sc : Nat) (L : List Stp) (w : World) (hm : T.length ≤ maxLen) (hl : ∀ i (h : i < T.length), T[i].length ≤ maxLen) (hA : ∀ p ∈ L, p.2.length ≤ maxLen) (hx : RdM w a T) (hs : RdS w sa L) :
    Calls Try.prog 71 #[.slice a T.length c, .int .i64 s, .slice sa L.length sc] w fun e w' => e = .returned (.int .i64 (H.pln T s L)) ∧ Below w.heap.size w w' := by
  have HC := hid (checkSeats_any a c T s w hm hl hx)
  by_cases hc : H.chks T s = 0
  · obtain ⟨hok, hs1, hs6⟩ := H.chks_ok hc
    rw [hc] at HC
    by_cases h200 : 200 < L.length
    · have HR : Hid (H.pln T s L = 2) := hid (by unfold H.pln; rw [if_neg (by simpa using hc), if_pos h200])
      rw [HR.out]
      have h2 : (200 : Int) < (L.length : Int) := by omega
      clear hx hs hA hl hok hc
      go_enter Try.func71, Try.ntmps71
      go_wp2_with fail
      refine HC.out.mono ?_
      rintro e w' ⟨rfl, rfl⟩
      go_wp2
      go_ret
      exact ⟨rfl, Below.refl _ _⟩
    · have HR : Hid (H.pln T s L = if H.ste T.length (H.wid T) s L ≠ 0 then H.ste T.length (H.wid T) s L else if H.srv T L = true then 0 else 13) := hid (by unfold H.pln; rw [if_neg (by simpa using hc), if_neg h200])
      have HX := hid hx
      have HS := hid hs
      have HST := hid (fun k (h : k < L.length) W (hW : Below w.heap.size w W) (r : Option Addr) (rc : Nat) (hr : RdI W r L[k].2) => checkStep_any a c T s L[k].1 r rc L[k].2 W hok (hA _ (List.getElem_mem h)) (hx.stays hW) hr)
      have HSV := hid (fun (h0 : H.ste T.length (H.wid T) s L = 0) W (hW : Below w.heap.size w W) => serves_any sa sc L a c T W hok (by omega) (fun p hp => (H.stp_ok (H.ste_all h0 p hp)).2.1) (fun p hp => ⟨(H.stp_ok (H.ste_all h0 p hp)).1, (H.stp_ok (H.ste_all h0 p hp)).2.2⟩) (hs.stays hW) (hx.stays hW))
      have HHIT := hid (fun k (h : k < L.length) (h0 : ∀ j (hj : j < L.length), j < k → H.stp T.length (H.wid T) s L[j] = 0) (he : H.stp T.length (H.wid T) s L[k] ≠ 0) => H.ste_hit (m := T.length) (n := H.wid T) (s := s) h h0 he)
      have HNON := hid (fun (h0 : ∀ j (hj : j < L.length), H.stp T.length (H.wid T) s L[j] = 0) => H.ste_none (m := T.length) (n := H.wid T) (s := s) h0)
      have h2 : ¬ (200 : Int) < (L.length : Int) := by omega
      generalize H.pln T s L = R at *
      clear hx hs hA hl hok hc
      go_enter Try.func71, Try.ntmps71
      go_wp2_with fail
      refine HC.out.mono ?_
      rintro e w' ⟨rfl, rfl⟩
      go_wp2
      go_loopw [22] (fun i wr => ∃ k : Nat, k ≤ L.length ∧ i = .int .i64 k ∧ (∀ j (hj : j < L.length), j < k → H.stp T.length (H.wid T) s L[j] = 0) ∧ Below w.heap.size w wr) (fun i _ => L.length - (intOf i).toNat)
      case atStart => exact ⟨0, Nat.zero_le _, rfl, fun j _ hj => absurd hj (Nat.not_lt_zero _), Below.refl _ _⟩
      case round =>
        obtain ⟨k, hk, rfl, hall, hb⟩ := hrel
        have HAL := hid hall
        have HB := hid hb
        clear hall hb
        by_cases hlt : k < L.length
        · obtain ⟨b, off, r, rc, rfl, q1, q2, hr⟩ := (HS.out.stays HB.out) k hlt
          have HBA := hid (HB.out.alloc HB.out.size (.cells #[.int .i64 L[k].1, .slice r L[k].2.length rc] 47))
          have HF := hid (HST.out k hlt _ HBA.out r rc (hr.stays ((Below.refl _ wr).alloc (Nat.le_refl _) _)))
          have HHT := hid (HHIT.out k hlt HAL.out)
          have HNX := hid (show H.stp T.length (H.wid T) s L[k] = 0 → ∀ j (hj : j < L.length), j < k + 1 → H.stp T.length (H.wid T) s L[j] = 0 from fun h0 j hj hjk => by
            by_cases e : j = k
            · subst e; exact h0
            · exact HAL.out j hj (by omega))
          have hix : (0 : Int) ≤ (k : Int) ∧ (k : Int) < (L.length : Int) := by omega
          clear hr
          generalize L[k] = p at *
          obtain ⟨h, l⟩ := p
          simp only at q1 q2 HBA HF
          generalize H.stp T.length (H.wid T) s (h, l) = z at *
          go_wp2_with fail
          refine HF.out.mono ?_
          rintro e w' ⟨rfl, hb⟩
          have HB2 := hid (HBA.out.trans (hb.mono HBA.out.size))
          clear hb q1 q2
          by_cases hz : z = 0
          · have HN2 := hid (HNX.out hz)
            subst hz
            clear HHT HNX
            go_wp2
            go_roundw
            case rel => exact ⟨k + 1, by omega, by go_num, HN2.out, HB2.out⟩
            case measure => simp [intOf]; omega
          · have HR2 : Hid (R = z) := hid (by rw [HR.out, HHT.out hz, if_pos hz])
            clear HHT HNX
            go_wp2
            go_ret
            exact ⟨ret_int HR2.out.symm, HB2.out⟩
        · obtain rfl : L.length = k := by omega
          have hse := HNON.out (fun j hj => HAL.out j hj hj)
          have HF := hid (HSV.out hse _ HB.out)
          have HR2 : Hid (R = if H.srv T L = true then 0 else 13) := hid (by rw [HR.out, if_neg (by simpa using hse)])
          clear hse HSV HNON HHIT HST
          cases hsv : H.srv T L with
          | true =>
            rw [hsv] at HF HR2
            have HR3 : Hid (R = 0) := hid (by rw [HR2.out, if_pos rfl])
            go_wp2_with fail
            refine HF.out.mono ?_
            rintro e w' ⟨rfl, hb⟩
            have HB2 := hid (HB.out.trans (hb.mono HB.out.size))
            clear hb
            go_wp2
            go_ret
            exact ⟨ret_int HR3.out.symm, HB2.out⟩
          | false =>
            rw [hsv] at HF HR2
            have HR3 : Hid (R = 13) := hid (by rw [HR2.out, if_neg (by decide)])
            go_wp2_with fail
            refine HF.out.mono ?_
            rintro e w' ⟨rfl, hb⟩
            have HB2 := hid (HB.out.trans (hb.mono HB.out.size))
            clear hb
            go_wp2
            go_ret
            exact ⟨ret_int HR3.out.symm, HB2.out⟩
  · have HR : Hid (H.pln T s L = H.chks T s) := hid (by unfold H.pln; rw [if_pos hc])
    rw [HR.out]
    clear hx hs hA hl
    generalize H.chks T s = z at *
    go_enter Try.func71, Try.ntmps71
    go_wp2_with fail
    refine HC.out.mono ?_
    rintro e w' ⟨rfl, rfl⟩
    go_wp2
    go_ret
    exact ⟨rfl, Below.refl _ _⟩
end Go.Proofs.Ythlcnklbeolhpaa
