/- The law's walk: CrossPlaces. -/
import Derived.Test.YthaoacnaeafbeaaXWrk
import Derived.Test.YthaoacnaeafbeaaXRP2
namespace Go.Proofs.Ythaoacnaeafbeaa
open Go.RowKit

theorem X.plV_len {l : List Int} {mo : Int} : (X.plV l mo).length ≤ 1000 := by
  unfold X.plV
  split
  · rename_i h
    have h1 := X.pl_len l (mo.toNat + 1)
    have : mo ≤ 60 := by
      unfold X.plE at h
      split at h
      · split at h
        · split at h
          · omega
          · split at h
            · rename_i h2; exact (X.wi_true.1 h2).2
            · omega
        · omega
      · rename_i h2; exact absurd h h2
    omega
  · simp
theorem X.nums_s (a1 a2 : Option Addr) (c1 c2 : Nat) (l : List Int) (w : World) (hl : l.length ≤ 1000) (h1 : RdI w a1 l) (h2 : RdI w a2 l) :
    Calls Try.prog 22 #[.slice a1 l.length c1, .slice a2 l.length c2] w fun e w' => e = .returned (.bool true) ∧ Below w.heap.size w w' :=
  (numbers_q a1 a2 c1 c2 l l w hl hl h1 h2).mono fun e w' ⟨h, n, hn⟩ => ⟨by rw [h, decide_eq_true rfl], by rw [hn]; exact below_drewN (Below.refl _ _) _⟩

set_option maxHeartbeats 4000000 in
set_option maxRecDepth 100000 in
theorem crossPlaces_any (a : Option Addr) (c : Nat) (l : List Int) (mo : Int) (w : World) (hlc : l.length ≤ c) (hcm : c ≤ maxLen) (hl : RdI w a l) :
    Calls Try.prog 5 #[.slice a l.length c, .int .i64 mo] w fun e w' => e = .returned (.bool true) ∧ Below w.heap.size w w' := by
  have hm : l.length ≤ maxLen := Nat.le_trans hlc hcm
  have hmm := hm
  unfold maxLen at hmm
  have HWK := hid (fun W => works_any W)
  by_cases h40 : 40 < l.length
  · have h40' : decide ((40 : Int) < (l.length : Int)) = true := by simp; omega
    clear hl
    go_enter Try.func5, Try.ntmps5
    go_wp2_with fail
    refine (HWK.out w).mono ?_
    rintro e w1 ⟨rfl, hb⟩
    have HB := hid hb
    clear hb
    go_wp2
    go_ret
    exact ⟨rfl, HB.out⟩
  have h40' : decide ((40 : Int) < (l.length : Int)) = false := by simp; omega
  have HD := hid (places_any a c l mo w hlc hcm hl)
  have HRD := hid (fun W (h : Below w.heap.size w W) => refPlaces_any a c l mo W hm (hl.stays h))
  have HL1 := hid (X.plV_len (l := l) (mo := mo))
  clear hl h40
  generalize X.plV l mo = D at *
  generalize X.plE l mo = e2 at *
  have hee2 : (e2 == e2) = true := by simp
  go_enter Try.func5, Try.ntmps5
  go_wp2_with fail
  refine HD.out.mono ?_
  rintro e w9 ⟨d1, k1, rfl, D1, hb⟩
  have HB9 := hid hb
  clear hb
  go_wp2_with fail
  refine (HRD.out _ HB9.out).mono ?_
  rintro e w10 ⟨d2, k2, rfl, D2, hb⟩
  have HB10 := hid (HB9.out.trans (hb.mono HB9.out.size))
  have HN1 := hid (X.nums_s d1 d2 k1 k2 D w10 HL1.out (D1.stays hb) D2)
  clear hb D1 D2
  go_wp2_with fail
  refine HN1.out.mono ?_
  rintro e w13 ⟨rfl, hb⟩
  have HB13 := hid (HB10.out.trans (hb.mono HB10.out.size))
  clear hb HN1
  go_wp2_with fail
  refine (HWK.out _).mono ?_
  rintro e w17 ⟨rfl, hb⟩
  have HB17 := hid (HB13.out.trans (hb.mono HB13.out.size))
  clear hb
  go_wp2
  go_ret
  exact ⟨rfl, HB17.out⟩
end Go.Proofs.Ythaoacnaeafbeaa
