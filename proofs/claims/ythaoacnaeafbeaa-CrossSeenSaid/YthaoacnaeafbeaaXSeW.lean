/- The law's walk: CrossSeen. -/
import Derived.Test.YthaoacnaeafbeaaXWrk
import Derived.Test.YthaoacnaeafbeaaXRCm
import Derived.Test.YthaoacnaeafbeaaXRLo
namespace Go.Proofs.Ythaoacnaeafbeaa
open Go.RowKit

theorem X.loV_len {l : List Int} {wd : Int} {se : List Int} : (X.loV l wd se).length ≤ 1000 := by
  unfold X.loV
  split
  · have := X.lo_len l wd se 121
    omega
  · simp
theorem X.num_s (a1 a2 : Option Addr) (c1 c2 : Nat) (l : List Int) (w : World) (hl : l.length ≤ 1000) (h1 : RdI w a1 l) (h2 : RdI w a2 l) :
    Calls Try.prog 22 #[.slice a1 l.length c1, .slice a2 l.length c2] w fun e w' => e = .returned (.bool true) ∧ Below w.heap.size w w' :=
  (numbers_q a1 a2 c1 c2 l l w hl hl h1 h2).mono fun e w' ⟨h, n, hn⟩ => ⟨by rw [h, decide_eq_true rfl], by rw [hn]; exact below_drewN (Below.refl _ _) _⟩

set_option maxHeartbeats 4000000 in
set_option maxRecDepth 100000 in
theorem crossSeen_any (a b : Option Addr) (c d : Nat) (l se : List Int) (s wd : Int) (w : World) (hm : l.length ≤ maxLen) (hm2 : se.length ≤ maxLen) (hl : RdI w a l) (hse : RdI w b se) :
    Calls Try.prog 4 #[.slice a l.length c, .int .i64 s, .int .i64 wd, .slice b se.length d] w fun e w' => e = .returned (.bool true) ∧ Below w.heap.size w w' := by
  have hmm := hm
  have hmm2 := hm2
  unfold maxLen at hmm hmm2
  have HWK := hid (fun W => works_any W)
  by_cases h40 : 40 < l.length
  · have h40' : decide ((40 : Int) < (l.length : Int)) = true := by simp; omega
    clear hl hse
    go_enter Try.func4, Try.ntmps4
    go_wp2_with fail
    refine (HWK.out w).mono ?_
    rintro e w1 ⟨rfl, hb⟩
    have HB := hid hb
    clear hb
    go_wp2
    go_ret
    exact ⟨rfl, HB.out⟩
  have h40' : decide ((40 : Int) < (l.length : Int)) = false := by simp; omega
  by_cases h41 : 40 < se.length
  · have h41' : decide ((40 : Int) < (se.length : Int)) = true := by simp; omega
    clear hl hse
    go_enter Try.func4, Try.ntmps4
    go_wp2_with fail
    refine (HWK.out w).mono ?_
    rintro e w1 ⟨rfl, hb⟩
    have HB := hid hb
    clear hb
    go_wp2
    go_ret
    exact ⟨rfl, HB.out⟩
  have h41' : decide ((40 : Int) < (se.length : Int)) = false := by simp; omega
  have HA := hid (common_any a c l s w hm hl)
  have HR := hid (fun W (h : Below w.heap.size w W) => refCommon_any a c l s W hm (hl.stays h))
  have HD := hid (fun W (h : Below w.heap.size w W) => locate_any a b c d l wd se W hm hm2 (hl.stays h) (hse.stays h))
  have HRD := hid (fun W (h : Below w.heap.size w W) => refLocate_any a b c d l wd se W hm (by omega) (hl.stays h) (hse.stays h))
  have HL1 := hid (X.loV_len (l := l) (wd := wd) (se := se))
  clear hl hse h40 h41
  generalize X.comV l s = n at *
  generalize X.comE l s = e1 at *
  generalize X.loV l wd se = D at *
  generalize X.loE l wd se = e2 at *
  have hnn : (n == n) = true := by simp
  have hee : (e1 == e1) = true := by simp
  have hee2 : (e2 == e2) = true := by simp
  go_enter Try.func4, Try.ntmps4
  go_wp2_with fail
  refine HA.out.mono ?_
  rintro e w3 ⟨rfl, rfl⟩
  go_wp2_with fail
  refine (HR.out _ (Below.refl _ _)).mono ?_
  rintro e w6 ⟨rfl, hb6⟩
  have HB6 := hid hb6
  clear hb6
  go_wp2_with fail
  refine (HD.out _ HB6.out).mono ?_
  rintro e w9 ⟨d1, k1, rfl, D1, hb⟩
  have HB9 := hid (HB6.out.trans (hb.mono HB6.out.size))
  clear hb
  go_wp2_with fail
  refine (HRD.out _ HB9.out).mono ?_
  rintro e w10 ⟨d2, k2, rfl, D2, hb⟩
  have HB10 := hid (HB9.out.trans (hb.mono HB9.out.size))
  have HN1 := hid (X.num_s d1 d2 k1 k2 D w10 HL1.out (D1.stays hb) D2)
  clear hb D1 D2
  go_wp2_with fail
  refine HN1.out.mono ?_
  rintro e w13 ⟨rfl, hb⟩
  have HB13 := hid (HB10.out.trans (hb.mono HB10.out.size))
  clear hb HN1
  go_wp2_with fail
  refine (HWK.out _).mono ?_
  rintro e w17 ⟨rfl, hb⟩
  have HB17 := hid (HB13.out.trans (hb.mono HB13.out.size))
  clear hb
  go_wp2
  go_ret
  exact ⟨rfl, HB17.out⟩
end Go.Proofs.Ythaoacnaeafbeaa
