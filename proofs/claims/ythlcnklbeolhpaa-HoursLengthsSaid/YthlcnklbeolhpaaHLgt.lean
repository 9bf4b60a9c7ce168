/- Package hours: the walks of Length and Verify. -/
import Derived.Test.YthlcnklbeolhpaaHPln
namespace Go.Proofs.Ythlcnklbeolhpaa
open Go.RowKit

/-- The length of a plan, if it is one. -/
def H.lgt (T : List (List Int)) (s : Int) (L : List Stp) : Int := if H.pln T s L = 0 then H.len L else 0
/-- The error of a plan that is to be shortest. -/
def H.vfy (T : List (List Int)) (s : Int) (L : List Stp) : Int := if H.pln T s L = 0 then (if H.sht T s < H.len L then 14 else 0) else H.pln T s L
theorem H.pln_ok {T : List (List Int)} {s : Int} {L : List Stp} (h : H.pln T s L = 0) : (H.Ok T ∧ 1 ≤ s ∧ s ≤ 6) ∧ L.length ≤ 200 ∧ H.ste T.length (H.wid T) s L = 0 ∧ H.srv T L = true := by
  unfold H.pln at h
  by_cases e1 : H.chks T s ≠ 0
  · rw [if_pos e1] at h; exact absurd h e1
  · rw [if_neg e1] at h
    by_cases e2 : 200 < L.length
    · rw [if_pos e2] at h; cases h
    · rw [if_neg e2] at h
      by_cases e3 : H.ste T.length (H.wid T) s L ≠ 0
      · rw [if_pos e3] at h; exact absurd h e3
      · rw [if_neg e3] at h
        by_cases e4 : H.srv T L = true
        · exact ⟨H.chks_ok (Classical.byContradiction e1), by omega, Classical.byContradiction e3, e4⟩
        · rw [if_neg e4] at h; cases h

set_option maxHeartbeats 1000000 in
set_option maxRecDepth 100000 in
theorem Length_any (a : Option Addr) (c : Nat) (T : List (List Int)) (s : Int) (sa : Option Addr) (sc : Nat) (L : List Stp) (w : World) (hm : T.length ≤ maxLen) (hl : ∀ i (h : i < T.length), T[i].length ≤ maxLen) (hA : ∀ p ∈ L, p.2.length ≤ maxLen) (hx : RdM w a T) (hs : RdS w sa L) :
    Calls Try.prog 31 #[.slice a T.length c, .int .i64 s, .slice sa L.length sc] w fun e w' => e = .returned (.tuple #[.int .i64 (H.lgt T s L), .int .i64 (H.pln T s L)]) ∧ Below w.heap.size w w' := by
  have HC := hid (checkPlan_any a c T s sa sc L w hm hl hA hx hs)
  unfold H.lgt
  by_cases hp : H.pln T s L = 0
  · obtain ⟨_, h2, h3, _⟩ := H.pln_ok hp
    rw [if_pos hp]
    rw [hp] at HC ⊢
    have HF := hid (fun W (hW : Below w.heap.size w W) => lengthOf_any sa sc L W h2 (fun p hq => (H.stp_ok (H.ste_all h3 p hq)).2.1) (hs.stays hW))
    clear hx hs hA hl hp h3
    go_enter Try.func31, Try.ntmps31
    go_wp2_with fail
    refine HC.out.mono ?_
    rintro e w1 ⟨rfl, hb⟩
    have HB := hid hb
    clear hb
    go_wp2_with fail
    refine (HF.out _ HB.out).mono ?_
    rintro e w2 ⟨rfl, hb⟩
    have HB2 := hid (HB.out.trans (hb.mono HB.out.size))
    clear hb
    go_wp2
    go_ret2
    exact ⟨rfl, HB2.out⟩
  · rw [if_neg hp]
    generalize H.pln T s L = z at *
    clear hx hs hA hl
    go_enter Try.func31, Try.ntmps31
    go_wp2_with fail
    refine HC.out.mono ?_
    rintro e w1 ⟨rfl, hb⟩
    have HB := hid hb
    clear hb
    go_wp2
    go_ret2
    exact ⟨rfl, HB.out⟩

set_option maxHeartbeats 1000000 in
set_option maxRecDepth 100000 in
theorem Verify_any (a : Option Addr) (c : Nat) (T : List (List Int)) (s : Int) (sa : Option Addr) (sc : Nat) (L : List Stp) (w : World) (hm : T.length ≤ maxLen) (hl : ∀ i (h : i < T.length), T[i].length ≤ maxLen) (hA : ∀ p ∈ L, p.2.length ≤ maxLen) (hx : RdM w a T) (hs : RdS w sa L) :
    Calls Try.prog 33 #[.slice a T.length c, .int .i64 s, .slice sa L.length sc] w fun e w' => e = .returned (.int .i64 (H.vfy T s L)) ∧ Below w.heap.size w w' := by
  have HC := hid (checkPlan_any a c T s sa sc L w hm hl hA hx hs)
  unfold H.vfy
  by_cases hp : H.pln T s L = 0
  · obtain ⟨⟨hok, hs1, _⟩, h2, h3, _⟩ := H.pln_ok hp
    rw [if_pos hp]
    rw [hp] at HC
    have HF := hid (fun W (hW : Below w.heap.size w W) => lengthOf_any sa sc L W h2 (fun p hq => (H.stp_ok (H.ste_all h3 p hq)).2.1) (hs.stays hW))
    have HG := hid (fun W (hW : Below w.heap.size w W) => shortest_any a c T s W hok hs1 (hx.stays hW))
    clear hx hs hA hl hp h3 hok
    generalize H.sht T s = y at *
    generalize H.len L = z at *
    by_cases hyz : y < z
    · rw [if_pos hyz]
      go_enter Try.func33, Try.ntmps33
      go_wp2_with fail
      refine HC.out.mono ?_
      rintro e w1 ⟨rfl, hb⟩
      have HB := hid hb
      clear hb
      go_wp2_with fail
      refine (HF.out _ HB.out).mono ?_
      rintro e w2 ⟨rfl, hb⟩
      have HB2 := hid (HB.out.trans (hb.mono HB.out.size))
      clear hb
      go_wp2_with fail
      refine (HG.out _ HB2.out).mono ?_
      rintro e w3 ⟨rfl, hb⟩
      have HB3 := hid (HB2.out.trans (hb.mono HB2.out.size))
      clear hb
      go_wp2
      go_ret
      exact ⟨rfl, HB3.out⟩
    · rw [if_neg hyz]
      go_enter Try.func33, Try.ntmps33
      go_wp2_with fail
      refine HC.out.mono ?_
      rintro e w1 ⟨rfl, hb⟩
      have HB := hid hb
      clear hb
      go_wp2_with fail
      refine (HF.out _ HB.out).mono ?_
      rintro e w2 ⟨rfl, hb⟩
      have HB2 := hid (HB.out.trans (hb.mono HB.out.size))
      clear hb
      go_wp2_with fail
      refine (HG.out _ HB2.out).mono ?_
      rintro e w3 ⟨rfl, hb⟩
      have HB3 := hid (HB2.out.trans (hb.mono HB2.out.size))
      clear hb
      go_wp2
      go_ret
      exact ⟨rfl, HB3.out⟩
  · rw [if_neg hp]
    generalize H.pln T s L = z at *
    clear hx hs hA hl
    go_enter Try.func33, Try.ntmps33
    go_wp2_with fail
    refine HC.out.mono ?_
    rintro e w1 ⟨rfl, hb⟩
    have HB := hid hb
    clear hb
    go_wp2
    go_ret
    exact ⟨rfl, HB.out⟩
end Go.Proofs.Ythlcnklbeolhpaa
