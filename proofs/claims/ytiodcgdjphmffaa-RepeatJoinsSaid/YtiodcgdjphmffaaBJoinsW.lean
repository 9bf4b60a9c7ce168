/- The walk of RepeatJoins. -/
import Derived.Test.YtiodcgdjphmffaaBWorks
import Derived.Test.YtiodcgdjphmffaaBRef8
namespace Go.Proofs.Ytiodcgdjphmffaa
open Go.RowKit

set_option maxHeartbeats 4000000 in
set_option maxRecDepth 100000 in
theorem repeatJoins_any (a : Option Addr) (c : Nat) (L : List ByteArray) (w : World) (hm : MaxL w) (hc : L.length ≤ c) (hcm : c ≤ maxLen) (hs : ∀ k (h : k < L.length), L[k].size ≤ maxLen) (hr : RdS w a L) :
    Calls Try.prog 6 #[.slice a L.length c] w fun e w' => e = .returned (.bool true) ∧ Below w.heap.size w w' := by
  have HM := hid hm
  have KW := hid (fun w (h : MaxL w) => works_any w h)
  have HR := hid hr
  by_cases h30 : L.length ≤ 30
  · have K1 := hid (join_any a c L w hc hcm hs hm hr)
    have K2 := hid (fun W (hb : Below w.heap.size w W) => refJoin_any a c L W (Nat.le_trans hc hcm) hs (hr.stays hb))
    generalize (B.joinV L).1 = j1 at *
    generalize (B.joinV L).2 = j2 at *
    have e1 : (j1.toList == j1.toList) = true := by simp
    have HS := hid hs
    clear hs hm hr hc hcm
    go_enter Try.func6, Try.ntmps6
    go_wp2
    go_loop [3] (fun i => ∃ k : Nat, k ≤ L.length ∧ i = .int .i64 k) (fun i => L.length - (intOf i).toNat)
    case atStart => exact ⟨0, Nat.zero_le _, rfl⟩
    case round =>
      obtain ⟨k, hk, rfl⟩ := hrel
      by_cases hlt : k < L.length
      · obtain ⟨b, off, rfl, hcl⟩ := HR.out k hlt
        have hix : (0 : Int) ≤ (k : Int) ∧ (k : Int) < (L.length : Int) := by omega
        have hsz := HS.out k hlt
        generalize L[k] = s at *
        by_cases h100 : 100 < s.size
        · have h1' : (100 : Int) < (s.size : Int) := by omega
          clear h100
          go_wp2_with (refine (KW.out _ HM.out).mono ?_; rintro e w7 ⟨rfl, b7⟩; have HB7 := hid b7; clear b7)
          go_ret
          exact ⟨rfl, HB7.out⟩
        · have h1' : ¬ (100 : Int) < (s.size : Int) := by omega
          clear h100
          go_wp2
          go_round
          case rel => exact ⟨k + 1, by omega, by go_num⟩
          case measure => simp [intOf]; omega
      · have hke : k = L.length := by omega
        subst hke
        go_wp2_with fail
        refine K1.out.mono ?_
        rintro e w1 ⟨rfl, b1⟩
        have HB1 := hid b1
        clear b1
        go_wp2_with fail
        refine (K2.out w1 HB1.out).mono ?_
        rintro e w2 ⟨rfl, b2⟩
        have HB2 := hid (HB1.out.trans (b2.mono HB1.out.size))
        clear b2
        go_wp2_with fail
        refine (KW.out _ (HM.out.stays HB2.out)).mono ?_
        rintro e w7 ⟨rfl, b7⟩
        have HB7 := hid (HB2.out.trans (b7.mono HB2.out.size))
        clear b7
        go_wp2
        go_ret
        exact ⟨rfl, HB7.out⟩
  · have h1' : (30 : Int) < (L.length : Int) := by omega
    clear h30 hs hm hr hc hcm
    go_enter Try.func6, Try.ntmps6
    go_wp2_with fail
    refine (KW.out _ HM.out).mono ?_
    rintro e w7 ⟨rfl, b7⟩
    have HB7 := hid b7
    clear b7
    go_wp2
    go_ret
    exact ⟨rfl, HB7.out⟩
end Go.Proofs.Ytiodcgdjphmffaa
