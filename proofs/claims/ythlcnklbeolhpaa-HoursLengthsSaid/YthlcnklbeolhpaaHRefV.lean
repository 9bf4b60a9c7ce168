/- The reference of hours: the walk of Verify. -/
import Derived.Test.YthlcnklbeolhpaaHRefL
import Derived.Test.YthlcnklbeolhpaaHRef3
namespace Go.Proofs.Ythlcnklbeolhpaa
open Go.RowKit

set_option maxHeartbeats 1000000 in
set_option maxRecDepth 100000 in
theorem refVerify_any (a : Option Addr) (c : Nat) (T : List (List Int)) (s : Int) (sa : Option Addr) (sc : Nat) (L : List Stp) (w : World) (hm : T.length ≤ maxLen) (hl : ∀ i (h : i < T.length), T[i].length ≤ maxLen) (hL : L.length ≤ 300) (hA : ∀ p ∈ L, p.2.length ≤ 20) (hx : RdM w a T) (hs : RdS w sa L) :
    Calls Try.prog 29 #[.slice a T.length c, .int .i64 s, .slice sa L.length sc] w fun e w' => e = .returned (.int .i64 (H.vfy T s L)) ∧ Below w.heap.size w w' := by
  have HC := hid (refLength_any a c T s sa sc L w hm hl hL hA hx hs)
  unfold H.vfy
  unfold H.lgt at HC
  by_cases hp : H.pln T s L = 0
  · have hck : H.chks T s = 0 := Classical.byContradiction fun e => e (by have h9 := hp; unfold H.pln at h9; rwa [if_pos e] at h9)
    have HG := hid (fun W (hW : Below w.heap.size w W) => show Calls Try.prog 20 #[.slice a T.length c, .int .i64 s] W fun e w' => e = .returned (.tuple #[.int .i64 (H.sht T s), .int .i64 0]) ∧ Below W.heap.size W w' from by
      have := refShortest_any a c T s W hm hl (hx.stays hW)
      unfold H.shE at this
      rwa [if_pos hck, hck] at this)
    rw [if_pos hp]
    rw [if_pos hp, hp] at HC
    clear hx hs hA hl hp hck
    generalize H.sht T s = y at *
    generalize H.len L = z at *
    by_cases hyz : y < z
    · rw [if_pos hyz]
      go_enter Try.func29, Try.ntmps29
      go_wp2_with fail
      refine HC.out.mono ?_
      rintro e w1 ⟨rfl, hb⟩
      have HB := hid hb
      clear hb
      go_wp2_with fail
      refine (HG.out _ HB.out).mono ?_
      rintro e w3 ⟨rfl, hb⟩
      have HB3 := hid (HB.out.trans (hb.mono HB.out.size))
      clear hb
      go_wp2
      go_ret
      exact ⟨rfl, HB3.out⟩
    · rw [if_neg hyz]
      go_enter Try.func29, Try.ntmps29
      go_wp2_with fail
      refine HC.out.mono ?_
      rintro e w1 ⟨rfl, hb⟩
      have HB := hid hb
      clear hb
      go_wp2_with fail
      refine (HG.out _ HB.out).mono ?_
      rintro e w3 ⟨rfl, hb⟩
      have HB3 := hid (HB.out.trans (hb.mono HB.out.size))
      clear hb
      go_wp2
      go_ret
      exact ⟨rfl, HB3.out⟩
  · rw [if_neg hp]
    rw [if_neg hp] at HC
    generalize H.pln T s L = z at *
    clear hx hs hA hl
    go_enter Try.func29, Try.ntmps29
    go_wp2_with fail
    refine HC.out.mono ?_
    rintro e w1 ⟨rfl, hb⟩
    have HB := hid hb
    clear hb
    go_wp2
    go_ret
    exact ⟨rfl, HB.out⟩
end Go.Proofs.Ythlcnklbeolhpaa
