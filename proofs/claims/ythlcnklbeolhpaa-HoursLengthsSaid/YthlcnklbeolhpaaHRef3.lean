/- Package tuscheref07: the walks of Sums and Shortest. -/
import Derived.Test.YthlcnklbeolhpaaHRef2
import Derived.Test.YthlcnklbeolhpaaHSht
namespace Go.Proofs.Ythlcnklbeolhpaa
open Go.RowKit

theorem RdM.stays2 {w w' : World} {a : Option Addr} {T : List (List Int)} (h : RdM w a T) {q : Nat} (hb : Below (w.drewN q).heap.size (w.drewN q) w') : RdM w' a T := (h.drewN q).stays hb
theorem below_of_drewN {w w' : World} {q : Nat} (hb : Below (w.drewN q).heap.size (w.drewN q) w') : Below w.heap.size w w' := (below_drewN (Below.refl w.heap.size w) q).trans hb
set_option maxHeartbeats 400000 in
theorem refSums_any (a : Option Addr) (c : Nat) (T : List (List Int)) (w : World) (hm : T.length ≤ maxLen) (hl : ∀ i (h : i < T.length), T[i].length ≤ maxLen) (hx : RdM w a T) :
    Calls Try.prog 18 #[.slice a T.length c] w (H.Two3 (if H.chk T = 0 then H.rows T else []) (if H.chk T = 0 then H.cols T else []) (H.chk T) w) := by
  have HC := hid (refCheck_any a c T w hm hl hx)
  by_cases h : H.chk T = 0
  · rw [if_pos h, if_pos h]
    have HS := hid (fun q => refsums_any a c T (w.drewN q) (H.chk_ok h) (hx.drewN q))
    rw [h] at HC ⊢
    clear h hm hl hx
    go_enter Try.func18, Try.ntmps18
    go_wp2_with fail
    refine HC.out.mono ?_
    rintro e w' ⟨rfl, q, rfl⟩
    go_wp2_with fail
    refine (HS.out q).mono ?_
    rintro e w' ⟨a1, c1, a2, c2, rfl, h1, h2, hb⟩
    have H1 := hid h1
    have H2 := hid h2
    have HB := hid (below_of_drewN hb)
    clear h1 h2 hb
    go_wp2
    go_ret3
    exact ⟨_, _, _, _, rfl, H1.out, H2.out, HB.out⟩
  · rw [if_neg h, if_neg h]
    have hne : (H.chk T != 0) = true := by simpa using h
    generalize H.chk T = ec at *
    clear h hx
    go_enter Try.func18, Try.ntmps18
    go_wp2_with fail
    refine HC.out.mono ?_
    rintro e w' ⟨rfl, q, rfl⟩
    go_wp2
    go_ret3
    exact ⟨none, 0, none, 0, rfl, RdI.nil _ _, RdI.nil _ _, below_drewN (Below.refl _ _) _⟩
set_option maxHeartbeats 1000000 in
set_option maxRecDepth 100000 in
theorem refShortest_any (a : Option Addr) (c : Nat) (T : List (List Int)) (s : Int) (w : World) (hm : T.length ≤ maxLen) (hl : ∀ i (h : i < T.length), T[i].length ≤ maxLen) (hx : RdM w a T) :
    Calls Try.prog 20 #[.slice a T.length c, .int .i64 s] w fun e w' => e = .returned (.tuple #[.int .i64 (H.shE T s), .int .i64 (H.chks T s)]) ∧ Below w.heap.size w w' := by
  have HC := hid (checked_any a c T s w hm hl hx)
  unfold H.shE
  by_cases h : H.chks T s = 0
  · obtain ⟨hok, hs, hs6⟩ := H.chks_ok h
    rw [if_pos h]
    have HS := hid (fun q => refsums_any a c T (w.drewN q) hok (hx.drewN q))
    have HL1 : Hid ((H.rows T).length ≤ maxLen) := hid (by unfold H.rows; simpa using hm)
    have HL2 : Hid ((H.cols T).length ≤ maxLen) := hid (by unfold H.cols; simp; have := hok.n6; unfold maxLen; omega)
    have hT := hok.tot_bd
    have HQ : Hid (H.sht T s = max (max (H.top (H.rows T)) (H.top (H.cols T))) (H.ceil (H.tot T) s)) := hid rfl
    have hq1 : (H.tot T + s - 1).tdiv s = H.ceil (H.tot T) s := Int.tdiv_eq_ediv_of_nonneg (by omega)
    have hcb := H.ceil_bd hT.1 hs
    have hw1 : IntKind.i64.wrap (H.tot T + s) = H.tot T + s := IntWalk.i64_in _ (by omega)
    have hw2 : IntKind.i64.wrap (H.tot T + s - 1) = H.tot T + s - 1 := IntWalk.i64_in _ (by omega)
    have hw3 : IntKind.i64.wrap (H.ceil (H.tot T) s) = H.ceil (H.tot T) s := IntWalk.i64_in _ (by omega)
    have hs0 : ¬ s = 0 := by omega
    have HG1 := hid (fun a1 c1 W hr => refGreatest_any a1 c1 (H.rows T) W HL1.out hr)
    have HG2 := hid (fun a1 c1 W hr => refGreatest_any a1 c1 (H.cols T) W HL2.out hr)
    rw [h] at HC ⊢
    clear h hm hl hx hok
    unfold H.Sm3 at HS
    generalize H.ceil (H.tot T) s = q3 at *
    generalize H.tot T = t at *
    generalize H.top (H.rows T) = q1 at *
    generalize H.top (H.cols T) = q2 at *
    generalize H.rows T = R at *
    generalize H.cols T = C at *
    go_enter Try.func20, Try.ntmps20
    go_wp2_with fail
    refine HC.out.mono ?_
    rintro e w' ⟨rfl, q, rfl⟩
    go_wp2_with fail
    refine (HS.out q).mono ?_
    rintro e w1 ⟨a1, c1, a2, c2, rfl, h1, h2, hb⟩
    have HGa := hid (fun (W : World) (hW : W.heap = w1.heap) => HG1.out a1 c1 W (h1.heap hW))
    have HGb := hid (fun (W : World) (hW : W.heap = w1.heap) => HG2.out a2 c2 W (h2.heap hW))
    have HB := hid (below_of_drewN hb)
    clear h1 h2 hb HG1 HG2 HS HC
    go_wp2
    go_quiet (first | (go_at_call_of 59 a1; exact Calls.quiet_of_same (quiet_same (HGa.out _ rfl))) | (go_at_call_of 59 a2; exact Calls.quiet_of_same (quiet_same (HGb.out _ rfl))))
    go_wp2
    all_goals
      go_ret2
      exact ⟨ret_int2 (by rw [HQ.out]; omega) rfl, below_drewN HB.out _⟩
  · rw [if_neg h]
    have hne : (H.chks T s != 0) = true := by simpa using h
    generalize H.chks T s = ec at *
    clear h hx
    go_enter Try.func20, Try.ntmps20
    go_wp2_with fail
    refine HC.out.mono ?_
    rintro e w' ⟨rfl, q, rfl⟩
    go_wp2
    go_ret2
    exact ⟨rfl, below_drewN (Below.refl _ _) _⟩
end Go.Proofs.Ythlcnklbeolhpaa
