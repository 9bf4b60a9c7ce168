/- Package hours: the walks of Enough, and of the reference's Busy, Room, Enough. -/
import Derived.Test.YthlcnklbeolhpaaHRoom
import Derived.Test.YthlcnklbeolhpaaHRef3
namespace Go.Proofs.Ythlcnklbeolhpaa
open Go.RowKit

/-- How many seats are enough, and its error. -/
def H.enX (T : List (List Int)) (L : Int) : Int := if H.chk T = 0 then (if L < 0 then 4 else if L < max (H.top (H.rows T)) (H.top (H.cols T)) then 14 else 0) else H.chk T
def H.enE (T : List (List Int)) (L : Int) : Int := if H.enX T L = 0 then (if H.tot T = 0 then 0 else H.ceil (H.tot T) L) else 0
theorem H.len_pos {T : List (List Int)} {L : Int} (hok : H.Ok T) (ht : H.tot T ≠ 0) (hL : ¬ L < max (H.top (H.rows T)) (H.top (H.cols T))) : 1 ≤ L := by
  by_cases h : H.top (H.rows T) ≤ 0
  · exfalso
    apply ht
    have h0 : ∀ x ∈ H.rows T, 0 ≤ x ∧ x ≤ 0 := fun x hx => ⟨(hok.rows_bd x hx).1, Int.le_trans (H.le_top hx) h⟩
    have := H.sum_bd h0
    unfold H.tot
    unfold H.rows at this
    omega
  · omega
theorem H.ceil_uniq {t s k : Int} (hs : 1 ≤ s) (h1 : t ≤ k * s) (h2 : (k - 1) * s < t) : H.ceil t s = k := by
  unfold H.ceil
  rw [Int.sub_mul, Int.one_mul] at h2
  have a : (t + s - 1) / s < k + 1 := Int.ediv_lt_of_lt_mul (by omega) (by rw [Int.add_mul, Int.one_mul]; omega)
  have b : k ≤ (t + s - 1) / s := Int.le_ediv_of_mul_le (by omega) (by omega)
  omega

set_option maxHeartbeats 1000000 in
set_option maxRecDepth 100000 in
theorem enough_any (a : Option Addr) (c : Nat) (T : List (List Int)) (L : Int) (w : World) (hm : T.length ≤ maxLen) (hl : ∀ i (h : i < T.length), T[i].length ≤ maxLen) (hx : RdM w a T) :
    Calls Try.prog 38 #[.slice a T.length c, .int .i64 L] w fun e w' => e = .returned (.tuple #[.int .i64 (H.enE T L), .int .i64 (H.enX T L)]) ∧ Below w.heap.size w w' := by
  have HC := hid (check_any a c T w hm hl hx)
  unfold H.enE
  by_cases h : H.chk T = 0
  case neg =>
    have hne : (H.chk T != 0) = true := by simpa using h
    have HE : Hid (H.enX T L = H.chk T) := hid (by unfold H.enX; rw [if_neg h])
    rw [HE.out, if_neg h]
    clear HE
    generalize H.chk T = ec at *
    clear h hx
    go_enter Try.func38, Try.ntmps38
    go_wp2_with fail
    refine HC.out.mono ?_
    rintro e w' ⟨rfl, rfl⟩
    go_wp2
    go_ret2
    exact ⟨rfl, Below.refl _ _⟩
  case pos =>
  have hok := H.chk_ok h
  have HX : Hid (H.enX T L = if L < 0 then 4 else if L < max (H.top (H.rows T)) (H.top (H.cols T)) then 14 else 0) := hid (by unfold H.enX; rw [if_pos h])
  rw [h] at HC
  by_cases hL : L < 0
  · rw [HX.out, if_pos hL, if_neg (by decide)]
    clear HX h hx hm hl hok
    go_enter Try.func38, Try.ntmps38
    go_wp2_with fail
    refine HC.out.mono ?_
    rintro e w' ⟨rfl, rfl⟩
    go_wp2
    go_ret2
    exact ⟨rfl, Below.refl _ _⟩
  rw [HX.out, if_neg hL]
  have HU := hid (sumsOf_any a c T w hok hx)
  have HG1 := hid (fun a1 c1 W hr => greatest_any a1 c1 (H.rows T) W (by have := hok.m6; unfold H.rows maxLen; simp; omega) hr)
  have HG2 := hid (fun a1 c1 W hr => greatest_any a1 c1 (H.cols T) W (by have := hok.n6; unfold H.cols maxLen; simp; omega) hr)
  have HTT := hid (fun W (hW : Below w.heap.size w W) => total_any a c T W hok (hx.stays hW))
  have htb := hok.tot_bd
  have HLP := hid (fun h1 h2 => H.len_pos (L := L) hok h1 h2)
  have HSH := hid (fun W h1 => shared_any (H.tot T) L W htb.1 (by omega) h1)
  unfold H.TwoE at HU
  clear HX h hx hm hl hok
  by_cases hM : L < max (H.top (H.rows T)) (H.top (H.cols T))
  · rw [if_pos hM, if_neg (by decide)]
    clear HLP HSH HTT
    generalize H.top (H.rows T) = q1 at *
    generalize H.top (H.cols T) = q2 at *
    generalize H.rows T = R at *
    generalize H.cols T = C at *
    go_enter Try.func38, Try.ntmps38
    go_wp2_with fail
    refine HC.out.mono ?_
    rintro e w' ⟨rfl, rfl⟩
    go_wp2_with fail
    refine HU.out.mono ?_
    rintro e w1 ⟨a1, c1, a2, c2, rfl, r1, r2, hb⟩
    have HB := hid hb
    have HGa := hid (HG1.out a1 c1 w1 r1)
    have HGb := hid (HG2.out a2 c2 w1 r2)
    clear r1 r2 hb
    go_wp2_with fail
    refine HGa.out.mono ?_
    rintro e w' ⟨rfl, rfl⟩
    go_wp2_with fail
    refine HGb.out.mono ?_
    rintro e w' ⟨rfl, rfl⟩
    have hM1 : q1 < q2 → L < q2 := fun _ => by omega
    have hM2 : q2 ≤ q1 → L < q1 := fun _ => by omega
    go_wp2
    all_goals
      go_ret2
      exact ⟨rfl, HB.out⟩
  · rw [if_neg hM, if_pos rfl]
    have hlp := fun h1 => HLP.out h1 hM
    have hM3 : ¬ L < H.top (H.rows T) ∧ ¬ L < H.top (H.cols T) := by omega
    clear HLP hM
    generalize H.top (H.rows T) = q1 at *
    generalize H.top (H.cols T) = q2 at *
    generalize H.rows T = R at *
    generalize H.cols T = C at *
    by_cases ht : H.tot T = 0
    · rw [if_pos ht]
      rw [ht] at HTT
      clear HSH hlp htb ht
      go_enter Try.func38, Try.ntmps38
      go_wp2_with fail
      refine HC.out.mono ?_
      rintro e w' ⟨rfl, rfl⟩
      go_wp2_with fail
      refine HU.out.mono ?_
      rintro e w1 ⟨a1, c1, a2, c2, rfl, r1, r2, hb⟩
      have HB := hid hb
      have HGa := hid (HG1.out a1 c1 w1 r1)
      have HGb := hid (HG2.out a2 c2 w1 r2)
      clear r1 r2 hb
      go_wp2_with fail
      refine HGa.out.mono ?_
      rintro e w' ⟨rfl, rfl⟩
      go_wp2_with fail
      refine HGb.out.mono ?_
      rintro e w' ⟨rfl, rfl⟩
      go_wp2_with fail
      all_goals
        refine (HTT.out _ HB.out).mono ?_
        rintro e w' ⟨rfl, rfl⟩
        go_wp2
        go_ret2
        exact ⟨rfl, HB.out⟩
    · rw [if_neg ht]
      have hL1 := hlp ht
      have htt : (H.tot T == 0) = false := by simpa using ht
      have HSH2 := hid (fun W => HSH.out W hL1)
      clear HSH hlp htb ht
      generalize H.ceil (H.tot T) L = q at *
      generalize H.tot T = t at *
      go_enter Try.func38, Try.ntmps38
      go_wp2_with fail
      refine HC.out.mono ?_
      rintro e w' ⟨rfl, rfl⟩
      go_wp2_with fail
      refine HU.out.mono ?_
      rintro e w1 ⟨a1, c1, a2, c2, rfl, r1, r2, hb⟩
      have HB := hid hb
      have HGa := hid (HG1.out a1 c1 w1 r1)
      have HGb := hid (HG2.out a2 c2 w1 r2)
      clear r1 r2 hb
      go_wp2_with fail
      refine HGa.out.mono ?_
      rintro e w' ⟨rfl, rfl⟩
      go_wp2_with fail
      refine HGb.out.mono ?_
      rintro e w' ⟨rfl, rfl⟩
      go_wp2_with fail
      all_goals
        refine (HTT.out _ HB.out).mono ?_
        rintro e w' ⟨rfl, rfl⟩
        go_wp2_with fail
        refine (HTT.out _ HB.out).mono ?_
        rintro e w' ⟨rfl, rfl⟩
        go_wp2_with fail
        refine (HSH2.out _).mono ?_
        rintro e w' ⟨rfl, rfl⟩
        go_wp2
        go_ret2
        exact ⟨rfl, HB.out⟩

set_option maxHeartbeats 2000000 in
set_option maxRecDepth 100000 in
theorem refEnough_any (a : Option Addr) (c : Nat) (T : List (List Int)) (L : Int) (w : World) (hLw : L ≤ 9223372036854775807) (hm : T.length ≤ maxLen) (hl : ∀ i (h : i < T.length), T[i].length ≤ maxLen) (hx : RdM w a T) :
    Calls Try.prog 39 #[.slice a T.length c, .int .i64 L] w fun e w' => e = .returned (.tuple #[.int .i64 (H.enE T L), .int .i64 (H.enX T L)]) ∧ Below w.heap.size w w' := by
  have HC := hid (refCheck_any a c T w hm hl hx)
  unfold H.enE
  by_cases h : H.chk T = 0
  case neg =>
    have hne : (H.chk T != 0) = true := by simpa using h
    have hne2 : (H.chk T == 0) = false := by simpa using h
    have HE : Hid (H.enX T L = H.chk T) := hid (by unfold H.enX; rw [if_neg h])
    rw [HE.out, if_neg h]
    clear HE
    generalize H.chk T = ec at *
    clear h hx
    go_enter Try.func39, Try.ntmps39
    go_wp2_with fail
    refine HC.out.mono ?_
    rintro e w' ⟨rfl, q, rfl⟩
    go_wp2
    go_ret2
    exact ⟨rfl, below_drewN (Below.refl _ _) _⟩
  case pos =>
  have hok := H.chk_ok h
  have HX : Hid (H.enX T L = if L < 0 then 4 else if L < max (H.top (H.rows T)) (H.top (H.cols T)) then 14 else 0) := hid (by unfold H.enX; rw [if_pos h])
  rw [h] at HC
  by_cases hL : L < 0
  · rw [HX.out, if_pos hL, if_neg (by decide)]
    clear HX h hx hm hl hok
    go_enter Try.func39, Try.ntmps39
    go_wp2_with fail
    refine HC.out.mono ?_
    rintro e w' ⟨rfl, q, rfl⟩
    go_wp2
    go_ret2
    exact ⟨rfl, below_drewN (Below.refl _ _) _⟩
  rw [HX.out, if_neg hL]
  have HS := hid (fun q => refsums_any a c T (w.drewN q) hok (hx.drewN q))
  have HG1 := hid (fun a1 c1 W hr => refGreatest_any a1 c1 (H.rows T) W (by have := hok.m6; unfold H.rows maxLen; simp; omega) hr)
  have HG2 := hid (fun a1 c1 W hr => refGreatest_any a1 c1 (H.cols T) W (by have := hok.n6; unfold H.cols maxLen; simp; omega) hr)
  have htb := hok.tot_bd
  have HLP := hid (fun h1 h2 => H.len_pos (L := L) hok h1 h2)
  have HCU := hid (fun k => H.ceil_uniq (t := H.tot T) (s := L) (k := k))
  unfold H.Sm3 at HS
  clear HX h hx hm hl hok
  by_cases hM : L < max (H.top (H.rows T)) (H.top (H.cols T))
  · rw [if_pos hM, if_neg (by decide)]
    clear HLP HCU
    generalize H.top (H.rows T) = q1 at *
    generalize H.top (H.cols T) = q2 at *
    generalize H.rows T = R at *
    generalize H.cols T = C at *
    go_enter Try.func39, Try.ntmps39
    go_wp2_with fail
    refine HC.out.mono ?_
    rintro e w' ⟨rfl, q, rfl⟩
    go_wp2_with fail
    refine (HS.out q).mono ?_
    rintro e w1 ⟨a1, c1, a2, c2, rfl, r1, r2, hb⟩
    have HB := hid (below_of_drewN hb)
    have HGa := hid (HG1.out a1 c1 w1 r1)
    have HGb := hid (HG2.out a2 c2 w1 r2)
    clear r1 r2 hb
    go_wp2_with fail
    refine HGa.out.mono ?_
    rintro e w' ⟨rfl, rfl⟩
    go_wp2_with fail
    refine HGb.out.mono ?_
    rintro e w' ⟨rfl, rfl⟩
    have hM1 : q1 < q2 → L < q2 := fun _ => by omega
    have hM2 : q2 ≤ q1 → L < q1 := fun _ => by omega
    go_wp2
    all_goals
      go_ret2
      exact ⟨rfl, HB.out⟩
  · rw [if_neg hM, if_pos rfl]
    have HLQ := hid (fun h1 => HLP.out h1 hM)
    have hM3 : ¬ L < H.top (H.rows T) ∧ ¬ L < H.top (H.cols T) := by omega
    clear HLP hM
    generalize H.top (H.rows T) = q1 at *
    generalize H.top (H.cols T) = q2 at *
    generalize H.rows T = R at *
    generalize H.cols T = C at *
    have HV : Hid (∃ v, (if H.tot T = 0 then 0 else H.ceil (H.tot T) L) = v) := hid ⟨_, rfl⟩
    obtain ⟨v, hv⟩ := HV.out
    rw [hv]
    have HVV := hid hv
    clear hv HV
    generalize hq3 : H.ceil (H.tot T) L = q3 at *
    clear hq3
    generalize H.tot T = t at *
    go_enter Try.func39, Try.ntmps39
    go_wp2_with fail
    refine HC.out.mono ?_
    rintro e w' ⟨rfl, q, rfl⟩
    go_wp2_with fail
    refine (HS.out q).mono ?_
    rintro e w1 ⟨a1, c1, a2, c2, rfl, r1, r2, hb⟩
    have HB := hid (below_of_drewN hb)
    have HGa := hid (HG1.out a1 c1 w1 r1)
    have HGb := hid (HG2.out a2 c2 w1 r2)
    clear r1 r2 hb
    go_wp2_with fail
    refine HGa.out.mono ?_
    rintro e w' ⟨rfl, rfl⟩
    go_wp2_with fail
    refine HGb.out.mono ?_
    rintro e w' ⟨rfl, rfl⟩
    go_wp2
    all_goals
      go_loop [10, 11] (fun sv lv => ∃ (k : Nat) (d : Int), sv = .int .i64 k ∧ lv = .int .i64 d ∧ d = t - k * L ∧ (k : Int) ≤ t ∧ (k = 0 ∨ (0 < d + L ∧ t ≠ 0)) ∧ -L ≤ d ∧ d ≤ t) (fun _ lv => (intOf lv + L).toNat)
      case atStart => exact ⟨0, t, rfl, rfl, by simp, htb.1, Or.inl rfl, by omega, Int.le_refl _⟩
      case round =>
        obtain ⟨k, d, rfl, rfl, hd, hkt, hor, hd1, hd2⟩ := hrel
        have HD := hid hd
        have HOR := hid hor
        clear hd hor
        by_cases h0 : 0 < d
        · have ht0 : t ≠ 0 := by omega
          have hL1 := HLQ.out ht0
          have HD2 : Hid (d - L = t - ((k + 1 : Nat) : Int) * L) := hid (by rw [HD.out]; push_cast; rw [Int.add_mul, Int.one_mul]; omega)
          have HK2 : Hid (((k + 1 : Nat) : Int) ≤ t) := hid (by
            have h1 : (k : Int) * 1 ≤ k * L := Int.mul_le_mul_of_nonneg_left hL1 (by omega)
            have := HD.out
            push_cast
            omega)
          have hw1 : IntKind.i64.wrap (d - L) = d - L := IntWalk.i64_in _ (by omega)
          have HT0 := hid ht0
          clear ht0
          go_wp2
          go_round
          case rel => exact ⟨k + 1, d - L, by go_num, rfl, HD2.out, HK2.out, Or.inr ⟨by omega, HT0.out⟩, by omega, by omega⟩
          case measure => simp [intOf]; omega
        · have HR : Hid ((k : Int) = v) := hid (by
            rw [← HVV.out]
            rcases HOR.out with h | h
            · subst h
              have : t = 0 := by have := HD.out; simp at this; omega
              rw [if_pos this]
              rfl
            · rw [if_neg h.2]
              have hL1 := HLQ.out h.2
              refine (HCU.out k hL1 ?_ ?_).symm
              · have := HD.out; omega
              · have := HD.out; rw [Int.sub_mul, Int.one_mul]; omega)
          go_wp2
          go_ret2
          exact ⟨ret_int2 HR.out rfl, HB.out⟩
end Go.Proofs.Ythlcnklbeolhpaa
