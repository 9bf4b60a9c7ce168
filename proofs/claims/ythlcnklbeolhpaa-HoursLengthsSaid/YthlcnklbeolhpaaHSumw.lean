/- Package tuschelaw07: the walks of large, of numbers on equal lists, and of the law HoursSums. -/
import Derived.Test.YthlcnklbeolhpaaHRef5
import Derived.Test.YthlcnklbeolhpaaHWorks
import Derived.Deep.RegionHeld3
namespace Go.Proofs.Ythlcnklbeolhpaa
open Go.RowKit Ev

/-- A work that is much too large. -/
def H.lrg (T : List (List Int)) : Bool := decide (20 < T.length) || T.any fun r => decide (20 < r.length)
theorem H.lrg_hit {T : List (List Int)} {i : Nat} (h : i < T.length) (h2 : 20 < T[i].length) : H.lrg T = true := by
  unfold H.lrg
  rw [Bool.or_eq_true]
  exact Or.inr (List.any_eq_true.2 ⟨_, List.getElem_mem h, by simpa using h2⟩)
theorem H.lrg_none {T : List (List Int)} (h1 : ¬ 20 < T.length) (h : ∀ i (h : i < T.length), ¬ 20 < T[i].length) : H.lrg T = false := by
  unfold H.lrg
  rw [Bool.or_eq_false_iff]
  refine ⟨by simpa using h1, ?_⟩
  rw [List.any_eq_false]
  intro r hr
  obtain ⟨i, hi, rfl⟩ := List.getElem_of_mem hr
  simpa using h i hi
theorem H.lrg_small {T : List (List Int)} (h : H.lrg T = false) : T.length ≤ 20 ∧ ∀ i (h : i < T.length), T[i].length ≤ 20 := by
  unfold H.lrg at h
  rw [Bool.or_eq_false_iff] at h
  refine ⟨by simpa using h.1, fun i hi => ?_⟩
  have := List.any_eq_false.1 h.2 _ (List.getElem_mem hi)
  simpa using this
set_option maxHeartbeats 1000000 in
theorem large_any (a : Option Addr) (c : Nat) (T : List (List Int)) (w : World) (hx : RdM w a T) :
    Calls Try.prog 15 #[.slice a T.length c] w fun e w' => e = .returned (.bool (H.lrg T)) ∧ w = w' := by
  by_cases h20 : 20 < T.length
  · have HR : Hid (H.lrg T = true) := hid (by unfold H.lrg; simp [h20])
    have h21 : (20 : Int) < (T.length : Int) := by omega
    rw [HR.out]
    clear hx
    go_enter Try.func15, Try.ntmps15
    go_wp2
    go_ret
    exact ⟨rfl, rfl⟩
  have HH := hid (fun i (h : i < T.length) => H.lrg_hit (T := T) h)
  have HN := hid (H.lrg_none (T := T) h20)
  have HX := hid hx
  clear hx
  generalize H.lrg T = r at *
  go_enter Try.func15, Try.ntmps15
  go_wp2
  go_loop [3] (fun i => ∃ k : Nat, k ≤ T.length ∧ i = .int .i64 k ∧ ∀ j (h : j < T.length), j < k → ¬ 20 < T[j].length) (fun i => T.length - (intOf i).toNat)
  case atStart => exact ⟨0, Nat.zero_le _, rfl, fun j _ h => absurd h (Nat.not_lt_zero _)⟩
  case round =>
    obtain ⟨k, hk, rfl, hp⟩ := hrel
    have HP := hid hp
    clear hp
    by_cases hlt : k < T.length
    · obtain ⟨b, off, r1, cr, rfl, hc, _⟩ := HX.out k hlt
      have HI := hid (HH.out k hlt)
      have HNX : Hid (¬ 20 < T[k].length → ∀ j (h : j < T.length), j < k + 1 → ¬ 20 < T[j].length) := hid (fun e j h hj => by
        by_cases ej : j = k
        · subst ej; exact e
        · exact HP.out j h (by omega))
      have hix : (0 : Int) ≤ (k : Int) ∧ (k : Int) < (T.length : Int) := by omega
      generalize T[k].length = m at *
      by_cases e : 20 < m
      · have HI2 := hid (HI.out e)
        have e2 : (20 : Int) < (m : Int) := by omega
        go_wp2
        go_ret
        exact ⟨ret_bool HI2.out.symm, rfl⟩
      · have HNX2 := hid (HNX.out e)
        have e2 : ¬ (20 : Int) < (m : Int) := by omega
        go_wp2
        go_round
        case rel => exact ⟨k + 1, by omega, by go_num, HNX2.out⟩
        case measure => simp [intOf]; omega
    · have HR := hid (HN.out (fun j h => HP.out j h (by omega)))
      have hke : k = T.length := by omega
      subst hke
      go_wp2
      go_ret
      exact ⟨ret_bool HR.out.symm, rfl⟩
set_option maxHeartbeats 1000000 in
theorem numbers_eq (a b : Option Addr) (ca cb : Nat) (xs : List Int) (w : World) (hm : xs.length ≤ maxLen) (ha : RdI w a xs) (hb : RdI w b xs) :
    Calls Try.prog 25 #[.slice a xs.length ca, .slice b xs.length cb] w fun e w' => e = .returned (.bool true) ∧ ∃ n, w' = w.drewN n := by
  unfold maxLen at hm
  have HA := hid ha
  have HB := hid hb
  clear ha hb
  have hne : ((xs.length : Int) != (xs.length : Int)) = false := by simp
  go_enter Try.func25, Try.ntmps25
  go_wp2
  go_loopw [5] (fun i wr => ∃ k : Nat, k ≤ xs.length ∧ i = .int .i64 k ∧ ∃ n, wr = w.drewN n) (fun i _ => xs.length - (intOf i).toNat)
  case atStart => exact ⟨0, Nat.zero_le _, rfl, 0, rfl⟩
  case round =>
    obtain ⟨k, hk, rfl, q, rfl⟩ := hrel
    by_cases hlt : k < xs.length
    · obtain ⟨b1, o1, rfl, c1⟩ := HA.out k hlt
      obtain ⟨b2, o2, rfl, c2⟩ := HB.out k hlt
      generalize xs[k] = x at *
      have hx : (x != x) = false := by simp
      have h1 : (0 : Int) ≤ (k : Int) ∧ (k : Int) < (xs.length : Int) := by omega
      go_wp2
      go_quiet (fail)
      go_wp2
      go_roundw
      case rel => exact ⟨k + 1, by omega, by go_num, _, rfl⟩
      case measure => simp [intOf]; omega
    · go_wp2
      go_ret
      exact ⟨rfl, q, rfl⟩

theorem H.chk_rows_le {T : List (List Int)} (h : T.length ≤ 20) : (if H.chk T = 0 then H.rows T else []).length ≤ maxLen := by
  split
  · unfold H.rows maxLen; simp; omega
  · exact Nat.zero_le _
theorem H.chk_cols_le {T : List (List Int)} : (if H.chk T = 0 then H.cols T else []).length ≤ maxLen := by
  split
  · rename_i h; have := (H.chk_ok h).n6; unfold H.cols maxLen; simp; omega
  · exact Nat.zero_le _

theorem reasonGuard (W : World) (xo yo : Operand) (a b : Array Value) : (eqGuard .eql 35 xo yo (.agg a) (.agg b)).run Try.prog W = .ok () W := by
  have h : Try.prog.eqGuardType Try.prog.depth 35 = false := by kernel_rfl
  simp [eqGuard, go_sem, h]
theorem reasonEqIn (d : Nat) (W : World) (x y : Int) : (Op.equalIn (d + 1 + 1) 35 (.agg #[.int .i64 x, .int .i64 y]) (.agg #[.int .i64 x, .int .i64 y])).run Try.prog W = .ok true W := by
  have hi : ∀ a : Int, (Op.equalIn (d + 1) 3 (.int .i64 a) (.int .i64 a)).run Try.prog W = .ok true W := fun a => by
    have := run_equalIn_int (P := Try.prog) (w := W) d 3 .i64 .i64 a a Try.underlying3
    simpa using this
  generalize d + 1 = e at hi ⊢
  conv => lhs; unfold Op.equalIn
  rw [Sem.run_bind, run_underlying Try.underlying35]
  simp only [Result.andThen_ok]
  simp [go_sem, hi]
theorem reasonEql (W : World) (x y : Int) : (binOp .eql 35 (.agg #[.int .i64 x, .int .i64 y]) (.agg #[.int .i64 x, .int .i64 y])).run Try.prog W = .ok (.bool true) W := by
  show (Op.equalIn (9998 + 1 + 1) 35 (.agg #[.int .i64 x, .int .i64 y]) (.agg #[.int .i64 x, .int .i64 y]) >>= fun r => pure (Value.bool r) : Sem Value).run Try.prog W = _
  rw [Sem.run_bind, reasonEqIn]
  rfl

set_option maxHeartbeats 8000000 in
set_option maxRecDepth 100000 in
theorem hoursSums_any (a : Option Addr) (c : Nat) (T : List (List Int)) (s x y : Int) (w : World) (hx : RdM w a T) :
    Calls Try.prog 3 #[.slice a T.length c, .int .i64 s, .agg #[.int .i64 x, .int .i64 y]] w fun e w' => e = .returned (.bool true) ∧ Below w.heap.size w w' := by
  have hb0 : Below w.heap.size w (w.alloc (.cells #[.int .i64 x, .int .i64 y] 24)) := (Below.refl _ _).alloc (Nat.le_refl _) _
  have k0 : (w.alloc (.cells #[.int .i64 x, .int .i64 y] 24)).cell? ⟨w.heap.size, 0, none⟩ = some (.int .i64 x) := by rw [World.cell?_alloc_at _ _ _ _ rfl]; rfl
  have k1 : (w.alloc (.cells #[.int .i64 x, .int .i64 y] 24)).cell? ⟨w.heap.size, 1, none⟩ = some (.int .i64 y) := by rw [World.cell?_alloc_at _ _ _ _ rfl]; rfl
  have HB0 := hid hb0
  have hx0 := hx.stays hb0
  generalize hw0 : w.alloc (.cells #[.int .i64 x, .int .i64 y] 24) = w0 at *
  have HW0 := hid hw0
  clear hw0
  have HLG := hid (large_any a c T w0 hx0)
  cases hlg : H.lrg T with
  | true =>
    rw [hlg] at HLG
    have HWK := hid works_gives
    clear hx hx0 hb0 k0 k1 hlg
    go_enter Try.func3, Try.ntmps3
    go_wp2_with fail
    rw [HW0.out]
    refine HLG.out.mono ?_
    rintro e w' ⟨rfl, rfl⟩
    go_wp2_with fail
    refine (HWK.out _).mono ?_
    rintro e w3 ⟨rfl, hb⟩
    have HB3 := hid (HB0.out.trans (hb.mono HB0.out.size))
    clear hb
    go_wp2
    go_ret
    exact ⟨rfl, HB3.out⟩
  | false =>
  rw [hlg] at HLG
  obtain ⟨hT20, hR20⟩ := H.lrg_small hlg
  have hm : T.length ≤ maxLen := by unfold maxLen; omega
  have hl : ∀ i (h : i < T.length), T[i].length ≤ maxLen := fun i h => by have := hR20 i h; unfold maxLen; omega
  have HCL := hid (fun W (h : Below w0.heap.size w0 W) => show W.cell? ⟨w.heap.size, 0, none⟩ = some (.int .i64 x) ∧ W.cell? ⟨w.heap.size, 1, none⟩ = some (.int .i64 y) from ⟨cell_stays h (Nat.le_refl _) k0, cell_stays h (Nat.le_refl _) k1⟩)
  have HS1 := hid (fun W (h : Below w0.heap.size w0 W) => sums_any a c T W hm hl (hx0.stays h))
  have HS2 := hid (fun W (h : Below w0.heap.size w0 W) => refSums_any a c T W hm hl (hx0.stays h))
  have HH1 := hid (fun W (h : Below w0.heap.size w0 W) => Shortest_any a c T s W hm hl (hx0.stays h))
  have HH2 := hid (fun W (h : Below w0.heap.size w0 W) => refShortest_any a c T s W hm hl (hx0.stays h))
  have HY1 := hid (fun W (h : Below w0.heap.size w0 W) => why_any a c T s W hm hl (hx0.stays h))
  have HY2 := hid (fun W (h : Below w0.heap.size w0 W) => refWhy_any a c T s W hm hl (hx0.stays h))
  have HD1 := hid (fun W (h : Below w0.heap.size w0 W) => bound_any a c T s x y W hm hl (hx0.stays h))
  have HD2 := hid (fun W (h : Below w0.heap.size w0 W) => refBound_any a c T s x y W hm hl (hx0.stays h))
  have HC1 := hid (fun W (h : Below w0.heap.size w0 W) => check_any a c T W hm hl (hx0.stays h))
  have HC2 := hid (fun W (h : Below w0.heap.size w0 W) => refCheck_any a c T W hm hl (hx0.stays h))
  have HL1 := hid (H.chk_rows_le hT20)
  have HL2 := hid (H.chk_cols_le (T := T))
  have HN := hid (fun r1 r2 c1 c2 l W (h : l.length ≤ maxLen) => numbers_eq r1 r2 c1 c2 l W h)
  have HWK := hid works_gives
  unfold H.Two3 at HS1 HS2
  clear hx hx0 hb0 k0 k1 hlg hT20 hR20 hm hl
  generalize (if H.chk T = 0 then H.rows T else []) = R at *
  generalize (if H.chk T = 0 then H.cols T else []) = C at *
  generalize H.chk T = ec at *
  generalize H.chks T s = es at *
  generalize H.shE T s = q at *
  generalize H.whyE T s = wy at *
  generalize H.bdE T s x y = z at *
  generalize H.bdX T s x y = zx at *
  obtain ⟨wx, wz⟩ := wy
  simp only at HY1 HY2
  go_enter Try.func3, Try.ntmps3
  go_wp2_with fail
  rw [HW0.out]
  refine HLG.out.mono ?_
  rintro e w' ⟨rfl, rfl⟩
  go_wp2_with fail
  refine (HS1.out _ (Below.refl _ _)).mono ?_
  rintro e w1 ⟨a1, c1, a2, c2, rfl, r1, r2, hb1⟩
  have HB1 := hid hb1
  have R1 := hid r1
  have R2 := hid r2
  clear hb1 r1 r2
  go_wp2_with fail
  refine (HS2.out _ HB1.out).mono ?_
  rintro e w2 ⟨a3, c3, a4, c4, rfl, r3, r4, hb⟩
  have HB2 := hid (HB1.out.trans (hb.mono HB1.out.size))
  have R12 := hid (R1.out.stays hb)
  have R22 := hid (R2.out.stays hb)
  have R3 := hid r3
  have R4 := hid r4
  clear hb r3 r4 R1 R2
  go_wp2_with fail
  refine (HH1.out _ HB2.out).mono ?_
  rintro e w3 ⟨rfl, hb⟩
  have HE3 := hid hb
  have HB3 := hid (HB2.out.trans (hb.mono HB2.out.size))
  clear hb
  go_wp2_with fail
  refine (HH2.out _ HB3.out).mono ?_
  rintro e w4 ⟨rfl, hb⟩
  have HE4 := hid (HE3.out.trans (hb.mono HE3.out.size))
  have HB4 := hid (HB3.out.trans (hb.mono HB3.out.size))
  clear hb
  go_wp2_with fail
  refine (HY1.out _ HB4.out).mono ?_
  rintro e w5 ⟨rfl, hb⟩
  have HE5 := hid (HE4.out.trans (hb.mono HE4.out.size))
  have HB5 := hid (HB4.out.trans (hb.mono HB4.out.size))
  clear hb
  have HB6 := hid (HB5.out.alloc HB5.out.size (.cells #[.int .i64 (wx : Nat), .int .i64 (wz : Nat)] 24))
  have HE6 := hid (HE5.out.alloc HE5.out.size (.cells #[.int .i64 (wx : Nat), .int .i64 (wz : Nat)] 24))
  have u0 : (w5.alloc (.cells #[.int .i64 (wx : Nat), .int .i64 (wz : Nat)] 24)).cell? ⟨w5.heap.size, 0, none⟩ = some (.int .i64 (wx : Nat)) := by rw [World.cell?_alloc_at _ _ _ _ rfl]; rfl
  have u1 : (w5.alloc (.cells #[.int .i64 (wx : Nat), .int .i64 (wz : Nat)] 24)).cell? ⟨w5.heap.size, 1, none⟩ = some (.int .i64 (wz : Nat)) := by rw [World.cell?_alloc_at _ _ _ _ rfl]; rfl
  have HU := hid (And.intro u0 u1)
  clear u0 u1
  go_wp2_with fail
  generalize w5.alloc (.cells #[.int .i64 (wx : Nat), .int .i64 (wz : Nat)] 24) = w6 at *
  generalize w5.heap.size = g5 at *
  refine (HY2.out _ HB6.out).mono ?_
  rintro e w7 ⟨rfl, hb⟩
  have HE7 := hid (HE6.out.trans (hb.mono HE6.out.size))
  have HB7 := hid (HB6.out.trans (hb.mono HB6.out.size))
  have u0 := cell_stays hb (Nat.le_refl _) HU.out.1
  have u1 := cell_stays hb (Nat.le_refl _) HU.out.2
  have HU7 := hid (And.intro u0 u1)
  clear hb HU u0 u1
  have HB8 := hid (HB7.out.alloc HB7.out.size (.cells #[.int .i64 (wx : Nat), .int .i64 (wz : Nat)] 35))
  have HE8 := hid (HE7.out.alloc HE7.out.size (.cells #[.int .i64 (wx : Nat), .int .i64 (wz : Nat)] 35))
  have hb8 : Below w7.heap.size w7 (w7.alloc (.cells #[.int .i64 (wx : Nat), .int .i64 (wz : Nat)] 35)) := (Below.refl _ _).alloc (Nat.le_refl _) _
  have u0 := cell_stays hb8 (Nat.le_refl _) HU7.out.1
  have u1 := cell_stays hb8 (Nat.le_refl _) HU7.out.2
  have v0 : (w7.alloc (.cells #[.int .i64 (wx : Nat), .int .i64 (wz : Nat)] 35)).cell? ⟨w7.heap.size, 0, none⟩ = some (.int .i64 (wx : Nat)) := by rw [World.cell?_alloc_at _ _ _ _ rfl]; rfl
  have v1 : (w7.alloc (.cells #[.int .i64 (wx : Nat), .int .i64 (wz : Nat)] 35)).cell? ⟨w7.heap.size, 1, none⟩ = some (.int .i64 (wz : Nat)) := by rw [World.cell?_alloc_at _ _ _ _ rfl]; rfl
  have HU8 := hid (And.intro (And.intro u0 u1) (And.intro v0 v1))
  obtain ⟨p0, p1⟩ := HCL.out _ HB7.out
  clear hb8 u0 u1 v0 v1 HU7
  have hsz : w.heap.size < w7.heap.size := World.block_lt_of_cell? _ _ p0
  go_wp2_with fail
  clear p0 p1 hsz
  generalize w7.alloc (.cells #[.int .i64 (wx : Nat), .int .i64 (wz : Nat)] 35) = w8 at *
  generalize w7.heap.size = g7 at *
  refine (HD1.out _ HB8.out).mono ?_
  rintro e w9 ⟨rfl, hb⟩
  have HE9 := hid (HE8.out.trans (hb.mono HE8.out.size))
  have HB9 := hid (HB8.out.trans (hb.mono HB8.out.size))
  have HU9 := hid (And.intro (And.intro (cell_stays hb (Nat.le_refl _) HU8.out.1.1) (cell_stays hb (Nat.le_refl _) HU8.out.1.2)) (And.intro (cell_stays hb (Nat.le_refl _) HU8.out.2.1) (cell_stays hb (Nat.le_refl _) HU8.out.2.2)))
  obtain ⟨p0, p1⟩ := HCL.out _ HB9.out
  clear hb HU8
  go_wp2_with fail
  refine (HD2.out _ HB9.out).mono ?_
  rintro e w10 ⟨rfl, hb⟩
  have HE10 := hid (HE9.out.trans (hb.mono HE9.out.size))
  have HB10 := hid (HB9.out.trans (hb.mono HB9.out.size))
  have HUA := hid (And.intro (And.intro (cell_stays hb (Nat.le_refl _) HU9.out.1.1) (cell_stays hb (Nat.le_refl _) HU9.out.1.2)) (And.intro (cell_stays hb (Nat.le_refl _) HU9.out.2.1) (cell_stays hb (Nat.le_refl _) HU9.out.2.2)))
  have HN1 := hid (HN.out a1 a3 c1 c3 R w10 HL1.out (R12.out.stays HE10.out) (R3.out.stays HE10.out))
  have HN2 := hid (fun q => HN.out a2 a4 c2 c4 C (w10.drewN q) HL2.out ((R22.out.stays HE10.out).drewN q) ((R4.out.stays HE10.out).drewN q))
  clear hb HU9 p0 p1 R12 R22 R3 R4
  go_wp2_with fail
  refine HN1.out.mono ?_
  rintro e w' ⟨rfl, q1, rfl⟩
  go_wp2_with fail
  refine (HN2.out q1).mono ?_
  rintro e w' ⟨rfl, q2, rfl⟩
  have HB11 := hid (below_drewN (below_drewN HB10.out q1) q2)
  obtain ⟨⟨u0, u1⟩, v0, v1⟩ := HUA.out
  have x0 : ((w10.drewN q1).drewN q2).cell? ⟨g5, 0, none⟩ = some (.int .i64 (wx : Nat)) := u0
  have x1 : ((w10.drewN q1).drewN q2).cell? ⟨g5, 1, none⟩ = some (.int .i64 (wz : Nat)) := u1
  have x2 : ((w10.drewN q1).drewN q2).cell? ⟨g7, 0, none⟩ = some (.int .i64 (wx : Nat)) := v0
  have x3 : ((w10.drewN q1).drewN q2).cell? ⟨g7, 1, none⟩ = some (.int .i64 (wz : Nat)) := v1
  clear u0 u1 v0 v1 HUA
  generalize (w10.drewN q1).drewN q2 = w11 at *
  have t1 : (ec == ec) = true := by simp
  have t2 : (q == q) = true := by simp
  have t3 : (es == es) = true := by simp
  have t4 : (z == z) = true := by simp
  have t5 : (zx == zx) = true := by simp
  have RG := reasonGuard
  have RE := reasonEql
  go_wp2_with fail
  refine (HC1.out _ HB11.out).mono ?_
  rintro e w' ⟨rfl, rfl⟩
  go_wp2_with fail
  refine (HC2.out _ HB11.out).mono ?_
  rintro e w' ⟨rfl, q3, rfl⟩
  go_wp2_with fail
  refine (HWK.out _).mono ?_
  rintro e w12 ⟨rfl, hb⟩
  have HBE := hid (HB0.out.trans (((below_drewN HB11.out q3).trans (hb.mono (below_drewN HB11.out q3).size)).mono HB0.out.size))
  clear hb
  go_wp2
  go_ret
  exact ⟨rfl, HBE.out⟩
end Go.Proofs.Ythlcnklbeolhpaa
