/- Package tuscheref03: the walks of Ever, ascending and Excludes. -/
import Derived.Test.YtapndndbibgjoaaIRAdd
import Derived.Test.YtapndndbibgjoaaIExcl
namespace Go.Proofs.Ytapndndbibgjoaa
open Go.RowKit

set_option maxHeartbeats 2000000 in
set_option maxRecDepth 100000 in
theorem refEver_any (n : Int) (a : Option Addr) (c : Nat) (T : List (List Int)) (w : World) (hm : T.length ≤ maxLen) (hT : RdM w a T) :
    Calls Try.prog 30 #[K.pal n a T.length c] w fun e w' => ∃ r cr xs, e = .returned (.tuple #[.slice r xs.length cr, .int .i64 (K.check n T)]) ∧ (K.check n T ≠ 0 → xs = []) ∧ (K.check n T = 0 → ∃ g, K.Ever n.toNat T g ∧ xs = K.list g) ∧ xs.length ≤ cr ∧ RdI w' r xs ∧ Below w.heap.size w w' := by
  have hb0 : Below w.heap.size w (w.alloc (.cells #[.int .i64 n, .slice a T.length c] 29)) := (Below.refl _ _).alloc (Nat.le_refl _) _
  have k0 : (w.alloc (.cells #[.int .i64 n, .slice a T.length c] 29)).cell? ⟨w.heap.size, 0, none⟩ = some (.int .i64 n) := by rw [World.cell?_alloc_at _ _ _ _ rfl]; rfl
  have k1 : (w.alloc (.cells #[.int .i64 n, .slice a T.length c] 29)).cell? ⟨w.heap.size, 1, none⟩ = some (.slice a T.length c) := by rw [World.cell?_alloc_at _ _ _ _ rfl]; rfl
  have HB0 := hid hb0
  have HK0 := hid k0
  have HK1 := hid k1
  have HT := hid (hT.stays hb0)
  have HC := hid (refCheck_any n a c T _ hm (hT.stays hb0))
  clear hb0 hT
  unfold K.pal at HC ⊢
  by_cases h0 : K.check n T = 0
  · have hg := K.good_of h0
    have hn7 : n.toNat ≤ 7 := by have := hg.hi; omega
    have hn1 : 1 ≤ n.toNat := by have := hg.lo; omega
    have hR : ∀ r ∈ T, K.Row n.toNat r := fun r hr => by obtain ⟨k, hk, rfl⟩ := List.getElem_of_mem hr; exact hg.row hk
    have HE := hid (K.rounds_ever hn1 hn7 hR)
    have HL := hid (fun W => refListed_any (K.rounds T n.toNat) W (K.lt_128 (K.rounds_lt hn1 hn7 hR _) hn7))
    have HI := hid (fun W hx => refEver0_any n a c T W hg hx)
    unfold K.pal at HI
    rw [h0] at HC ⊢
    clear hg h0 hR
    generalize K.rounds T n.toNat = g at *
    go_enter Try.func30, Try.ntmps30
    go_wp2_with fail
    generalize w.alloc (.cells #[.int .i64 n, .slice a T.length c] 29) = w1 at *
    refine HC.out.mono ?_
    rintro e w2 ⟨rfl, hb⟩
    have q0 := cell_stays hb (Nat.le_refl _) HK0.out
    have q1 := cell_stays hb (Nat.le_refl _) HK1.out
    have HT2 := hid (HT.out.stays hb)
    have HB2 := hid (HB0.out.trans (hb.mono HB0.out.size))
    clear hb HC k0 k1
    go_wp2_with fail
    refine (HI.out _ HT2.out).mono ?_
    rintro e w3 ⟨rfl, hb⟩
    have HB3 := hid (HB2.out.trans (hb.mono HB2.out.size))
    clear hb HI q0 q1 HT HT2
    go_wp2_with fail
    refine (HL.out _).mono ?_
    rintro e w5 ⟨r5, c5, rfl, hc5, hr5, hb5⟩
    have HR5 := hid hr5
    have HB5 := hid (HB3.out.trans (hb5.mono HB3.out.size))
    clear hr5 hb5 HL
    go_wp2
    go_ret2
    exact ⟨r5, c5, K.list g, rfl, fun h => absurd rfl h, fun _ => ⟨g, HE.out, rfl⟩, hc5, HR5.out, HB5.out⟩
  · have h0b : (K.check n T == 0) = false := by simpa using h0
    have HN := hid h0
    generalize K.check n T = q at *
    clear h0
    go_enter Try.func30, Try.ntmps30
    go_wp2_with fail
    generalize w.alloc (.cells #[.int .i64 n, .slice a T.length c] 29) = w1 at *
    refine HC.out.mono ?_
    rintro e w2 ⟨rfl, hb⟩
    have HB2 := hid (HB0.out.trans (hb.mono HB0.out.size))
    clear hb HC k0 k1
    go_wp2
    go_ret2
    exact ⟨none, 0, [], rfl, fun _ => rfl, fun h => absurd h HN.out, Nat.le_refl _, RdI.nil _ _, HB2.out⟩

set_option maxHeartbeats 2000000 in
set_option maxRecDepth 100000 in
theorem refAscending_any (n : Int) (hn2 : 2 ≤ n) (hn7 : n ≤ 7) (pa : Option Addr) (pl pc : Nat) (a : Option Addr) (c : Nat) (l : List Int) (w : World) (hm : l.length ≤ maxLen) (hx : RdI w a l) :
    Calls Try.prog 75 #[K.pal n pa pl pc, .slice a l.length c] w fun e w' => ∃ s : Nat, e = .returned (.tuple #[.int .i64 s, .int .i64 (K.asc n (-1) l)]) ∧ (K.asc n (-1) l = 0 → s = K.setOf l) ∧ Below w.heap.size w w' := by
  have hb0 : Below w.heap.size w (w.alloc (.cells #[.int .i64 n, .slice pa pl pc] 29)) := (Below.refl _ _).alloc (Nat.le_refl _) _
  have k0 : (w.alloc (.cells #[.int .i64 n, .slice pa pl pc] 29)).cell? ⟨w.heap.size, 0, none⟩ = some (.int .i64 n) := by rw [World.cell?_alloc_at _ _ _ _ rfl]; rfl
  have HB0 := hid hb0
  have HK0 := hid k0
  have HX := hid (hx.stays hb0)
  clear hb0 hx
  unfold maxLen at hm
  unfold K.pal
  go_enter Try.func75, Try.ntmps75
  go_wp2
  generalize w.alloc (.cells #[.int .i64 n, .slice pa pl pc] 29) = w1 at *
  clear k0
  go_loopw [6, 7] (fun v i wr => ∃ k : Nat, k ≤ l.length ∧ i = .int .i64 k ∧ v = .int .i64 (K.setOf (l.take k) : Nat) ∧ K.asc n (-1) l = K.asc n (K.bef l k) (l.drop k) ∧ (∀ x ∈ l.take k, 0 ≤ x ∧ x < n) ∧ Quiet w1 wr) (fun _ i _ => l.length - (intOf i).toNat)
  case atStart => exact ⟨0, Nat.zero_le _, rfl, rfl, rfl, (fun x hx => by simp at hx), Quiet.refl _⟩
  case round =>
    obtain ⟨k, hk, rfl, rfl, hasc, hin, hq⟩ := hrel
    have HA := hid hasc
    have HQ := hid hq
    have HIN := hid hin
    have q0 := cell_stays hq.below (Nat.le_refl _) HK0.out
    clear hasc hq hin
    by_cases hlt : k < l.length
    · obtain ⟨b, off, rfl, hc0⟩ := HX.out k hlt
      have hc := cell_stays HQ.out.below (Nat.le_refl _) hc0
      have HD := hid (K.asc_drop (n := n) (p := K.bef l k) hlt)
      have HW := hid (fun W => is_in l[k] n W)
      have HST := hid (K.setOf_succ hlt)
      have HTK : Hid (∀ x ∈ l.take (k + 1), x ∈ l.take k ∨ x = l[k]) := hid (fun x hx => by rw [List.take_succ_eq_append_getElem hlt, List.mem_append, List.mem_singleton] at hx; exact hx)
      have hix : (0 : Int) ≤ (k : Int) ∧ (k : Int) < (l.length : Int) := by omega
      clear hc0
      generalize hxk : l[k] = x at *
      by_cases ho : K.out n x = true
      · have HR : Hid (K.asc n (-1) l = 5) := hid (by rw [HA.out, HD.out, if_pos ho])
        rw [ho] at HW
        clear ho hxk
        go_wp2
        go_quiet ((go_at_call 64; exact Calls.quiet_of_same (HW.out _)))
        go_wp2
        go_ret2
        exact ⟨0, by rw [HR.out]; rfl, fun h => by rw [HR.out] at h; omega, HB0.out.trans (by first | exact below_drewN (HQ.out.below.mono HB0.out.size) _ | exact below_drewN (below_drewN (HQ.out.below.mono HB0.out.size) _) _)⟩
      · have ho' : K.out n x = false := by simpa using ho
        have hx0 : 0 ≤ x ∧ x < n := by unfold K.out at ho; simp at ho; omega
        rw [ho'] at HW
        obtain ⟨m, rfl⟩ := Int.eq_ofNat_of_zero_le hx0.1
        have HI2 : Hid (∀ y ∈ l.take (k + 1), 0 ≤ y ∧ y < n) := hid (fun y hy => by
          rcases HTK.out y hy with h | h
          · exact HIN.out y h
          · rw [h]; omega)
        have hm7 : m < 7 := by omega
        have l1 := K.lt_128 (K.setOf_lt (n := 7) (fun y hy => by have := HIN.out y hy; omega) : K.setOf (l.take k) < 2 ^ 7) (by decide)
        have l2 := K.lt_128 (K.two_lt hm7) (by decide)
        have hor := or_i64 l1 l2
        have hst := HST.out
        rw [Int.toNat_natCast] at hst
        rw [← hst] at hor
        have h2 : (2 : Int) ^ m = ((2 ^ m : Nat) : Int) := by simp
        have hsh : wrap64 (2 ^ m) = (2 : Int) ^ m := by
          rw [h2]
          generalize 2 ^ m = q at *
          unfold wrap64; omega
        rw [← h2] at hor
        have hm64 : (m : Int) ≤ 64 := by omega
        clear h2 l1 l2 hst HST HTK
        generalize hz : K.setOf (l.take (k + 1)) = z at *
        have HZ := hid hz
        generalize K.setOf (l.take k) = acc at *
        clear hz
        by_cases h0 : k = 0
        · subst h0
          rw [Nat.add_zero] at hc
          have HN : Hid (K.asc n (-1) l = K.asc n (K.bef l (0 + 1)) (l.drop (0 + 1))) := hid (by
            rw [HA.out, HD.out, if_neg ho, if_neg (by unfold K.bef; rw [if_pos rfl]; omega)])
          clear ho ho' hxk
          go_wp2
          go_quiet ((go_at_call 64; exact Calls.quiet_of_same (HW.out _)))
          go_wp2
          go_quiet (fail)
          go_wp2
          go_roundw
          case rel => exact ⟨0 + 1, by omega, by go_num, by rw [HZ.out], HN.out, HI2.out, by first | exact HQ.out.drewN _ | exact (HQ.out.drewN _).drewN _⟩
          case measure => simp [intOf]; omega
        · have hbf := K.bef_at hlt h0
          obtain ⟨b', off', he, hcp0⟩ := HX.out (k - 1) (by omega)
          have hcp := cell_stays HQ.out.below (Nat.le_refl _) hcp0
          simp only [Option.some.injEq, Addr.mk.injEq, and_true] at he
          obtain ⟨rfl, rfl⟩ := he
          clear hcp0
          generalize l[k - 1]'(by omega) = p at *
          have hk1 : decide ((0 : Int) < (k : Int)) = true := by simp; omega
          have hk2 : decide (0 < k) = true := by simp; omega
          have hk3 : 0 < k := by omega
          have hsub : (k : Int) - 1 = ((k - 1 : Nat) : Int) := by omega
          have hsub2 : (0 : Int) ≤ ((k - 1 : Nat) : Int) ∧ ((k - 1 : Nat) : Int) < (l.length : Int) := by omega
          by_cases hp : (m : Int) ≤ p
          · have HR : Hid (K.asc n (-1) l = 7) := hid (by rw [HA.out, HD.out, if_neg ho, hbf, if_pos hp])
            clear ho ho' hxk hbf
            go_wp2
            go_quiet ((go_at_call 64; exact Calls.quiet_of_same (HW.out _)))
            go_wp2
            go_quiet (fail)
            go_wp2
            go_ret2
            exact ⟨0, by rw [HR.out]; rfl, fun h => by rw [HR.out] at h; omega, HB0.out.trans (by first | exact below_drewN (HQ.out.below.mono HB0.out.size) _ | exact below_drewN (below_drewN (HQ.out.below.mono HB0.out.size) _) _)⟩
          · have HN : Hid (K.asc n (-1) l = K.asc n (K.bef l (k + 1)) (l.drop (k + 1))) := hid (by rw [HA.out, HD.out, if_neg ho, hbf, if_neg hp])
            clear ho ho' hxk hbf
            go_wp2
            go_quiet ((go_at_call 64; exact Calls.quiet_of_same (HW.out _)))
            go_wp2
            go_quiet (fail)
            go_wp2
            go_roundw
            case rel => exact ⟨k + 1, by omega, by go_num, by rw [HZ.out], HN.out, HI2.out, by first | exact HQ.out.drewN _ | exact (HQ.out.drewN _).drewN _⟩
            case measure => simp [intOf]; omega
    · have hke : k = l.length := by omega
      subst hke
      have HR : Hid (K.asc n (-1) l = 0) := hid (by rw [HA.out, List.drop_length]; rfl)
      rw [List.take_length]
      go_wp2
      go_ret2
      exact ⟨K.setOf l, by rw [HR.out]; rfl, fun _ => rfl, HB0.out.trans (HQ.out.below.mono HB0.out.size)⟩

theorem K.addL_fix {r : List Int} {s : Nat} (hs : s < 128) : K.addL r s = s ↔ K.Makes r s s := by
  constructor
  · intro h
    have := K.addL_makes r hs
    rwa [h] at this
  · intro h
    exact (K.addL_in hs (K.Sub.refl s) h).eq (K.addL_sub r hs)

set_option maxHeartbeats 4000000 in
set_option maxRecDepth 100000 in
theorem refExcludes_any (n x : Int) (a al : Option Addr) (c cl : Nat) (T : List (List Int)) (l : List Int) (w : World) (hm : T.length ≤ maxLen) (hml : l.length ≤ maxLen) (hT : RdM w a T) (hl : RdI w al l) :
    Calls Try.prog 32 #[K.pal n a T.length c, .slice al l.length cl, .int .i64 x] w fun e w' => e = .returned (.int .i64 (K.excl n T l x)) ∧ Below w.heap.size w w' := by
  have hb0 : Below w.heap.size w (w.alloc (.cells #[.int .i64 n, .slice a T.length c] 29)) := (Below.refl _ _).alloc (Nat.le_refl _) _
  have k0 : (w.alloc (.cells #[.int .i64 n, .slice a T.length c] 29)).cell? ⟨w.heap.size, 0, none⟩ = some (.int .i64 n) := by rw [World.cell?_alloc_at _ _ _ _ rfl]; rfl
  have k1 : (w.alloc (.cells #[.int .i64 n, .slice a T.length c] 29)).cell? ⟨w.heap.size, 1, none⟩ = some (.slice a T.length c) := by rw [World.cell?_alloc_at _ _ _ _ rfl]; rfl
  have HB0 := hid hb0
  have HK0 := hid k0
  have HK1 := hid k1
  have HT := hid (hT.stays hb0)
  have HL := hid (hl.stays hb0)
  have HC := hid (refCheck_any n a c T _ hm (hT.stays hb0))
  clear hb0 hT hl
  unfold K.pal at HC ⊢
  by_cases h0 : K.check n T = 0
  case neg =>
    have HR : Hid (K.excl n T l x = K.check n T) := hid (by
      have : K.col n T x = K.check n T := by unfold K.col; rw [if_pos h0]
      unfold K.excl; rw [this, if_pos h0])
    rw [HR.out]
    have h0b : (K.check n T == 0) = false := by simpa using h0
    generalize K.check n T = q at *
    clear h0
    go_enter Try.func32, Try.ntmps32
    go_wp2_with fail
    generalize w.alloc (.cells #[.int .i64 n, .slice a T.length c] 29) = w1 at *
    refine HC.out.mono ?_
    rintro e w2 ⟨rfl, hb⟩
    have HB2 := hid (HB0.out.trans (hb.mono HB0.out.size))
    have q0 := cell_stays hb (Nat.le_refl _) HK0.out
    clear hb HC k0 k1
    go_wp2
    go_ret
    exact ⟨rfl, HB2.out⟩
  have hg := K.good_of h0
  have hn7 : n.toNat ≤ 7 := by have := hg.hi; omega
  have hn1 : 1 ≤ n.toNat := by have := hg.lo; omega
  have hlo := hg.lo
  have hhi := hg.hi
  rw [h0] at HC
  have HI := hid (fun W => is_in x n W)
  by_cases hx : K.out n x = true
  · have HR : Hid (K.excl n T l x = 4) := hid (by
      have : K.col n T x = 4 := by unfold K.col; rw [if_neg (by omega), if_pos hx]
      unfold K.excl; rw [this, if_pos (by decide)])
    rw [HR.out]
    rw [hx] at HI
    clear hx h0 hg HR
    go_enter Try.func32, Try.ntmps32
    go_wp2_with fail
    generalize w.alloc (.cells #[.int .i64 n, .slice a T.length c] 29) = w1 at *
    refine HC.out.mono ?_
    rintro e w2 ⟨rfl, hb⟩
    have HB2 := hid (HB0.out.trans (hb.mono HB0.out.size))
    have q0 := cell_stays hb (Nat.le_refl _) HK0.out
    clear hb HC k0 k1
    go_wp2_with fail
    refine (HI.out _).mono ?_
    rintro e w3 ⟨rfl, rfl⟩
    go_wp2
    go_ret
    exact ⟨rfl, HB2.out⟩
  have hx' : K.out n x = false := by simpa using hx
  rw [hx'] at HI
  have hcol : K.col n T x = 0 := by unfold K.col; rw [if_neg (by omega), if_neg hx]
  have hxr : 0 ≤ x ∧ x < n := (K.col_zero hcol).2
  have HA := hid (fun W hx => refAscending_any n hlo hhi a T.length c al cl l W hml hx)
  have HG := hid hg
  unfold K.pal at HA
  by_cases h1 : K.asc n (-1) l = 0
  case neg =>
    have HR : Hid (K.excl n T l x = K.asc n (-1) l) := hid (by unfold K.excl; rw [if_neg (by omega), if_pos h1])
    rw [HR.out]
    have h1b : (K.asc n (-1) l == 0) = false := by simpa using h1
    generalize K.asc n (-1) l = q at *
    clear h1 h0 hg hx hx' hcol hxr
    go_enter Try.func32, Try.ntmps32
    go_wp2_with fail
    generalize w.alloc (.cells #[.int .i64 n, .slice a T.length c] 29) = w1 at *
    refine HC.out.mono ?_
    rintro e w2 ⟨rfl, hb⟩
    have HB2 := hid (HB0.out.trans (hb.mono HB0.out.size))
    have q0 := cell_stays hb (Nat.le_refl _) HK0.out
    have q1 := cell_stays hb (Nat.le_refl _) HK1.out
    have HL2 := hid (HL.out.stays hb)
    clear hb HC k0 k1
    go_wp2_with fail
    refine (HI.out _).mono ?_
    rintro e w3 ⟨rfl, rfl⟩
    go_wp2_with fail
    refine (HA.out _ HL2.out).mono ?_
    rintro e w4 ⟨s, rfl, hs, hb⟩
    have HB3 := hid (HB2.out.trans (hb.mono HB2.out.size))
    clear hb q0 q1 hs
    go_wp2
    go_ret
    exact ⟨rfl, HB3.out⟩
  have hlin := K.asc_zero h1
  have hslt : K.setOf l < 2 ^ n.toNat := K.setOf_lt (fun y hy => by have := hlin y hy; omega)
  have hs7 := K.lt_128 hslt hn7
  obtain ⟨m, rfl⟩ := Int.eq_ofNat_of_zero_le hxr.1
  have HR : Hid (K.excl n T l m = if (K.setOf l).testBit 0 = true ∧ K.grown T (K.setOf l) = K.setOf l then (if (K.setOf l).testBit m = true then 13 else 0) else 22) := hid (by
    unfold K.excl; rw [if_neg (by omega), if_neg (by omega), Int.toNat_natCast])
  rw [HR.out]
  rw [h1] at HA
  have hm64 : (m : Int) ≤ 64 := by omega
  have hlen := hg.few
  clear HR h0 h1 hlin hx hx' hcol hg
  generalize K.setOf l = s at *
  have hand := and_one_i64 hs7
  have HAD := hid (fun W i hi hx => refAdd_any n s i a c T W HG.out hi hslt hx)
  unfold K.pal at HAD
  have hbm := bit_at hs7 m
  have HCI := hid (K.closed_iff (T := T) hs7)
  have HFX := hid (fun r => K.addL_fix (r := r) hs7)
  have hb0 : s.testBit 0 = decide (s % 2 = 1) := by rw [Nat.testBit_zero]
  by_cases hbit : s % 2 = 1
  case neg =>
    rw [if_neg (by rw [hb0]; simp; omega)]
    have h2 : s % 2 = 0 := by omega
    rw [h2] at hand
    clear hbit hb0 hbm h2
    go_enter Try.func32, Try.ntmps32
    go_wp2_with fail
    generalize w.alloc (.cells #[.int .i64 n, .slice a T.length c] 29) = w1 at *
    refine HC.out.mono ?_
    rintro e w2 ⟨rfl, hb⟩
    have HB2 := hid (HB0.out.trans (hb.mono HB0.out.size))
    have q0 := cell_stays hb (Nat.le_refl _) HK0.out
    have q1 := cell_stays hb (Nat.le_refl _) HK1.out
    have HL2 := hid (HL.out.stays hb)
    clear hb HC k0 k1
    go_wp2_with fail
    refine (HI.out _).mono ?_
    rintro e w3 ⟨rfl, rfl⟩
    go_wp2_with fail
    refine (HA.out _ HL2.out).mono ?_
    rintro e w4 ⟨s', rfl, hs', hb⟩
    obtain rfl : s' = s := by simpa using hs'
    have HB3 := hid (HB2.out.trans (hb.mono HB2.out.size))
    clear hb q0 q1 hs'
    go_wp2
    go_ret
    exact ⟨rfl, HB3.out⟩
  have hb1 : s.testBit 0 = true := by rw [hb0]; simpa using hbit
  have HV : Hid ((if s.testBit 0 = true ∧ K.grown T s = s then (if s.testBit m = true then 13 else 0) else 22 : Int) = if K.grown T s = s then (if s.testBit m = true then 13 else 0) else 22) := hid (by simp [hb1])
  rw [HV.out]
  rw [hbit] at hand
  clear HV hb1 hb0 hbit
  obtain ⟨q, hq⟩ : ∃ q : Int, q = if K.grown T s = s then (if s.testBit m = true then 13 else 0) else 22 := ⟨_, rfl⟩
  rw [← hq]
  have HQ := hid hq
  clear hq
  go_enter Try.func32, Try.ntmps32
  go_wp2_with fail
  generalize w.alloc (.cells #[.int .i64 n, .slice a T.length c] 29) = w1 at *
  refine HC.out.mono ?_
  rintro e w2 ⟨rfl, hb⟩
  have HB2 := hid (HB0.out.trans (hb.mono HB0.out.size))
  have q0 := cell_stays hb (Nat.le_refl _) HK0.out
  have q1 := cell_stays hb (Nat.le_refl _) HK1.out
  have HL2 := hid (HL.out.stays hb)
  have HT2 := hid (HT.out.stays hb)
  clear hb HC k0 k1
  go_wp2_with fail
  refine (HI.out _).mono ?_
  rintro e w3 ⟨rfl, rfl⟩
  go_wp2_with fail
  refine (HA.out _ HL2.out).mono ?_
  rintro e w4 ⟨s', rfl, hs', hb⟩
  obtain rfl : s' = s := by simpa using hs'
  have HB4 := hid (HB2.out.trans (hb.mono HB2.out.size))
  have HP0 := hid (cell_stays hb (Nat.le_refl _) q0)
  have HP1 := hid (cell_stays hb (Nat.le_refl _) q1)
  have HT4 := hid (HT2.out.stays hb)
  clear hb q0 q1 hs'
  go_wp2
  go_loopw [9] (fun i wr => ∃ j : Nat, j ≤ T.length ∧ i = .int .i64 j ∧ (∀ r ∈ T.take j, K.addL r s' = s') ∧ Below w4.heap.size w4 wr) (fun i _ => T.length - (intOf i).toNat)
  case atStart => exact ⟨0, Nat.zero_le _, rfl, (fun r hr => by simp at hr), Below.refl _ _⟩
  case round =>
    obtain ⟨j, hj, rfl, hall, hb⟩ := hrel
    have HB := hid hb
    have HALL := hid hall
    have q0 := cell_stays hb (Nat.le_refl _) HP0.out
    have q1 := cell_stays hb (Nat.le_refl _) HP1.out
    have HTj := hid (HT4.out.stays hb)
    clear hb hall
    by_cases hjl : j < T.length
    · have HADj := hid (HAD.out wr j hjl HTj.out)
      have HTK : Hid (∀ r ∈ T.take (j + 1), r ∈ T.take j ∨ r = T[j]) := hid (fun r hr => by rw [List.take_succ_eq_append_getElem hjl, List.mem_append, List.mem_singleton] at hr; exact hr)
      have HMEM := hid (List.getElem_mem hjl)
      generalize hrow : T[j] = row at *
      by_cases hfx : K.addL row s' = s'
      · have HN : Hid (∀ r ∈ T.take (j + 1), K.addL r s' = s') := hid (fun r hr => by
          rcases HTK.out r hr with h | h
          · exact HALL.out r h
          · rw [h]; exact hfx)
        rw [hfx] at HADj
        have hne : ((s' : Int) != (s' : Int)) = false := by simp
        clear hfx hrow
        go_wp2_with fail
        refine HADj.out.mono ?_
        rintro e w5 ⟨rfl, hb5⟩
        have HB5 := hid (HB.out.trans (hb5.mono HB.out.size))
        clear hb5 q0 q1
        go_wp2
        go_roundw
        case rel => exact ⟨j + 1, by omega, by go_num, HN.out, HB5.out⟩
        case measure => simp [intOf]; omega
      · have hne : (((K.addL row s' : Nat) : Int) != (s' : Int)) = true := by simp; omega
        have HQ2 : Hid (q = 22) := hid (by
          rw [HQ.out, if_neg]
          intro h
          have := (HCI.out.1 h) row HMEM.out
          exact hfx ((HFX.out row).2 this))
        generalize K.addL row s' = z at *
        clear hfx hrow
        go_wp2_with fail
        refine HADj.out.mono ?_
        rintro e w5 ⟨rfl, hb5⟩
        have HB5 := hid (HB4.out.trans ((HB.out.trans (hb5.mono HB.out.size)).mono HB4.out.size))
        clear hb5 q0 q1
        go_wp2
        go_ret
        exact ⟨ret_int HQ2.out.symm, HB5.out⟩
    · have hje : j = T.length := by omega
      subst hje
      have HQ2 : Hid (q = if s'.testBit m = true then 13 else 0) := hid (by
        rw [HQ.out, if_pos]
        refine HCI.out.2 fun r hr => (HFX.out r).1 (HALL.out r ?_)
        rw [List.take_length]; exact hr)
      have HBZ := hid (HB4.out.trans (HB.out.mono HB4.out.size))
      by_cases hbt : s'.testBit m = true
      · rw [if_pos hbt] at hbm HQ2
        clear hbt
        go_wp2
        go_ret
        exact ⟨ret_int HQ2.out.symm, HBZ.out⟩
      · rw [if_neg hbt] at hbm HQ2
        clear hbt
        go_wp2
        go_ret
        exact ⟨ret_int HQ2.out.symm, HBZ.out⟩
end Go.Proofs.Ytapndndbibgjoaa
