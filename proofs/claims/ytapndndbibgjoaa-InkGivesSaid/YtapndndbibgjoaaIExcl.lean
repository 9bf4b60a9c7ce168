/- Package ink: the walk of Excludes. -/
import Derived.Test.YtapndndbibgjoaaIEver
namespace Go.Proofs.Ytapndndbibgjoaa
open Go.RowKit

/-- The answer of checkColour. -/
def K.col (n : Int) (T : List (List Int)) (x : Int) : Int := if K.check n T ≠ 0 then K.check n T else if K.out n x = true then 4 else 0
/-- The answer of Excludes. -/
def K.excl (n : Int) (T : List (List Int)) (l : List Int) (x : Int) : Int :=
  if K.col n T x ≠ 0 then K.col n T x else if K.asc n (-1) l ≠ 0 then K.asc n (-1) l
  else if (K.setOf l).testBit 0 = true ∧ K.grown T (K.setOf l) = K.setOf l then (if (K.setOf l).testBit x.toNat = true then 13 else 0) else 22

theorem K.col_zero {n : Int} {T : List (List Int)} {x : Int} (h : K.col n T x = 0) : K.check n T = 0 ∧ 0 ≤ x ∧ x < n := by
  unfold K.col at h
  split at h
  · rename_i h1; exact absurd h h1
  rename_i h1
  split at h
  · omega
  rename_i h2
  unfold K.out at h2
  simp at h2
  exact ⟨by simpa using h1, by omega, by omega⟩

theorem K.asc_zero {n : Int} : ∀ {l : List Int} {p : Int}, K.asc n p l = 0 → ∀ x ∈ l, 0 ≤ x ∧ x < n
  | [], _, _, x, hx => by cases hx
  | y :: l, p, h, x, hx => by
    unfold K.asc at h
    split at h
    · omega
    rename_i h1
    split at h
    · omega
    rcases List.mem_cons.1 hx with rfl | hx
    · unfold K.out at h1
      simp at h1
      omega
    · exact K.asc_zero h x hx

set_option maxHeartbeats 4000000 in
set_option maxRecDepth 100000 in
theorem excludes_any (n x : Int) (a al : Option Addr) (c cl : Nat) (T : List (List Int)) (l : List Int) (w : World) (hm : T.length ≤ maxLen) (hml : l.length ≤ maxLen) (hT : RdM w a T) (hl : RdI w al l) :
    Calls Try.prog 31 #[K.pal n a T.length c, .slice al l.length cl, .int .i64 x] w fun e w' => e = .returned (.int .i64 (K.excl n T l x)) ∧ Below w.heap.size w w' := by
  have hb0 : Below w.heap.size w (w.alloc (.cells #[.int .i64 n, .slice a T.length c] 24)) := (Below.refl _ _).alloc (Nat.le_refl _) _
  have k0 : (w.alloc (.cells #[.int .i64 n, .slice a T.length c] 24)).cell? ⟨w.heap.size, 0, none⟩ = some (.int .i64 n) := by rw [World.cell?_alloc_at _ _ _ _ rfl]; rfl
  have k1 : (w.alloc (.cells #[.int .i64 n, .slice a T.length c] 24)).cell? ⟨w.heap.size, 1, none⟩ = some (.slice a T.length c) := by rw [World.cell?_alloc_at _ _ _ _ rfl]; rfl
  have HB0 := hid hb0
  have HK0 := hid k0
  have HK1 := hid k1
  have HT := hid (hT.stays hb0)
  have HL := hid (hl.stays hb0)
  have HC : Hid (∀ W, RdM W a T → Calls Try.prog 71 #[K.pal n a T.length c, .int .i64 x] W fun e w' => e = .returned (.int .i64 (K.col n T x)) ∧ Below W.heap.size W w') := hid (fun W hx => checkColour_any n x a c T W hm hx)
  have HA := hid (fun W hx => checkAscending_any n a T.length c al cl l W hml hx)
  clear hb0 hT hl
  unfold K.pal at HC HA ⊢
  by_cases h0 : K.col n T x = 0
  case neg =>
    have HR : Hid (K.excl n T l x = K.col n T x) := hid (by unfold K.excl; rw [if_pos h0])
    rw [HR.out]
    have h0b : (K.col n T x == 0) = false := by simpa using h0
    generalize K.col n T x = q at *
    clear h0
    go_enter Try.func31, Try.ntmps31
    go_wp2_with fail
    generalize w.alloc (.cells #[.int .i64 n, .slice a T.length c] 24) = w1 at *
    refine (HC.out _ HT.out).mono ?_
    rintro e w2 ⟨rfl, hb⟩
    have HB2 := hid (HB0.out.trans (hb.mono HB0.out.size))
    clear hb HC k0 k1
    go_wp2
    go_ret
    exact ⟨rfl, HB2.out⟩
  obtain ⟨hck, hx0, hxn⟩ := K.col_zero h0
  have hg := K.good_of hck
  have hn7 : n.toNat ≤ 7 := by have := hg.hi; omega
  have hn1 : 1 ≤ n.toNat := by have := hg.lo; omega
  by_cases h1 : K.asc n (-1) l = 0
  case neg =>
    have HR : Hid (K.excl n T l x = K.asc n (-1) l) := hid (by unfold K.excl; rw [if_neg (by omega), if_pos h1])
    rw [HR.out]
    rw [h0] at HC
    have h1b : (K.asc n (-1) l == 0) = false := by simpa using h1
    generalize K.asc n (-1) l = q at *
    clear h1 h0 hck hg
    go_enter Try.func31, Try.ntmps31
    go_wp2_with fail
    generalize w.alloc (.cells #[.int .i64 n, .slice a T.length c] 24) = w1 at *
    refine (HC.out _ HT.out).mono ?_
    rintro e w2 ⟨rfl, hb⟩
    have HB2 := hid (HB0.out.trans (hb.mono HB0.out.size))
    have q0 := cell_stays hb (Nat.le_refl _) HK0.out
    have q1 := cell_stays hb (Nat.le_refl _) HK1.out
    have HL2 := hid (HL.out.stays hb)
    clear hb HC k0 k1
    go_wp2_with fail
    refine (HA.out _ HL2.out).mono ?_
    rintro e w3 ⟨rfl, hb⟩
    have HB3 := hid (HB2.out.trans (hb.mono HB2.out.size))
    clear hb q0 q1
    go_wp2
    go_ret
    exact ⟨rfl, HB3.out⟩
  have hlin := K.asc_zero h1
  have hslt : K.setOf l < 2 ^ n.toNat := K.setOf_lt (fun y hy => by have := hlin y hy; omega)
  have hs7 := K.lt_128 hslt hn7
  obtain ⟨m, rfl⟩ := Int.eq_ofNat_of_zero_le hx0
  have HS := hid (fun W hx => setOf_any n.toNat hn7 al cl l W hml (fun y hy => by have := hlin y hy; omega) hx)
  have HH := hid (fun W => setHas_any (K.setOf l) 0 W hs7 (by decide))
  have HM := hid (fun W => setHas_any (K.setOf l) m W hs7 (by omega))
  have HI := hid (fun W hx => inksOf_any n a c T W hg hx)
  have HG := hid hg
  have HR : Hid (K.excl n T l m = if (K.setOf l).testBit 0 = true ∧ K.grown T (K.setOf l) = K.setOf l then (if (K.setOf l).testBit m = true then 13 else 0) else 22) := hid (by
    unfold K.excl; rw [if_neg (by omega), if_neg (by omega), Int.toNat_natCast])
  rw [HR.out]
  rw [h0] at HC
  rw [h1] at HA
  unfold K.pal at HI
  clear HR h0 h1 hck hlin hg hx0
  generalize K.setOf l = s at *
  by_cases hb0 : s.testBit 0 = true
  case neg =>
    rw [if_neg (fun h => hb0 h.1)]
    rw [show s.testBit 0 = false from by simpa using hb0] at HH
    clear hb0
    go_enter Try.func31, Try.ntmps31
    go_wp2_with fail
    generalize w.alloc (.cells #[.int .i64 n, .slice a T.length c] 24) = w1 at *
    refine (HC.out _ HT.out).mono ?_
    rintro e w2 ⟨rfl, hb⟩
    have HB2 := hid (HB0.out.trans (hb.mono HB0.out.size))
    have q0 := cell_stays hb (Nat.le_refl _) HK0.out
    have q1 := cell_stays hb (Nat.le_refl _) HK1.out
    have HL2 := hid (HL.out.stays hb)
    clear hb HC k0 k1
    go_wp2_with fail
    refine (HA.out _ HL2.out).mono ?_
    rintro e w3 ⟨rfl, hb⟩
    have HB3 := hid (HB2.out.trans (hb.mono HB2.out.size))
    have HL3 := hid (HL2.out.stays hb)
    clear hb q0 q1
    go_wp2_with fail
    refine (HS.out _ HL3.out).mono ?_
    rintro e w4 ⟨rfl, hb⟩
    have HB4 := hid (HB3.out.trans (hb.mono HB3.out.size))
    clear hb
    go_wp2_with fail
    refine (HH.out _).mono ?_
    rintro e w5 ⟨rfl, hb⟩
    have HB5 := hid (HB4.out.trans (hb.mono HB4.out.size))
    clear hb
    go_wp2
    go_ret
    exact ⟨rfl, HB5.out⟩
  rw [hb0] at HH
  have HCL := hid (fun r cr W hx => closed_any n s r cr T W HG.out hslt hb0 hx)
  obtain ⟨v, hv⟩ : ∃ v, v = decide (K.grown T s = s) := ⟨_, rfl⟩
  rw [← hv] at HCL
  have HV : Hid ((if s.testBit 0 = true ∧ K.grown T s = s then (if s.testBit m = true then 13 else 0) else 22 : Int) = if v = true then (if s.testBit m = true then 13 else 0) else 22) := hid (by
    rw [hv]; simp [hb0])
  rw [HV.out]
  clear HV hv hb0
  obtain ⟨u, hu⟩ : ∃ u, u = s.testBit m := ⟨_, rfl⟩
  rw [← hu] at HM ⊢
  clear hu
  cases v with
  | false =>
    rw [if_neg (by simp)]
    go_enter Try.func31, Try.ntmps31
    go_wp2_with fail
    generalize w.alloc (.cells #[.int .i64 n, .slice a T.length c] 24) = w1 at *
    refine (HC.out _ HT.out).mono ?_
    rintro e w2 ⟨rfl, hb⟩
    have HB2 := hid (HB0.out.trans (hb.mono HB0.out.size))
    have q0 := cell_stays hb (Nat.le_refl _) HK0.out
    have q1 := cell_stays hb (Nat.le_refl _) HK1.out
    have HL2 := hid (HL.out.stays hb)
    have HT2 := hid (HT.out.stays hb)
    clear hb HC k0 k1
    go_wp2_with fail
    refine (HA.out _ HL2.out).mono ?_
    rintro e w3 ⟨rfl, hb⟩
    have HB3 := hid (HB2.out.trans (hb.mono HB2.out.size))
    have p0 := cell_stays hb (Nat.le_refl _) q0
    have p1 := cell_stays hb (Nat.le_refl _) q1
    have HL3 := hid (HL2.out.stays hb)
    have HT3 := hid (HT2.out.stays hb)
    clear hb q0 q1
    go_wp2_with fail
    refine (HS.out _ HL3.out).mono ?_
    rintro e w4 ⟨rfl, hb⟩
    have HB4 := hid (HB3.out.trans (hb.mono HB3.out.size))
    have q0 := cell_stays hb (Nat.le_refl _) p0
    have q1 := cell_stays hb (Nat.le_refl _) p1
    have HT4 := hid (HT3.out.stays hb)
    clear hb p0 p1
    go_wp2_with fail
    refine (HH.out _).mono ?_
    rintro e w5 ⟨rfl, hb⟩
    have HB5 := hid (HB4.out.trans (hb.mono HB4.out.size))
    have p0 := cell_stays hb (Nat.le_refl _) q0
    have p1 := cell_stays hb (Nat.le_refl _) q1
    have HT5 := hid (HT4.out.stays hb)
    clear hb q0 q1
    go_wp2_with fail
    refine (HI.out _ HT5.out).mono ?_
    rintro e w6 ⟨r6, c6, rfl, hc6, hv6, hb⟩
    have HV6 := hid hv6
    have HB6 := hid (HB5.out.trans (hb.mono HB5.out.size))
    clear hb p0 p1 hv6
    go_wp2_with fail
    refine (HCL.out _ _ _ HV6.out).mono ?_
    rintro e w7 ⟨rfl, hb⟩
    have HB7 := hid (HB6.out.trans (hb.mono HB6.out.size))
    clear hb
    go_wp2
    go_ret
    exact ⟨rfl, HB7.out⟩
  | true =>
    rw [if_pos rfl]
    cases u
    all_goals
      first | rw [if_pos rfl] | rw [if_neg (by simp)]
      go_enter Try.func31, Try.ntmps31
      go_wp2_with fail
      generalize w.alloc (.cells #[.int .i64 n, .slice a T.length c] 24) = w1 at *
      refine (HC.out _ HT.out).mono ?_
      rintro e w2 ⟨rfl, hb⟩
      have HB2 := hid (HB0.out.trans (hb.mono HB0.out.size))
      have q0 := cell_stays hb (Nat.le_refl _) HK0.out
      have q1 := cell_stays hb (Nat.le_refl _) HK1.out
      have HL2 := hid (HL.out.stays hb)
      have HT2 := hid (HT.out.stays hb)
      clear hb HC k0 k1
      go_wp2_with fail
      refine (HA.out _ HL2.out).mono ?_
      rintro e w3 ⟨rfl, hb⟩
      have HB3 := hid (HB2.out.trans (hb.mono HB2.out.size))
      have p0 := cell_stays hb (Nat.le_refl _) q0
      have p1 := cell_stays hb (Nat.le_refl _) q1
      have HL3 := hid (HL2.out.stays hb)
      have HT3 := hid (HT2.out.stays hb)
      clear hb q0 q1
      go_wp2_with fail
      refine (HS.out _ HL3.out).mono ?_
      rintro e w4 ⟨rfl, hb⟩
      have HB4 := hid (HB3.out.trans (hb.mono HB3.out.size))
      have q0 := cell_stays hb (Nat.le_refl _) p0
      have q1 := cell_stays hb (Nat.le_refl _) p1
      have HT4 := hid (HT3.out.stays hb)
      clear hb p0 p1
      go_wp2_with fail
      refine (HH.out _).mono ?_
      rintro e w5 ⟨rfl, hb⟩
      have HB5 := hid (HB4.out.trans (hb.mono HB4.out.size))
      have p0 := cell_stays hb (Nat.le_refl _) q0
      have p1 := cell_stays hb (Nat.le_refl _) q1
      have HT5 := hid (HT4.out.stays hb)
      clear hb q0 q1
      go_wp2_with fail
      refine (HI.out _ HT5.out).mono ?_
      rintro e w6 ⟨r6, c6, rfl, hc6, hv6, hb⟩
      have HV6 := hid hv6
      have HB6 := hid (HB5.out.trans (hb.mono HB5.out.size))
      clear hb p0 p1 hv6
      go_wp2_with fail
      refine (HCL.out _ _ _ HV6.out).mono ?_
      rintro e w7 ⟨rfl, hb⟩
      have HB7 := hid (HB6.out.trans (hb.mono HB6.out.size))
      clear hb
      go_wp2_with fail
      refine (HM.out _).mono ?_
      rintro e w8 ⟨rfl, hb⟩
      have HB8 := hid (HB7.out.trans (hb.mono HB7.out.size))
      clear hb
      go_wp2
      go_ret
      exact ⟨rfl, HB8.out⟩
end Go.Proofs.Ytapndndbibgjoaa
