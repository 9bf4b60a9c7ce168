/- The law SerialLines: computed tables are tables, and have blind spots and twins just by common divisors. No condition. -/
import Derived.Test.YtafpfcjemlonpaaWorks
import Derived.Test.YtafpfcjemlonpaaTwins
import Derived.Test.YtafpfcjemlonpaaOpen
import Derived.ShutString
import Derived.ChangeOld
import Derived.Below
namespace Go.Proofs.Ytafpfcjemlonpaa
open Go.ChangeShapes Go.WideShapes Go.ChangeAt Go.RowKit

/-- A number above 1 divides both. -/
def P.common (n a : Nat) : Bool := (List.range (n + 1)).any fun d => decide (2 ≤ d) && (n % d == 0 && a % d == 0)

/-- What is asked of a base and a step. -/
def P.lineOk (n k : Nat) : Bool := P.common n k == decide (1 < Nat.gcd n k) && (decide (1 < Nat.gcd n k) ||
  (P.check (P.lineT n k) == 0 && (decide (0 < (P.blind (P.lineT n k)).length) == P.common n (k - 1) && decide (0 < (P.twins (P.lineT n k)).length) == P.common n (k + 1))))

theorem lines_all : ((List.range 11).all fun n => (List.range n).all fun k => decide (n < 2) || decide (k < 1) || P.lineOk n k) = true := by decide +kernel

theorem lines_fin (n k : Nat) (h1 : n < 11) (h2 : k < n) (h3 : 2 ≤ n) (h4 : 1 ≤ k) : P.common n k = decide (1 < Nat.gcd n k) ∧ (Nat.gcd n k ≤ 1 →
    P.check (P.lineT n k) = 0 ∧ decide (0 < (P.blind (P.lineT n k)).length) = P.common n (k - 1) ∧ decide (0 < (P.twins (P.lineT n k)).length) = P.common n (k + 1)) := by
  have h := List.all_eq_true.1 (List.all_eq_true.1 lines_all n (List.mem_range.2 h1)) k (List.mem_range.2 h2)
  rw [decide_eq_false (show ¬ n < 2 by omega), decide_eq_false (show ¬ k < 1 by omega)] at h
  simp only [Bool.false_or, P.lineOk, Bool.and_eq_true, Bool.or_eq_true, beq_iff_eq, decide_eq_true_eq] at h
  refine ⟨h.1, fun hg => ?_⟩
  rcases h.2 with h5 | h5
  · omega
  · exact ⟨h5.1, h5.2.1, h5.2.2⟩

/-- A divisor from d on. -/
def P.commonFrom (n a : Nat) : Nat → Nat → Bool
  | 0, _ => false
  | m + 1, d => (n % d == 0 && a % d == 0) || P.commonFrom n a m (d + 1)

theorem commonFrom_eq (n a : Nat) : ∀ m d, P.commonFrom n a m d = (List.range m).any fun j => n % (d + j) == 0 && a % (d + j) == 0 := by
  intro m
  induction m with
  | zero => intro d; rfl
  | succ m ih =>
    intro d
    rw [P.commonFrom, ih (d + 1), List.range_succ_eq_map, List.any_cons, List.any_map]
    have e : ((fun j => n % (d + j) == 0 && a % (d + j) == 0) ∘ Nat.succ) = fun j => n % (d + 1 + j) == 0 && a % (d + 1 + j) == 0 := by
      funext j
      simp only [Function.comp]
      rw [show d + Nat.succ j = d + 1 + j from by omega]
    rw [e]
    rfl

theorem common_eq (n a : Nat) (hn : 2 ≤ n) : P.common n a = P.commonFrom n a (n - 1) 2 := by
  rw [commonFrom_eq]
  unfold P.common
  rw [Bool.eq_iff_iff, List.any_eq_true, List.any_eq_true]
  constructor
  · rintro ⟨d, hd, h⟩
    rw [Bool.and_eq_true, decide_eq_true_eq] at h
    have := List.mem_range.1 hd
    refine ⟨d - 2, List.mem_range.2 (by omega), ?_⟩
    rw [show 2 + (d - 2) = d from by omega]
    exact h.2
  · rintro ⟨j, hj, h⟩
    have := List.mem_range.1 hj
    refine ⟨2 + j, List.mem_range.2 (by omega), ?_⟩
    rw [Bool.and_eq_true, decide_eq_true_eq]
    exact ⟨by omega, h⟩

set_option maxHeartbeats 1000000 in
theorem common1_any (B n a : Nat) (w : World) (hn : 2 ≤ n) (hn2 : n ≤ 10) (ha : a ≤ 20) (hB : w.cell? ⟨B, 0, none⟩ = some (.int .i64 n)) :
    Calls Try.prog 53 #[.int .i64 a, .pointer (some ⟨B, 0, none⟩)] w fun e w' => e = .returned (.bool (P.common n a)) ∧ w = w' := by
  rw [common_eq n a hn]
  obtain ⟨res, hres⟩ : ∃ res, res = P.commonFrom n a (n - 1) 2 := ⟨_, rfl⟩
  rw [← hres]
  have HR := hid hres
  clear hres
  go_enter Try.func53, Try.ntmps53
  go_wp2
  go_loop [4] (fun i => ∃ d : Nat, 2 ≤ d ∧ d ≤ n + 1 ∧ i = .int .i64 d ∧ P.commonFrom n a (n + 1 - d) d = res) (fun i => n + 1 - (intOf i).toNat)
  case atStart => exact ⟨2, by omega, by omega, rfl, by rw [HR.out]; rfl⟩
  case round =>
    obtain ⟨d, hd2, hdn, rfl, hc⟩ := hrel
    have HC := hid hc; clear hc
    by_cases hlt : d ≤ n
    · have hs : P.commonFrom n a (n + 1 - d) d = ((n % d == 0 && a % d == 0) || P.commonFrom n a (n + 1 - (d + 1)) (d + 1)) := by
        rw [show n + 1 - d = n + 1 - (d + 1) + 1 from by omega]; rfl
      have HS := hid hs
      clear hs
      have hd0 : ¬ (d : Int) = 0 := by omega
      have e1 : (n : Int) % (d : Int) = ((n % d : Nat) : Int) := by simp
      have e2 : (a : Int) % (d : Int) = ((a % d : Nat) : Int) := by simp
      by_cases h1 : n % d = 0
      · have t1 : ((n : Int) % (d : Int) == 0) = true := by rw [e1, h1]; rfl
        by_cases h2 : a % d = 0
        · have t2 : ((a : Int) % (d : Int) == 0) = true := by rw [e2, h2]; rfl
          have HF : Hid (res = true) := hid (by rw [← HC.out, HS.out, h1, h2]; rfl)
          clear h1 h2 e1 e2
          go_wp2
          go_ret
          exact ⟨ret_bool HF.out.symm, rfl⟩
        · have t2 : ((a : Int) % (d : Int) == 0) = false := by rw [e2, beq_eq_false_iff_ne]; omega
          have HF : Hid (P.commonFrom n a (n + 1 - (d + 1)) (d + 1) = res) := hid (by
            rw [← HC.out, HS.out, show (a % d == 0) = false from by rw [beq_eq_false_iff_ne]; exact h2]; simp)
          clear h1 h2 e1 e2
          go_wp2
          go_round
          case rel => exact ⟨d + 1, by omega, by omega, by go_num, HF.out⟩
          case measure => simp [intOf]; omega
      · have t1 : ((n : Int) % (d : Int) == 0) = false := by rw [e1, beq_eq_false_iff_ne]; omega
        have HF : Hid (P.commonFrom n a (n + 1 - (d + 1)) (d + 1) = res) := hid (by
          rw [← HC.out, HS.out, show (n % d == 0) = false from by rw [beq_eq_false_iff_ne]; exact h1]; simp)
        clear h1 e1 e2
        go_wp2
        go_round
        case rel => exact ⟨d + 1, by omega, by omega, by go_num, HF.out⟩
        case measure => simp [intOf]; omega
    · have hdn' : n + 1 - d = 0 := by omega
      have HF : Hid (res = false) := hid (by rw [← HC.out, hdn']; rfl)
      clear hdn'
      go_wp2
      go_ret
      exact ⟨ret_bool HF.out.symm, rfl⟩

theorem blind_l (a : Option Addr) (c n : Nat) (T : List (List Int)) (w : World) (hn : T.length = n) (hT : RdM w a T) :
    Calls Try.prog 23 #[.slice a n c] w fun e w' => ∃ r cr, e = .returned (.tuple #[.slice r (P.blind T).length cr, .int .i64 (P.check T)]) ∧ Below w.heap.size w w' := by
  subst hn
  refine (blind_any a c T w hT).mono ?_
  rintro e w' ⟨r, cr, xs, rfl, hxs, hr, hb⟩
  subst hxs
  exact ⟨r, cr, rfl, hb⟩

theorem twins_l (a : Option Addr) (c n : Nat) (T : List (List Int)) (w : World) (hn : T.length = n) (hT : RdM w a T) :
    Calls Try.prog 25 #[.slice a n c] w fun e w' => ∃ r cr, e = .returned (.tuple #[.slice r (P.twins T).length cr, .int .i64 (P.check T)]) ∧ Below w.heap.size w w' := by
  subst hn
  refine (twins_any a c T w hT).mono ?_
  rintro e w' ⟨r, cr, xs, rfl, hxs, hr, hb⟩
  subst hxs
  exact ⟨r, cr, rfl, hb⟩

theorem check_l (a : Option Addr) (c n : Nat) (T : List (List Int)) (w : World) (hn : T.length = n) (hT : RdM w a T) :
    Calls Try.prog 29 #[.slice a n c] w fun e w' => e = .returned (.int .i64 (P.check T)) ∧ Below w.heap.size w w' := by
  subst hn
  exact check_any a c T w hT

/-- What the law does behind its two numbers. -/
theorem line_l (n k : Nat) (hn2 : 2 ≤ n) (hn : n ≤ 10) (hk1 : 1 ≤ k) (hk : k ≤ n - 1) (hg : Nat.gcd n k ≤ 1) (w : World) :
    Calls Try.prog 21 #[.int .i64 n, .int .i64 k] w fun e w' => ∃ r cr, e = .returned (.tuple #[.slice r n cr, .int .i64 0]) ∧ RdM w' r (P.lineT n k) ∧ Below w.heap.size w w' :=
  line_good n k w hn2 hn hk1 hk hg

theorem line_no (n k : Nat) (hn2 : 2 ≤ n) (hn : n ≤ 10) (hk1 : 1 ≤ k) (hk : k ≤ n - 1) (hg : 1 < Nat.gcd n k) (w : World) :
    Calls Try.prog 21 #[.int .i64 n, .int .i64 k] w fun e w' => ∃ r cr, e = .returned (.tuple #[.slice r 0 cr, .int .i64 12]) ∧ Below w.heap.size w w' := by
  refine (line_any n k w).mono ?_
  rintro e w' ⟨r, cr, T, rfl, hT, hr, hb⟩
  have e1 : P.line n k = ([], 12) := by
    unfold P.line
    rw [if_neg (by omega), Int.toNat_natCast, Int.toNat_natCast, if_pos hg]
  rw [e1] at hT ⊢
  subst hT
  exact ⟨r, cr, rfl, hb⟩

set_option maxHeartbeats 8000000 in
set_option maxRecDepth 100000 in
/-- The law's walk. -/
theorem serialLines_walk (w : World) (a0 : Int) (w0 : (Lit.int .u8 a0).wf = true) (a1 : Int) (w1 : (Lit.int .u8 a1).wf = true) :
    Calls Try.prog 11 #[.int .u8 a0, .int .u8 a1] w fun e w' => e = .returned (.bool true) ∧ Below w.heap.size w w' := by
  have hmf : ∀ (fn : Fn) (first cap : Array Value) (w : World), (Instr.makeFunc fn first cap).run Try.prog w = .ok (.func fn first cap) w := fun _ _ _ _ => rfl
  have hmin : IntKind.u8.min = 0 := rfl
  have hmax : IntKind.u8.max = 255 := rfl
  have b0 : 0 ≤ a0 ∧ a0 ≤ 255 := by simp only [Lit.wf, Bool.and_eq_true, decide_eq_true_eq] at w0; omega
  have b1 : 0 ≤ a1 ∧ a1 ≤ 255 := by simp only [Lit.wf, Bool.and_eq_true, decide_eq_true_eq] at w1; omega
  clear hmin hmax
  obtain ⟨b0l, b0h⟩ := b0
  obtain ⟨b1l, b1h⟩ := b1
  clear w0 w1
  obtain ⟨n, hN⟩ : ∃ n : Nat, 2 + a0 % 9 = (n : Int) := ⟨(2 + a0 % 9).toNat, by omega⟩
  have hn2 : 2 ≤ n := by omega
  have hn10 : n ≤ 10 := by omega
  have m1 := Int.emod_nonneg a1 (show (n : Int) - 1 ≠ 0 by omega)
  have m2 := Int.emod_lt_of_pos a1 (show (0 : Int) < (n : Int) - 1 by omega)
  obtain ⟨k, hK⟩ : ∃ k : Nat, 1 + a1 % ((n : Int) - 1) = (k : Int) := ⟨(1 + a1 % ((n : Int) - 1)).toNat, by omega⟩
  have hk1 : 1 ≤ k := by omega
  have hkn : k ≤ n - 1 := by omega
  have hz1 : ¬ (n : Int) - 1 = 0 := by omega
  have hfin := lines_fin n k (by omega) (by omega) hn2 hk1
  have hB1 : Below w.heap.size w (w.alloc (.cells #[.int .i64 (n : Int)] 3)) := (Below.refl _ _).alloc (Nat.le_refl _) _
  have hc0 : (w.alloc (.cells #[.int .i64 (n : Int)] 3)).cell? ⟨w.heap.size, 0, none⟩ = some (.int .i64 (n : Int)) := by
    rw [World.cell?_alloc_at _ _ _ _ rfl]; rfl
  have HCM := hid (fun (w' : World) (a : Nat) (ha : a ≤ 20) (hB : w'.cell? ⟨w.heap.size, 0, none⟩ = some (.int .i64 (n : Int))) => common1_any w.heap.size n a w' hn2 hn10 ha hB)
  have HCX := hid (fun (w' : World) (a : Nat) (x : Int) (hx : x = a) (ha : a ≤ 20) (hB : w'.cell? ⟨w.heap.size, 0, none⟩ = some (.int .i64 (n : Int))) => (show Calls Try.prog 53 #[.int .i64 x, .pointer (some ⟨w.heap.size, 0, none⟩)] w' fun e w2 => e = .returned (.bool (P.common n a)) ∧ w' = w2 from by subst hx; exact common1_any w.heap.size n a w' hn2 hn10 ha hB))
  by_cases hg : 1 < Nat.gcd n k
  · have hcm := hfin.1
    rw [decide_eq_true hg] at hcm
    have HL := hid (line_no n k hn2 hn10 hk1 hkn hg)
    have HB := hid hB1
    have HC0 := hid hc0
    have HCMK := hid hcm
    clear hfin hg hB1 hc0 hcm
    go_enter Try.func11, Try.ntmps11
    go_wp2_with fail
    clear hN hK m1 m2
    refine (HL.out _).mono ?_
    rintro e w2 ⟨r, cr, rfl, hb⟩
    have hc := cell_stays hb (Nat.le_refl _) HC0.out
    have HB2 := hid (HB.out.trans (hb.mono HB.out.size))
    have hcc := HCM.out w2 k (by omega) hc
    rw [HCMK.out] at hcc
    have HCC := hid hcc
    clear hb hcc
    go_wp2_with fail
    refine HCC.out.mono ?_
    rintro e w3 ⟨rfl, rfl⟩
    go_wp2_with fail
    refine (works_any _).mono ?_
    rintro e w4 ⟨rfl, hb⟩
    go_wp2
    go_ret
    exact ⟨rfl, HB2.out.trans (hb.mono HB2.out.size)⟩
  · have hcm := hfin.1
    rw [decide_eq_false hg] at hcm
    obtain ⟨hck, hbl, htw⟩ := hfin.2 (by omega)
    have HL := hid (line_l n k hn2 hn10 hk1 hkn (by omega))
    have hTl : (P.lineT n k).length = n := by simp [P.lineT]
    have HB := hid hB1
    have HC0 := hid hc0
    have HCMK := hid hcm
    have HBL := hid (fun w' a c hT => blind_l a c n (P.lineT n k) w' hTl hT)
    have HTW := hid (fun w' a c hT => twins_l a c n (P.lineT n k) w' hTl hT)
    have HCK := hid (fun w' a c hT => check_l a c n (P.lineT n k) w' hTl hT)
    have HE1 := hid hck
    have HE2 := hid hbl
    have HE3 := hid htw
    have HTL := hid hTl
    clear hfin hg hB1 hc0 hcm hck hbl htw hTl
    go_enter Try.func11, Try.ntmps11
    go_wp2_with fail
    clear hN hK m1 m2
    refine (HL.out _).mono ?_
    rintro e w2 ⟨r, cr, rfl, hr, hb⟩
    have hc := cell_stays hb (Nat.le_refl _) HC0.out
    have HB2 := hid (HB.out.trans (hb.mono HB.out.size))
    have hcc := HCM.out w2 k (by omega) hc
    rw [HCMK.out] at hcc
    have HCC := hid hcc
    have HR := hid hr
    clear hb hcc hr
    have hnn : ((n : Int) != (n : Int)) = false := by simp
    go_wp2_with fail
    refine HCC.out.mono ?_
    rintro e w3 ⟨rfl, rfl⟩
    go_wp2
    go_loop [58] (fun i => ∃ s : Nat, s ≤ n ∧ i = .int .i64 s) (fun i => n - (intOf i).toNat)
    case atStart => exact ⟨0, Nat.zero_le _, rfl⟩
    case round =>
      obtain ⟨s, hs, rfl⟩ := hrel
      by_cases hsl : s < n
      · obtain ⟨b, off, r2, c2, rfl, hrow, hrd⟩ := HR.out s (by rw [HTL.out]; exact hsl)
        have el : (P.lineT n k)[s]'(by rw [HTL.out]; exact hsl) = P.lineRow n k s := by simp [P.lineT]
        have ell : (P.lineRow n k s).length = n := by simp [P.lineRow]
        rw [el] at hrow hrd
        rw [ell] at hrow
        have HRD := hid hrd
        have HEL := hid ell
        have i1 : (0 : Int) ≤ (s : Int) ∧ (s : Int) < (n : Int) := by omega
        have hp0 : (0 : Int) ≤ (k : Int) * (s : Int) := Int.mul_nonneg (by omega) (by omega)
        have hp1 : (k : Int) * (s : Int) ≤ 100 := by
          have : k * s ≤ 10 * 10 := Nat.mul_le_mul (by omega) (by omega)
          rw [← Int.natCast_mul]; omega
        have hz : ¬ (n : Int) = 0 := by omega
        clear hrd el ell
        go_wp2
        go_loop [69] (fun i => ∃ d : Nat, d ≤ n ∧ i = .int .i64 d) (fun i => n - (intOf i).toNat)
        case atStart => exact ⟨0, Nat.zero_le _, rfl⟩
        case round =>
          obtain ⟨d, hd, rfl⟩ := hrel
          by_cases hdl : d < n
          · obtain ⟨b2, o2, rfl, hcell⟩ := HRD.out d (by rw [HEL.out]; exact hdl)
            have ev : (P.lineRow n k s)[d]'(by rw [HEL.out]; exact hdl) = ((k : Int) * (s : Int) + (d : Int)) % (n : Int) := by simp [P.lineRow]
            rw [ev] at hcell
            have i2 : (0 : Int) ≤ (d : Int) ∧ (d : Int) < (n : Int) := by omega
            have hxx : (((k : Int) * (s : Int) + (d : Int)) % (n : Int) != ((k : Int) * (s : Int) + (d : Int)) % (n : Int)) = false := by simp
            clear ev
            go_wp2
            go_round
            case rel => exact ⟨d + 1, by omega, by go_num⟩
            case measure => simp [intOf]; omega
          · go_wp2
            go_round
            case rel => exact ⟨s + 1, by omega, by go_num⟩
            case measure => simp [intOf]; omega
      · have hc1 := HBL.out w2 r cr HR.out
        rw [HE1.out] at hc1
        have H1 := hid hc1
        clear hc1
        go_wp2_with fail
        refine H1.out.mono ?_
        rintro e w3 ⟨r3, c3, rfl, hb3⟩
        have hc := cell_stays hb3 (Nat.le_refl _) hc
        have HR3 := hid (HR.out.stays hb3)
        have HB3 := hid (HB2.out.trans (hb3.mono HB2.out.size))
        have hc2 := HTW.out w3 r cr HR3.out
        rw [HE1.out] at hc2
        have H2 := hid hc2
        clear hb3 hc2 H1
        go_wp2_with fail
        refine H2.out.mono ?_
        rintro e w4 ⟨r4, c4, rfl, hb4⟩
        have hc := cell_stays hb4 (Nat.le_refl _) hc
        have HR4 := hid (HR3.out.stays hb4)
        have HB4 := hid (HB3.out.trans (hb4.mono HB3.out.size))
        have hc3 := HCK.out w4 r cr HR4.out
        rw [HE1.out] at hc3
        have H3 := hid hc3
        clear hb4 hc3 H2
        go_wp2_with fail
        refine H3.out.mono ?_
        rintro e w5 ⟨rfl, hb5⟩
        have hc := cell_stays hb5 (Nat.le_refl _) hc
        have HB5 := hid (HB4.out.trans (hb5.mono HB4.out.size))
        have hc4 := HCX.out w5 (k - 1) ((k : Int) - 1) (by omega) (by omega) hc
        have hc5 := HCX.out w5 (k + 1) ((k : Int) + 1) (by omega) (by omega) hc
        have e4 := HE2.out
        have e5 := HE3.out
        generalize (P.blind (P.lineT n k)).length = L1 at *
        generalize (P.twins (P.lineT n k)).length = L2 at *
        generalize P.common n (k - 1) = q1 at *
        generalize P.common n (k + 1) = q2 at *
        have c1 : (0 : Int) < (L1 : Int) ∧ q1 = true ∨ L1 = 0 ∧ q1 = false := by
          cases q1
          · exact Or.inr ⟨by have := of_decide_eq_false e4; omega, rfl⟩
          · exact Or.inl ⟨by have := of_decide_eq_true e4; omega, rfl⟩
        have c2 : (0 : Int) < (L2 : Int) ∧ q2 = true ∨ L2 = 0 ∧ q2 = false := by
          cases q2
          · exact Or.inr ⟨by have := of_decide_eq_false e5; omega, rfl⟩
          · exact Or.inl ⟨by have := of_decide_eq_true e5; omega, rfl⟩
        have H4 := hid hc4
        have H5 := hid hc5
        clear hb5 H3 hc4 hc5 e4 e5 HE2 HE3 HBL HTW HCK HCM HCX
        rcases c1 with ⟨d1, rfl⟩ | ⟨rfl, rfl⟩
        all_goals rcases c2 with ⟨d2, rfl⟩ | ⟨rfl, rfl⟩
        all_goals
          go_wp2_with fail
          refine H4.out.mono ?_
          rintro e w' ⟨rfl, rfl⟩
          go_wp2_with fail
          refine H5.out.mono ?_
          rintro e w' ⟨rfl, rfl⟩
          go_wp2_with fail
          refine (works_any _).mono ?_
          rintro e w6 ⟨rfl, hb⟩
          go_wp2
          go_ret
          exact ⟨rfl, HB5.out.trans (hb.mono HB5.out.size)⟩

/-! The row's frame (the guide's template). -/
set_option linter.unusedVariables false in
set_option maxRecDepth 100000 in
theorem serialLines_lifted (os : Os) (started : os.Started) (H : Type) (enc : TypeId × Value → H) :
    ReturnsInHanded {} Try.checked os 11 .any (Rows.serialLinesSpec.pre6 enc Try.prog Try.f11 Rows.serialLinesRow.domain false) (Rows.serialLinesSpec.post enc Try.prog Try.f11 false true false false) := by
  refine returnsInHanded_of_change (C := Try.checked) own started (by kernel_rfl) Try.func11
    (ChangeSpec.witness6 (enc := enc) (C := Try.checked) false ⟨#[], #[.int .u8 0, .int .u8 0], []⟩ 8 (by kernel_rfl) (by kernel_rfl) (by kernel_rfl) (by kernel_rfl)) ?_
  intro W base args ds gs before hval0 hW hcnd _
  have hval : ∀ (j : Nat) t v, Try.f11.params[j]? = some t → args[j]? = some v → Value.okWide Try.prog W .any base t v := hval0
  have hW' := hW
  obtain ⟨p, q, hA0, hV, rfl, hfz, hnd⟩ := hW
  have hA : DataW.TrodAll enc Try.prog W 0 (fun _ => true) true Try.f11.params.toList args.toList ds p := hA0
  rw [Try.params11] at hA hval
  obtain ⟨v0, vs0, d0, ds0, p0, q0, hargs, rfl, rfl, h0, r0⟩ := trodAll_cons hA
  obtain ⟨v1, vs1, d1, ds1, p1, q1, rfl, rfl, rfl, h1, r1⟩ := trodAll_cons r0
  obtain ⟨rfl, rfl, rfl⟩ := trodAll_nil r1
  obtain rfl : args = #[v0, v1] := by cases args; simp_all
  obtain ⟨rfl, rfl⟩ := trodVars_none hV
  have k0 := h0
  have lt0 : ∀ x ∈ p0, x.block < W.heap.size := by obtain ⟨m, hm⟩ := k0; exact DataW.trod_lt m _ _ _ hm
  obtain ⟨a0, rfl, rfl, rfl, w0⟩ := open_int Try.underlying5 (hval 0 5 v0 rfl rfl) h0
  have k1 := h1
  have lt1 : ∀ x ∈ p1, x.block < W.heap.size := by obtain ⟨m, hm⟩ := k1; exact DataW.trod_lt m _ _ _ hm
  obtain ⟨a1, rfl, rfl, rfl, w1⟩ := open_int Try.underlying5 (hval 1 5 v1 rfl rfl) h1
  clear hA0 hval0
  refine (serialLines_walk W a0 w0 a1 w1 ).mono fun e W' ⟨he, bel⟩ => ?_
  subst he
  exact ⟨_, rfl, _, _, _, [], _, [], hW', trodAll_mk1 (shut_bool Try.underlying4 _), (trodAll_cons_mk (Below.trod laidOut (by kernel_rfl) (of_decide_eq_true (by kernel_rfl)) k0 bel lt0) (trodAll_cons_mk (Below.trod laidOut (by kernel_rfl) (of_decide_eq_true (by kernel_rfl)) k1 bel lt1) trodAll_mk0)), rfl, bel.frame _, fun h => by cases h⟩

theorem serialLines_over : Rows.serialLinesRow.holds Try.pinned (OpenSpec.ofChange Rows.serialLinesSpec) :=
  OpenClaim.holds_of_wide 11 Try.f11 rfl rfl rfl rfl rfl rfl rfl ⟨rfl, rfl, rfl, rfl, rfl⟩ rfl rfl rfl rfl rfl (by kernel_rfl) Try.func11 (by kernel_rfl)
    (of_decide_eq_true (by kernel_rfl)) (by unfold Func.isWrapper; first | (rw [if_pos (by decide +kernel)]; kernel_rfl) | (rw [if_neg (by decide +kernel)]; exact ⟨rfl, rfl⟩))
    (fun os started H enc _ => serialLines_lifted os started H enc)

theorem serialLines_proved : Rows.SerialLinesSaid := serialLines_over

end Go.Proofs.Ytafpfcjemlonpaa
