/- Package tuscheref09: the walks of apart and Distance. -/
import Derived.Test.YthnklabdjaiplaaDoorMRef1
import Derived.Test.YthnklabdjaiplaaDoorMDist
namespace Go.Proofs.YthnklabdjaiplaaDoor
open Go.RowKit

set_option maxHeartbeats 1000000 in
theorem apart_any (a b : Option Addr) (ca cb : Nat) (x y : List Int) (w : World) (hm : x.length ≤ maxLen) (hl : y.length = x.length) (hx : RdI w a x) (hy : RdI w b y) :
    Calls Tryd.prog 45 #[.slice a x.length ca, .slice b y.length cb] w fun e w' => e = .returned (.int .i64 (M.dst x y x.length : Nat)) ∧ ∃ n, w' = w.drewN n := by
  unfold maxLen at hm
  have HX := hid hx
  have HY := hid hy
  have HLY := hid hl
  rw [hl]
  clear hx hy hl
  go_enter Tryd.func45, Tryd.ntmps45
  go_wp2
  go_loopw [5, 6] (fun s i wr => ∃ k : Nat, k ≤ x.length ∧ i = .int .i64 k ∧ s = .int .i64 (M.dst x y k : Nat) ∧ ∃ q, wr = w.drewN q) (fun _ i _ => x.length - (intOf i).toNat)
  case atStart => exact ⟨0, Nat.zero_le _, rfl, rfl, 0, rfl⟩
  case round =>
    obtain ⟨k, hk, rfl, rfl, q, rfl⟩ := hrel
    by_cases hlt : k < x.length
    · obtain ⟨b1, o1, rfl, c1⟩ := M.num HX.out hlt
      obtain ⟨b2, o2, rfl, c2⟩ := M.num HY.out (i := k) (by rw [HLY.out]; exact hlt)
      have h1 : (0 : Int) ≤ (k : Int) ∧ (k : Int) < (x.length : Int) := by omega
      have HS := hid (M.dst_succ x y k)
      have HLE : M.dst x y k ≤ k := M.dst_le x y k
      generalize x.getD k 0 = u at *
      generalize y.getD k 0 = v at *
      generalize M.dst x y k = s at *
      by_cases he : u = v
      · have HR := hid HS.out
        rw [if_pos he] at HR
        subst he
        have hne : (u != u) = false := by simp
        go_wp2
        go_quiet (fail)
        go_wp2
        go_roundw
        case rel => exact ⟨k + 1, by omega, by go_num, by rw [HR.out]; rfl, _, rfl⟩
        case measure => simp [intOf]; omega
      · have HR := hid HS.out
        rw [if_neg he] at HR
        have hne : (u != v) = true := by simpa using he
        go_wp2
        go_quiet (fail)
        go_wp2
        go_roundw
        case rel => exact ⟨k + 1, by omega, by go_num, by rw [HR.out]; go_num, _, rfl⟩
        case measure => simp [intOf]; omega
    · have hke : k = x.length := by omega
      subst hke
      go_wp2
      go_ret
      exact ⟨rfl, q, rfl⟩

set_option maxHeartbeats 4000000 in
theorem refDistance_any (m : Int) (a : Option Addr) (c : Nat) (T : List (List Int)) (w : World) (hm : T.length ≤ maxLen) (hml : ∀ i, i < T.length → (T.getD i []).length ≤ maxLen) (hT : RdM w a T) :
    Calls Tryd.prog 15 #[M.cv m a T.length c] w fun e w' => e = .returned (.tuple #[.int .i64 (M.distV m T).1, .int .i64 (M.distV m T).2]) ∧ Below w.heap.size w w' := by
  obtain ⟨W, hW, c0, c1, hB, hlt⟩ := M.newT w 28 (.int .i64 m) (.slice a T.length c)
  have HB := hid hB
  have HC := hid (refCheck_any m a c T W hm hml (hT.stays hB))
  have HT := hid (hT.stays hB)
  unfold M.cv at *
  by_cases h0 : M.chk m T = 0
  · have HR : Hid (M.distV m T = if T.length = 1 then (0, 14) else (M.md T T.length, 0)) := hid (by unfold M.distV; rw [if_pos h0])
    have HOK := hid (M.chk_zero.1 h0)
    rw [h0] at HC
    clear hB hT h0 hml
    by_cases h1 : T.length = 1
    · have HR2 : Hid (M.distV m T = (0, 14)) := hid (by rw [HR.out, if_pos h1])
      rw [HR2.out]
      have h1' : ((T.length : Int) == 1) = true := beq_iff_eq.2 (by omega)
      clear h1
      go_enter Tryd.func15, Tryd.ntmps15
      go_wp2_with fail
      rw [hW] at *
      go_wp2_with (refine HC.out.mono ?_; rintro e w8 ⟨rfl, hb8⟩; have c0' := cell_stays hb8 (Nat.le_refl _) c0; have c1' := cell_stays hb8 (Nat.le_refl _) c1; replace hb8 := hid hb8)
      go_ret2
      exact ⟨rfl, HB.out.trans (hb8.out.mono HB.out.size)⟩
    have HR2 : Hid (M.distV m T = (M.md T T.length, 0)) := hid (by rw [HR.out, if_neg h1])
    rw [HR2.out]
    have h1' : ((T.length : Int) == 1) = false := beq_eq_false_iff_ne.2 (by omega)
    have h10 := HOK.out.n10
    clear h1 hm
    go_enter Tryd.func15, Tryd.ntmps15
    go_wp2_with fail
    rw [hW] at *
    go_wp2_with (refine HC.out.mono ?_; rintro e w8 ⟨rfl, hb8⟩; have c0' := cell_stays hb8 (Nat.le_refl _) c0; have c1' := cell_stays hb8 (Nat.le_refl _) c1; have HT8 := hid (HT.out.stays hb8); replace hb8 := hid hb8)
    clear c0 c1
    have HF : Hid (Below w.heap.size w w8) := hid (HB.out.trans (hb8.out.mono HB.out.size))
    go_loopw [5, 6] (fun s i wr => ∃ k : Nat, k ≤ T.length ∧ i = .int .i64 k ∧ s = .int .i64 (M.md T k) ∧ ∃ q, wr = w8.drewN q) (fun _ i _ => T.length - (intOf i).toNat)
    case atStart => exact ⟨0, Nat.zero_le _, rfl, rfl, 0, rfl⟩
    case round =>
      obtain ⟨k, hk, rfl, rfl, q, rfl⟩ := hrel
      by_cases hlt2 : k < T.length
      · obtain ⟨b2, o2, r2, cr2, rfl, hck, hrk⟩ := M.row HT8.out hlt2
        have HRK := hid hrk
        have HMS : Hid (M.md T (k + 1) = M.mn (fun j => M.dst (T.getD k []) (T.getD j []) (M.pl T)) k (M.md T k)) := hid rfl
        have hlk := HOK.out.len k hlt2
        have hp8 := HOK.out.p8
        have HD := hid (fun j (hj : j < T.length) (r : Option Addr) (cr : Nat) (n : Nat) (hr : RdI w8 r (T.getD j [])) => apart_any r2 r cr2 cr (T.getD k []) (T.getD j []) (w8.drewN n) (by rw [hlk]; unfold maxLen; omega) (by rw [HOK.out.len j hj, hlk]) (hrk.stays (below_drewN (Below.refl _ _) n)) (hr.stays (below_drewN (Below.refl _ _) n)))
        rw [hlk] at hck HD
        clear hrk hlk
        have hkx : (0 : Int) ≤ (k : Int) ∧ (k : Int) < (T.length : Int) := by omega
        generalize hf : (fun j => (M.dst (T.getD k []) (T.getD j []) (M.pl T) : Int)) = f at *
        have HFF : Hid (∀ j, (M.dst (T.getD k []) (T.getD j []) (M.pl T) : Int) = f j) := hid (fun j => by rw [← hf])
        clear hf
        generalize M.md T k = s at *
        go_wp2
        go_loopw [5, 7] (fun s' i wr => ∃ j : Nat, j ≤ k ∧ i = .int .i64 j ∧ s' = .int .i64 (M.mn f j s) ∧ ∃ q, wr = w8.drewN q) (fun _ i _ => k - (intOf i).toNat)
        case atStart => exact ⟨0, Nat.zero_le _, rfl, rfl, _, rfl⟩
        case round =>
          obtain ⟨j, hj, rfl, rfl, q, rfl⟩ := hrel
          by_cases hlt3 : j < k
          · obtain ⟨b3, o3, r3, cr3, he3, hcj, hrj⟩ := M.row HT8.out (show j < T.length by omega)
            simp only [Option.some.injEq, Addr.mk.injEq, and_true] at he3
            obtain ⟨rfl, rfl⟩ := he3
            have HDJ := hid (fun n => HD.out j (by omega) r3 cr3 n hrj)
            simp only [HFF.out j, HOK.out.len j (show j < T.length by omega)] at HDJ
            rw [HOK.out.len j (by omega)] at hcj
            have HMJ : Hid (M.mn f (j + 1) s = M.mi (M.mn f j s) (f j)) := hid rfl
            have hjx : (0 : Int) ≤ (j : Int) ∧ (j : Int) < (T.length : Int) := by omega
            clear hrj
            unfold M.mi at HMJ
            generalize M.mn f j s = z at *
            generalize f j = y at *
            go_wp2
            go_quiet ((go_at_call 45; (first | exact Calls.quiet_of (HDJ.out _) | exact quiet_more (HDJ.out _))))
            go_wp2
            go_roundw
            case rel => exact ⟨j + 1, by omega, by go_num, by rw [HMJ.out], _, rfl⟩
            case measure => simp [intOf]; omega
          · have hke : j = k := by omega
            subst hke
            go_wp2
            go_roundw
            case rel => exact ⟨j + 1, by omega, by go_num, by rw [HMS.out], _, rfl⟩
            case measure => simp [intOf]; omega
      · have hke : k = T.length := by omega
        subst hke
        go_wp2
        go_ret2
        exact ⟨rfl, below_drewN HF.out _⟩
  · have HR : Hid (M.distV m T = (0, M.chk m T)) := hid (by unfold M.distV; rw [if_neg h0])
    rw [HR.out]
    have h0' : (M.chk m T == 0) = false := beq_eq_false_iff_ne.2 h0
    have h0'' : (M.chk m T != 0) = true := by simpa using h0
    generalize M.chk m T = y at *
    clear hB hT h0 hml
    go_enter Tryd.func15, Tryd.ntmps15
    go_wp2_with fail
    rw [hW] at *
    go_wp2_with (refine HC.out.mono ?_; rintro e w8 ⟨rfl, hb8⟩; have c0' := cell_stays hb8 (Nat.le_refl _) c0; have c1' := cell_stays hb8 (Nat.le_refl _) c1; replace hb8 := hid hb8)
    go_ret2
    exact ⟨rfl, HB.out.trans (hb8.out.mono HB.out.size)⟩
end Go.Proofs.YthnklabdjaiplaaDoor
