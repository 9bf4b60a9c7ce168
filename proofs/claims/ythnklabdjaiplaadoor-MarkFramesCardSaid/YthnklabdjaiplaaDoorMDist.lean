/- Package mark: the walks of checkCoalition, distance, Distance. -/
import Derived.Test.YthnklabdjaiplaaDoorMChk
namespace Go.Proofs.YthnklabdjaiplaaDoor
open Go.RowKit

set_option maxHeartbeats 4000000 in
theorem checkCoalition_any (m : Int) (a : Option Addr) (c : Nat) (n : Nat) (al : Option Addr) (cl : Nat) (l : List Int) (w : World) (hm : l.length ≤ maxLen) (hl : RdI w al l) :
    Calls Tryd.prog 46 #[M.cv m a n c, .slice al l.length cl] w fun e w' => e = .returned (.int .i64 (M.co n l)) ∧ Below w.heap.size w w' := by
  unfold maxLen at hm
  obtain ⟨W, hW, c0, c1, hB, hlt⟩ := M.cvNew w m a n c
  have HL := hid (hl.stays hB)
  have HB := hid hB
  unfold M.cv
  by_cases h0 : l.length = 0
  · have HE : Hid (M.co n l = 1) := hid (by unfold M.co; rw [if_pos h0])
    have h0' : ((l.length : Int) == 0) = true := beq_iff_eq.2 (by omega)
    clear hB hl
    go_enter Tryd.func46, Tryd.ntmps46
    go_wp2
    rw [hW] at *
    go_ret
    exact ⟨ret_int HE.out.symm, HB.out⟩
  have h0' : ((l.length : Int) == 0) = false := beq_eq_false_iff_ne.2 (by omega)
  have HE : Hid (M.co n l = M.fst (fun i => if l.getD i 0 < 0 ∨ (n : Int) ≤ l.getD i 0 then 5 else if 0 < i ∧ l.getD i 0 ≤ l.getD (i - 1) 0 then 7 else 0) l.length) := hid (by unfold M.co; rw [if_neg h0])
  generalize hf : (fun i => if l.getD i 0 < 0 ∨ (n : Int) ≤ l.getD i 0 then (5 : Int) else if 0 < i ∧ l.getD i 0 ≤ l.getD (i - 1) 0 then 7 else 0) = f at *
  have HF : Hid (∀ i, f i = if l.getD i 0 < 0 ∨ (n : Int) ≤ l.getD i 0 then (5 : Int) else if 0 < i ∧ l.getD i 0 ≤ l.getD (i - 1) 0 then 7 else 0) := hid (fun i => by rw [← hf])
  clear hf hB hl h0
  go_enter Tryd.func46, Tryd.ntmps46
  go_wp2
  rw [hW] at *
  clear h0'
  go_loop [12] (fun i => ∃ k : Nat, k ≤ l.length ∧ i = .int .i64 k ∧ M.fst f k = 0) (fun i => l.length - (intOf i).toNat)
  case atStart => exact ⟨0, Nat.zero_le _, rfl, rfl⟩
  case round =>
    obtain ⟨k, hk, rfl, hz⟩ := hrel
    have HZ := hid hz
    clear hz
    by_cases hlt2 : k < l.length
    · obtain ⟨b2, o2, rfl, hck⟩ := M.num HL.out hlt2
      have HFK := hid (HF.out k)
      have HK : Hid (f k ≠ 0 → M.fst f l.length = f k) := hid (fun h => M.fst_at HZ.out hlt2 h)
      have HK2 : Hid (f k = 0 → M.fst f (k + 1) = 0) := hid (fun h => M.fst_step HZ.out h)
      by_cases hk0 : k = 0
      · subst hk0
        simp only [Nat.add_zero] at hck
        generalize l.getD 0 0 = x at *
        by_cases h1 : x < 0
        · have HR : Hid (M.co n l = 5) := hid (by
            have e := HFK.out; rw [if_pos (.inl h1)] at e
            rw [HE.out, HK.out (by omega), e])
          go_wp2
          go_ret
          exact ⟨ret_int HR.out.symm, HB.out⟩
        have h1' : decide (x < 0) = false := by simpa using h1
        by_cases h2 : (n : Int) ≤ x
        · have HR : Hid (M.co n l = 5) := hid (by
            have e := HFK.out; rw [if_pos (.inr h2)] at e
            rw [HE.out, HK.out (by omega), e])
          go_wp2
          go_ret
          exact ⟨ret_int HR.out.symm, HB.out⟩
        have h2' : decide ((n : Int) ≤ x) = false := by simpa using h2
        have HR := hid (HK2.out (by rw [HFK.out, if_neg (by omega), if_neg (by omega)]))
        go_wp2
        go_round
        case rel => exact ⟨0 + 1, by omega, by go_num, HR.out⟩
        case measure => simp [intOf]; omega
      obtain ⟨b3, o3, he3, hcp⟩ := M.num HL.out (show k - 1 < l.length by omega)
      simp only [Option.some.injEq, Addr.mk.injEq, and_true] at he3
      obtain ⟨rfl, rfl⟩ := he3
      generalize l.getD k 0 = x at *
      generalize l.getD (k - 1) 0 = y at *
      have hk1 : (0 : Int) < (k : Int) := by omega
      have hk2 : ((k - 1 : Nat) : Int) = (k : Int) - 1 := by omega
      have hk3 : (0 : Int) ≤ (k : Int) - 1 ∧ (k : Int) - 1 < (l.length : Int) := by omega
      have hk4 : ((k : Int) - 1).toNat = k - 1 := by omega
      by_cases h1 : x < 0
      · have HR : Hid (M.co n l = 5) := hid (by
          have e := HFK.out; rw [if_pos (.inl h1)] at e
          rw [HE.out, HK.out (by omega), e])
        go_wp2
        go_ret
        exact ⟨ret_int HR.out.symm, HB.out⟩
      have h1' : decide (x < 0) = false := by simpa using h1
      by_cases h2 : (n : Int) ≤ x
      · have HR : Hid (M.co n l = 5) := hid (by
          have e := HFK.out; rw [if_pos (.inr h2)] at e
          rw [HE.out, HK.out (by omega), e])
        go_wp2
        go_ret
        exact ⟨ret_int HR.out.symm, HB.out⟩
      have h2' : decide ((n : Int) ≤ x) = false := by simpa using h2
      by_cases h3 : x ≤ y
      · have HR : Hid (M.co n l = 7) := hid (by
          have e := HFK.out; rw [if_neg (by omega), if_pos (by omega)] at e
          rw [HE.out, HK.out (by omega), e])
        go_wp2
        go_ret
        exact ⟨ret_int HR.out.symm, HB.out⟩
      have h3' : decide (x ≤ y) = false := by simpa using h3
      have HR := hid (HK2.out (by rw [HFK.out, if_neg (by omega), if_neg (by omega)]))
      go_wp2
      go_round
      case rel => exact ⟨k + 1, by omega, by go_num, HR.out⟩
      case measure => simp [intOf]; omega
    · have hke : k = l.length := by omega
      subst hke
      go_wp2
      go_ret
      exact ⟨ret_int (by rw [HE.out, HZ.out]), HB.out⟩

/-- At how many of the first places two words differ. -/
def M.dst (a b : List Int) (k : Nat) : Nat := (List.range k).countP fun k => a.getD k 0 != b.getD k 0
theorem M.dst_succ (a b : List Int) (k : Nat) : M.dst a b (k + 1) = M.dst a b k + if a.getD k 0 = b.getD k 0 then 0 else 1 := by
  unfold M.dst
  rw [List.range_succ, List.countP_append, List.countP_singleton]
  by_cases h : a.getD k 0 = b.getD k 0
  · rw [if_pos h, h, if_neg (by simp)]
  · simp only [bne_iff_ne, ne_eq, h, not_false_eq_true, if_true, if_false]
theorem M.dst_le (a b : List Int) (k : Nat) : M.dst a b k ≤ k := by
  unfold M.dst
  have := List.countP_le_length (p := fun k => a.getD k 0 != b.getD k 0) (l := List.range k)
  simpa using this

set_option maxHeartbeats 1000000 in
theorem distance_any (a b : Option Addr) (ca cb : Nat) (x y : List Int) (w : World) (hm : x.length ≤ maxLen) (hxy : y.length = x.length) (hx : RdI w a x) (hy : RdI w b y) :
    Calls Tryd.prog 44 #[.slice a x.length ca, .slice b y.length cb] w fun e w' => e = .returned (.int .i64 (M.dst x y x.length)) ∧ w' = w := by
  unfold maxLen at hm
  rw [hxy]
  have HY := hid hy
  have HXY := hid hxy
  clear hy hxy
  go_enter Tryd.func44, Tryd.ntmps44
  go_wp2
  go_loop [5, 10] (fun p i => ∃ k : Nat, k ≤ x.length ∧ i = .int .i64 k ∧ p = .int .i64 (M.dst x y k)) (fun _ i => x.length - (intOf i).toNat)
  case atStart => exact ⟨0, Nat.zero_le _, rfl, rfl⟩
  case round =>
    obtain ⟨k, hk, rfl, rfl⟩ := hrel
    have HS := hid (M.dst_succ x y k)
    have hle := M.dst_le x y k
    by_cases hlt2 : k < x.length
    · obtain ⟨b2, o2, rfl, hck⟩ := M.num hx hlt2
      obtain ⟨b3, o3, rfl, hcy⟩ := M.num HY.out (show k < y.length by rw [HXY.out]; exact hlt2)
      generalize x.getD k 0 = u at *
      generalize y.getD k 0 = v at *
      generalize M.dst x y k = d at *
      by_cases h1 : u = v
      · have HR := hid HS.out
        rw [if_pos h1] at HR
        subst h1
        go_wp2
        go_round
        case rel => exact ⟨k + 1, by omega, by go_num, by rw [HR.out]; rfl⟩
        case measure => simp [intOf]; omega
      · have HR := hid HS.out
        rw [if_neg h1] at HR
        have h1' : (u == v) = false := beq_eq_false_iff_ne.2 h1
        go_wp2
        go_round
        case rel => exact ⟨k + 1, by omega, by go_num, by rw [HR.out]; go_num⟩
        case measure => simp [intOf]; omega
    · have hke : k = x.length := by omega
      subst hke
      go_wp2
      go_ret
      exact ⟨rfl, rfl⟩

def M.mi (x y : Int) : Int := if y < x then y else x
/-- The smallest of s and f 0, .., f (n - 1). -/
def M.mn (f : Nat → Int) : Nat → Int → Int
  | 0, s => s
  | n + 1, s => M.mi (M.mn f n s) (f n)
/-- The smallest distance of two of the first n words, and 8. -/
def M.md (T : List (List Int)) : Nat → Int
  | 0 => 8
  | n + 1 => M.mn (fun k => M.dst (T.getD n []) (T.getD k []) (M.pl T)) n (M.md T n)
def M.distV (m : Int) (T : List (List Int)) : Int × Int := if M.chk m T = 0 then (if T.length = 1 then (0, 14) else (M.md T T.length, 0)) else (0, M.chk m T)

set_option maxHeartbeats 4000000 in
theorem Distance_any (m : Int) (a : Option Addr) (c : Nat) (T : List (List Int)) (w : World) (hm : T.length ≤ maxLen) (hml : ∀ i, i < T.length → (T.getD i []).length ≤ maxLen) (hc : T.length ≤ c) (hT : RdM w a T) :
    Calls Tryd.prog 14 #[M.cv m a T.length c] w fun e w' => e = .returned (.tuple #[.int .i64 (M.distV m T).1, .int .i64 (M.distV m T).2]) ∧ Below w.heap.size w w' := by
  obtain ⟨W, hW, c0, c1, hB, hlt⟩ := M.cvNew w m a T.length c
  have HB := hid hB
  have HC := hid (check_any m a c T W hm hml (hT.stays hB))
  have HT := hid (hT.stays hB)
  unfold M.cv at *
  by_cases h0 : M.chk m T = 0
  · have HR : Hid (M.distV m T = if T.length = 1 then (0, 14) else (M.md T T.length, 0)) := hid (by unfold M.distV; rw [if_pos h0])
    have HOK := hid (M.chk_zero.1 h0)
    rw [h0] at HC
    clear hB hT h0 hml
    by_cases h1 : T.length = 1
    · have HR2 : Hid (M.distV m T = (0, 14)) := hid (by rw [HR.out, if_pos h1])
      rw [HR2.out]
      have h1' : ((T.length : Int) == 1) = true := beq_iff_eq.2 (by omega)
      clear h1
      go_enter Tryd.func14, Tryd.ntmps14
      go_wp2_with fail
      rw [hW] at *
      go_wp2_with (refine HC.out.mono ?_; rintro e w8 ⟨rfl, hb8⟩; have c0' := cell_stays hb8 (Nat.le_refl _) c0; have c1' := cell_stays hb8 (Nat.le_refl _) c1; replace hb8 := hid hb8)
      go_ret2
      exact ⟨rfl, HB.out.trans (hb8.out.mono HB.out.size)⟩
    have HR2 : Hid (M.distV m T = (M.md T T.length, 0)) := hid (by rw [HR.out, if_neg h1])
    rw [HR2.out]
    have h1' : ((T.length : Int) == 1) = false := beq_eq_false_iff_ne.2 (by omega)
    have h10 := HOK.out.n10
    clear h1 hm
    go_enter Tryd.func14, Tryd.ntmps14
    go_wp2_with fail
    rw [hW] at *
    go_wp2_with (refine HC.out.mono ?_; rintro e w8 ⟨rfl, hb8⟩; have c0' := cell_stays hb8 (Nat.le_refl _) c0; have c1' := cell_stays hb8 (Nat.le_refl _) c1; have HT8 := hid (HT.out.stays hb8); replace hb8 := hid hb8)
    clear c0 c1
    have HF : Hid (Below w.heap.size w w8) := hid (HB.out.trans (hb8.out.mono HB.out.size))
    go_loop [5, 22] (fun s i => ∃ k : Nat, k ≤ T.length ∧ i = .int .i64 k ∧ s = .int .i64 (M.md T k)) (fun _ i => T.length - (intOf i).toNat)
    case atStart => exact ⟨0, Nat.zero_le _, rfl, rfl⟩
    case round =>
      obtain ⟨k, hk, rfl, rfl⟩ := hrel
      by_cases hlt2 : k < T.length
      · obtain ⟨b2, o2, r2, cr2, rfl, hck, hrk⟩ := M.row HT8.out hlt2
        have HRK := hid hrk
        have HMS : Hid (M.md T (k + 1) = M.mn (fun j => M.dst (T.getD k []) (T.getD j []) (M.pl T)) k (M.md T k)) := hid rfl
        have hlk := HOK.out.len k hlt2
        have hp8 := HOK.out.p8
        have HD := hid (fun j (hj : j < T.length) (r : Option Addr) (cr : Nat) (hr : RdI w8 r (T.getD j [])) => distance_any r2 r cr2 cr (T.getD k []) (T.getD j []) w8 (by rw [hlk]; unfold maxLen; omega) (by rw [HOK.out.len j hj, hlk]) hrk hr)
        rw [hlk] at hck HD
        clear hrk hlk
        have hsl : (0 : Int) ≤ (k : Int) ∧ (k : Int) ≤ (c : Int) := by omega
        generalize hf : (fun j => (M.dst (T.getD k []) (T.getD j []) (M.pl T) : Int)) = f at *
        have HFF : Hid (∀ j, (M.dst (T.getD k []) (T.getD j []) (M.pl T) : Int) = f j) := hid (fun j => by rw [← hf])
        clear hf
        generalize M.md T k = s at *
        go_wp2
        go_loop [5, 32] (fun s' i => ∃ j : Nat, j ≤ k ∧ i = .int .i64 j ∧ s' = .int .i64 (M.mn f j s)) (fun _ i => k - (intOf i).toNat)
        case atStart => exact ⟨0, Nat.zero_le _, rfl, rfl⟩
        case round =>
          obtain ⟨j, hj, rfl, rfl⟩ := hrel
          by_cases hlt3 : j < k
          · obtain ⟨b3, o3, r3, cr3, he3, hcj, hrj⟩ := M.row HT8.out (show j < T.length by omega)
            simp only [Option.some.injEq, Addr.mk.injEq, and_true] at he3
            obtain ⟨rfl, rfl⟩ := he3
            have HDJ := hid (HD.out j (by omega) r3 cr3 hrj)
            rw [HFF.out j, HOK.out.len j (by omega)] at HDJ
            rw [HOK.out.len j (by omega)] at hcj
            have HMJ : Hid (M.mn f (j + 1) s = M.mi (M.mn f j s) (f j)) := hid rfl
            clear hrj
            unfold M.mi at HMJ
            generalize M.mn f j s = z at *
            generalize f j = y at *
            go_wp2_with (refine HDJ.out.mono ?_; rintro e w9 ⟨rfl, rfl⟩)
            go_round
            case rel => exact ⟨j + 1, by omega, by go_num, by rw [HMJ.out]⟩
            case measure => simp [intOf]; omega
          · have hke : j = k := by omega
            subst hke
            go_wp2
            go_round
            case rel => exact ⟨j + 1, by omega, by go_num, by rw [HMS.out]⟩
            case measure => simp [intOf]; omega
      · have hke : k = T.length := by omega
        subst hke
        go_wp2
        go_ret2
        exact ⟨rfl, HF.out⟩
  · have HR : Hid (M.distV m T = (0, M.chk m T)) := hid (by unfold M.distV; rw [if_neg h0])
    rw [HR.out]
    have h0' : (M.chk m T == 0) = false := beq_eq_false_iff_ne.2 h0
    generalize M.chk m T = y at *
    clear hB hT h0
    go_enter Tryd.func14, Tryd.ntmps14
    go_wp2_with fail
    rw [hW] at *
    go_wp2_with (refine HC.out.mono ?_; rintro e w8 ⟨rfl, hb8⟩; replace hb8 := hid hb8)
    go_ret2
    exact ⟨rfl, HB.out.trans (hb8.out.mono HB.out.size)⟩
end Go.Proofs.YthnklabdjaiplaaDoor
