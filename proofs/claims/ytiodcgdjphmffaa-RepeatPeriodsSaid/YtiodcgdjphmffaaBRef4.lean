/- The reference's Root, Covers. -/
import Derived.Test.YtiodcgdjphmffaaBRef3
namespace Go.Proofs.Ytiodcgdjphmffaa
open Go.RowKit

set_option maxHeartbeats 1000000 in
set_option maxRecDepth 100000 in
theorem refRoot_any (s : ByteArray) (w : World) (hm : s.size ≤ maxLen) :
    Calls Try.prog 19 #[.string s] w fun e w' => e = .returned (.tuple #[.string (B.rootV s).1, .int .i64 (B.rootV s).2.1, .int .i64 (B.rootV s).2.2]) ∧ Below w.heap.size w w' := by
  have CC := hid (fun w => refCheck_any s w hm)
  by_cases h0 : B.chk s = 0
  · have HV : Hid (B.rootV s = (s.extract 0 (B.rt2 s.data.toList), ((s.size / B.rt2 s.data.toList : Nat) : Int), 0)) := hid (by unfold B.rootV; rw [if_pos h0])
    have h24 := (B.chk_zero h0).2.1
    have h11 := (B.chk_zero h0).1
    have CF := hid (fun k w (h : k ≤ s.size) => refPeriod_any s k w (by omega) (by omega))
    have HEND := hid (B.isRt_len (l := s.data.toList) (by rw [B.len]; exact h11))
    have HIS : Hid (∀ p, B.isRt s.data.toList p = (B.per s.data.toList p && s.size % p == 0)) := hid (fun p => by unfold B.isRt; rw [B.len])
    have HEQ := hid (fun r h => B.RtIs.eq (l := s.data.toList) (r := r) h)
    have hl := B.len s
    rw [h0] at CC
    rw [HV.out]
    clear h0
    rw [hl] at HEND
    go_enter Try.func19, Try.ntmps19
    go_wp2_with fail
    refine (CC.out _).mono ?_
    rintro e wq ⟨rfl, rfl⟩
    go_wp2
    go_loopw [6] (fun x wr => ∃ p : Nat, 1 ≤ p ∧ p ≤ s.size ∧ x = .int .i64 p ∧ (∀ q, 1 ≤ q → q < p → B.isRt s.data.toList q = false) ∧ Below wq.heap.size wq wr) (fun x _ => s.size + 1 - (intOf x).toNat)
    case atStart => exact ⟨1, Nat.le_refl _, h11, rfl, fun q h1 h2 => by omega, Below.refl _ _⟩
    case round =>
      obtain ⟨p, hp1, hp2, rfl, ho, hb⟩ := hrel
      have HO := hid ho
      have HB := hid hb
      clear ho hb
      have CF1 := hid (fun w => CF.out p w hp2)
      have HI1 := hid (HIS.out p)
      have hne : ¬ (p : Int) = 0 := by omega
      have hne2 : ¬ p = 0 := by omega
      by_cases hd : s.size % p = 0
      · have hr1 : (s.size : Int) % (p : Int) = 0 := by omega
        have hr2 : (s.size : Int).tmod (p : Int) = 0 := by rw [Int.tmod_eq_emod_of_nonneg (by omega)]; exact hr1
        rw [show (s.size % p == 0) = true by simp [hd], Bool.and_true] at HI1
        generalize hper : B.per s.data.toList p = x at *
        cases x with
        | true =>
          have HRT := hid (HEQ.out p ⟨hp1, by rw [hl]; exact hp2, HI1.out, HO.out⟩)
          clear hper hd
          obtain ⟨q, hq⟩ : ∃ q : Nat, s.size / p = q := ⟨_, rfl⟩
          have hql : q ≤ s.size := by rw [← hq]; exact Nat.div_le_self _ _
          have hd1 : (s.size : Int) / (p : Int) = (q : Int) := by rw [← hq]; simp
          have hd2 : (s.size : Int).tdiv (p : Int) = (q : Int) := by rw [Int.tdiv_eq_ediv_of_nonneg (by omega)]; exact hd1
          have hd3 : IntKind.i64.wrap (q : Int) = (q : Int) := IntWalk.i64_in _ ⟨by omega, by omega⟩
          have HQ := hid hq
          clear hq
          go_wp2_with (refine (CF1.out _).mono ?_; rintro e w2 ⟨rfl, qn, hqn⟩; have hb2 : Below wr.heap.size wr w2 := hqn ▸ below_drewN (Below.refl _ _) _; have HB2 := hid (HB.out.trans (hb2.mono HB.out.size)); clear hb2 hqn)
          go_quiet (fail)
          go_wp2
          go_ret3
          refine ⟨?_, below_drewN HB2.out _⟩
          rw [HRT.out, HQ.out]
          rfl
        | false =>
          have hlt : p < s.size := by
            rcases Nat.lt_or_ge p s.size with h | h
            · exact h
            · have : p = s.size := by omega
              have h2 := HEND.out
              rw [← this, HI1.out] at h2
              cases h2
          have HO2 : Hid (∀ q, 1 ≤ q → q < p + 1 → B.isRt s.data.toList q = false) := hid (fun q h1 h2 => by
            by_cases e : q = p
            · rw [e]; exact HI1.out
            · exact HO.out q h1 (by omega))
          clear hper hd
          go_wp2_with (refine (CF1.out _).mono ?_; rintro e w2 ⟨rfl, qn, hqn⟩; have hb2 : Below wr.heap.size wr w2 := hqn ▸ below_drewN (Below.refl _ _) _; have HB2 := hid (HB.out.trans (hb2.mono HB.out.size)); clear hb2 hqn)
          go_roundw
          case rel => exact ⟨p + 1, by omega, by omega, by go_num, HO2.out, HB2.out⟩
          case measure => simp [intOf]; omega
      · obtain ⟨r, hr⟩ : ∃ r : Nat, s.size % p = r := ⟨_, rfl⟩
        have hr1 : (s.size : Int) % (p : Int) = (r : Int) := by omega
        have hr2 : (s.size : Int).tmod (p : Int) = (r : Int) := by rw [Int.tmod_eq_emod_of_nonneg (by omega)]; exact hr1
        have hr3 : ((r : Int) != 0) = true := by rw [bne_iff_ne]; omega
        rw [show (s.size % p == 0) = false by rw [beq_eq_false_iff_ne]; exact hd, Bool.and_false] at HI1
        have hlt : p < s.size := by
          rcases Nat.lt_or_ge p s.size with h | h
          · exact h
          · have : p = s.size := by omega
            rw [this, Nat.mod_self] at hd; exact absurd rfl hd
        have HO2 : Hid (∀ q, 1 ≤ q → q < p + 1 → B.isRt s.data.toList q = false) := hid (fun q h1 h2 => by
          by_cases e : q = p
          · rw [e]; exact HI1.out
          · exact HO.out q h1 (by omega))
        clear hd hr
        go_wp2
        go_roundw
        case rel => exact ⟨p + 1, by omega, by omega, by go_num, HO2.out, HB.out⟩
        case measure => simp [intOf]; omega
  · have HV : Hid (B.rootV s = (⟨#[]⟩, 0, B.chk s)) := hid (by unfold B.rootV; rw [if_neg h0])
    have hn : (B.chk s != 0) = true := by simpa using h0
    rw [HV.out]
    clear h0
    generalize B.chk s = c at *
    go_enter Try.func19, Try.ntmps19
    go_wp2_with (refine (CC.out _).mono ?_; rintro e wq ⟨rfl, rfl⟩)
    go_ret3
    exact ⟨rfl, Below.refl _ _⟩

theorem B.covTo_stop (l : List UInt8) (k : Nat) : ∀ d n, l.length < n + k → 1 ≤ k → k ≤ l.length → B.covTo l k (n + d) = B.covTo l k n
  | 0, _, _, _, _ => rfl
  | d + 1, n, h, hk1, hk => by
    rw [← Nat.add_assoc, B.covTo_succ, if_neg, B.covTo_stop l k d n h hk1 hk]
    simp only [Bool.and_eq_true, decide_eq_true_eq, not_and, Bool.not_eq_true]
    intro _
    rw [← Bool.not_eq_true, List.isPrefixOf_iff_prefix]
    intro hp
    have := hp.length_le
    rw [List.length_take, List.length_drop] at this
    omega

theorem B.eq_pre (s : ByteArray) (i k : Nat) (h : i + k ≤ s.size) : ((s.extract i (i + k)).toList == (s.extract 0 k).toList) = (s.data.toList.take k).isPrefixOf (s.data.toList.drop i) := by
  rw [Lib.toList_data, Lib.toList_data, Lib.extract_data, B.take_data, Bool.eq_iff_iff, beq_iff_eq, List.isPrefixOf_iff_prefix, List.prefix_iff_eq_take, List.length_take, B.len]
  rw [show i + k - i = min k s.size by omega]
  exact eq_comm

set_option maxHeartbeats 1000000 in
set_option maxRecDepth 100000 in
theorem refCovers_any (s : ByteArray) (w : World) (hm : s.size ≤ maxLen) :
    Calls Try.prog 21 #[.string s] w (B.ListE (B.coversV s).1 (B.coversV s).2 w) := by
  have CC := hid (fun w => refCheck_any s w hm)
  by_cases h0 : B.chk s = 0
  · have HV : Hid (B.coversV s = (B.sel (B.cov s.data.toList) s.size, 0)) := hid (by unfold B.coversV; rw [if_pos h0])
    have h24 := (B.chk_zero h0).2.1
    rw [h0] at CC
    clear h0
    rw [HV.out]
    have HH := hid (fun k => B.sel_hit (f := B.cov s.data.toList) (k := k))
    have HN := hid (fun k => B.sel_miss (f := B.cov s.data.toList) (k := k))
    have HL := hid (B.sel_len (B.cov s.data.toList))
    have HCS := hid (fun k => B.covTo_succ s.data.toList k)
    have HCL := hid (fun k n (h : n ≤ s.size) (hk : k ≤ s.size) => B.covTo_le s.data.toList k n (by rw [B.len]; exact h) (by rw [B.len]; exact hk))
    have HCE := hid (fun k n (h : s.size < n + k) (hn : n ≤ s.size) (hk1 : 1 ≤ k) (hk : k ≤ s.size) => (show B.covTo s.data.toList k s.size = B.covTo s.data.toList k n by
      have := B.covTo_stop s.data.toList k (s.size - n) n (by rw [B.len]; exact h) hk1 (by rw [B.len]; exact hk)
      rw [show n + (s.size - n) = s.size by omega] at this
      exact this))
    have HCV := hid (B.cov_eq s)
    have HEP := hid (B.eq_pre s)
    rw [B.len] at HCL
    obtain ⟨i0, hi, hz0, hz1, hz2⟩ := info_parts (show (Try.prog.info? 3).map (fun i => (i.zero, i.size, i.bytes)) = some (some (.int .i64 0), 1, 8) by kernel_rfl)
    go_enter Try.func21, Try.ntmps21
    go_wp2_with fail
    refine (CC.out _).mono ?_
    rintro e wq ⟨rfl, rfl⟩
    go_wp2
    go_loopw [5, 6] (fun v i wr => ∃ k : Nat, k ≤ s.size ∧ i = .int .i64 ((k : Int) + 1) ∧ RowI wr wq.heap.size v (B.sel (B.cov s.data.toList) k) ∧ Below wq.heap.size wq wr) (fun _ i _ => s.size + 1 - (intOf i).toNat)
    case atStart => exact ⟨0, Nat.zero_le _, rfl, RowI.nil _ _, Below.refl _ _⟩
    case round =>
      obtain ⟨k, hk, rfl, hrow, hb⟩ := hrel
      have HROW := hid hrow
      have HB := hid hb
      clear hrow hb
      by_cases hlt : k < s.size
      · have HH1 := hid (HH.out k)
        have HN1 := hid (HN.out k)
        have hlk := HL.out k
        have HM1 : Hid ((B.sel (B.cov s.data.toList) k).length + 1 ≤ maxLen) := hid (by unfold maxLen; omega)
        have HM2 : Hid (((B.sel (B.cov s.data.toList) k).length + 1) * 8 ≤ 140737488355328) := hid (by omega)
        clear hlk
        generalize B.sel (B.cov s.data.toList) k = F at *
        have hle : (k : Int) + 1 ≤ (s.size : Int) := by omega
        go_wp2
        generalize hwr : wr = w6 at *
        clear hwr
        go_loopw [7, 8] (fun x y wr => ∃ i : Nat, i ≤ s.size ∧ i ≤ s.size + 1 - (k + 1) ∧ y = .int .i64 i ∧ x = .int .i64 (B.covTo s.data.toList (k + 1) i : Nat) ∧ ∃ n, wr = w6.drewN n) (fun _ y _ => s.size + 1 - (intOf y).toNat)
        case atStart => exact ⟨0, Nat.zero_le _, Nat.zero_le _, rfl, rfl, 0, rfl⟩
        case round =>
          obtain ⟨i, hi1, hi2, rfl, rfl, q, rfl⟩ := hrel
          have hcl := HCL.out (k + 1) i hi1 (by omega)
          by_cases hik : i + (k + 1) ≤ s.size
          · have HS1 := hid (HCS.out (k + 1) i)
            have hsum : (i : Int) + ((k : Int) + 1) ≤ (s.size : Int) := by omega
            have hwr1 : IntKind.i64.wrap ((i : Int) + ((k : Int) + 1)) = (i : Int) + ((k : Int) + 1) := IntWalk.i64_in _ ⟨by omega, by omega⟩
            have htn1 : ((i : Int) + ((k : Int) + 1)).toNat = i + (k + 1) := by omega
            have htn2 : ((k : Int) + 1).toNat = k + 1 := by omega
            have hb1 : (0 : Int) ≤ (i : Int) ∧ (i : Int) ≤ (i : Int) + ((k : Int) + 1) ∧ (i : Int) + ((k : Int) + 1) ≤ (s.size : Int) := by omega
            have hep := HEP.out i (k + 1) hik
            generalize B.covTo s.data.toList (k + 1) i = x at *
            generalize (s.data.toList.take (k + 1)).isPrefixOf (s.data.toList.drop i) = b at *
            clear HH1 HN1 HM1 HM2
            by_cases hix : i ≤ x
            · cases b with
              | true =>
                have HS2 : Hid (B.covTo s.data.toList (k + 1) (i + 1) = i + (k + 1)) := hid (by rw [HS1.out]; simp [hix])
                have HCA : Hid (((i + (k + 1) : Nat) : Int) = (i : Int) + ((k : Int) + 1)) := hid (by omega)
                clear HS1
                go_wp2
                go_quiet (fail)
                go_wp2
                go_roundw
                case rel => exact ⟨i + 1, by omega, by omega, by go_num, by rw [HS2.out, HCA.out], _, rfl⟩
                case measure => simp [intOf]; omega
              | false =>
                have HS2 : Hid (B.covTo s.data.toList (k + 1) (i + 1) = x) := hid (by rw [HS1.out]; simp)
                clear HS1
                go_wp2
                go_quiet (fail)
                go_wp2
                go_roundw
                case rel => exact ⟨i + 1, by omega, by omega, by go_num, by rw [HS2.out], _, rfl⟩
                case measure => simp [intOf]; omega
            · have HS2 : Hid (B.covTo s.data.toList (k + 1) (i + 1) = x) := hid (by rw [HS1.out]; simp [hix])
              have hd : decide ((i : Int) ≤ (x : Int)) = false := by simp; omega
              have hd2 : decide (i ≤ x) = false := decide_eq_false hix
              clear HS1 hix
              go_wp2
              go_quiet (fail)
              go_wp2
              go_roundw
              case rel => exact ⟨i + 1, by omega, by omega, by go_num, by rw [HS2.out], _, rfl⟩
              case measure => simp [intOf]; omega
          · have HE := hid (HCE.out (k + 1) i (by omega) hi1 (by omega) (by omega))
            have HC1 := hid (HCV.out (k + 1))
            rw [HE.out] at HC1
            generalize B.covTo s.data.toList (k + 1) i = x at *
            generalize B.cov s.data.toList (k + 1) = c at *
            have hnk : ¬ ((i : Int) + ((k : Int) + 1) ≤ (s.size : Int)) := by omega
            have hwr1 : IntKind.i64.wrap ((i : Int) + ((k : Int) + 1)) = (i : Int) + ((k : Int) + 1) := IntWalk.i64_in _ ⟨by omega, by omega⟩
            have HWK : Hid (((k + 1 : Nat) : Int) = (k : Int) + 1) := hid (by omega)
            have HB2 := hid (below_drewN HB.out q)
            have HROW2 : Hid (RowI (w6.drewN q) wq.heap.size u5 F) := hid (HROW.out.stays (below_drewN (Below.refl _ _) q))
            by_cases hxs : x = s.size
            · have hc : c = true := by rw [HC1.out, hxs]; simp
              have HE2 := hid (HH1.out hc)
              rw [HWK.out] at HE2
              have hx1 : ((x : Int) == (s.size : Int)) = true := by simp [hxs]
              clear HC1 HE HH1 HN1 hc
              go_wp2_with (at_builtin; refine wpList_append_own _ rfl _ _ 23 rfl wq.heap.size 3 i0 (.int .i64 0) 1 8 Try.underlying23 hi hz0 hz1 hz2 rfl (by decide) _ _ _ rfl (World.ownsRow.alloc HROW2.out _) ⟨w6.heap.size, 0, none⟩ 1 1 [.int .i64 ((k : Int) + 1)] rfl rfl ?pa ?pb HM1.out HM2.out ?pc ?_)
              case pa =>
                intro i u hi
                match i, hi with
                | 0, hi =>
                  simp at hi
                  subst hi
                  show World.cell? _ ⟨(w6.drewN q).heap.size, 0, none⟩ = _
                  rw [World.cell?_alloc_at _ _ _ _ rfl]
                  rfl
              case pb => first | rfl | (intro u hu; simp at hu; subst hu; rfl)
              case pc => exact Nat.le_trans HB2.out.size (by simp)
              intro v' w9 hown' hgrow _
              have HB9 := hid (Below.grown (HB2.out.alloc HB2.out.size (.cells #[.int .i64 ((k : Int) + 1)] 3)) hgrow (by simp; have := HB2.out.size; exact Nat.le_succ_of_le this) (fun q hq => (World.ownsRow.lt HROW2.out q hq).1))
              have HO9 := hid (RowI.push hown')
              clear hown' hgrow
              go_wp2
              go_roundw
              case rel => exact ⟨k + 1, by omega, by go_num, by rw [HE2.out]; exact HO9.out, HB9.out⟩
              case measure => simp [intOf]; omega
            · have hc : c = false := by rw [HC1.out, beq_eq_false_iff_ne]; exact hxs
              have HE2 := hid (HN1.out hc)
              have hx1 : ((x : Int) == (s.size : Int)) = false := by rw [beq_eq_false_iff_ne]; omega
              clear HC1 HE HH1 HN1 hc hxs
              go_wp2
              go_roundw
              case rel => exact ⟨k + 1, by omega, by go_num, by rw [HE2.out]; exact HROW2.out, HB2.out⟩
              case measure => simp [intOf]; omega
      · have hke : k = s.size := by omega
        subst hke
        obtain ⟨a9, c9, rfl, hrd⟩ := HROW.out.rd
        have HRD := hid hrd
        clear hrd
        go_wp2
        go_ret2
        exact ⟨_, _, rfl, HRD.out, HB.out⟩
  · have HV : Hid (B.coversV s = ([], B.chk s)) := hid (by unfold B.coversV; rw [if_neg h0])
    have hn : (B.chk s != 0) = true := by simpa using h0
    rw [HV.out]
    clear h0
    generalize B.chk s = c at *
    go_enter Try.func21, Try.ntmps21
    go_wp2_with (refine (CC.out _).mono ?_; rintro e wq ⟨rfl, rfl⟩)
    go_ret2
    exact ⟨_, _, rfl, fun k hk => absurd hk (Nat.not_lt_zero _), Below.refl _ _⟩
end Go.Proofs.Ytiodcgdjphmffaa
