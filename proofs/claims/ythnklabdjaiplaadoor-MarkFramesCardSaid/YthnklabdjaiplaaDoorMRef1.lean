/- Package tuscheref09: the walks of is and Check. -/
import Derived.Test.YthnklabdjaiplaaDoorMChk
import Derived.Test.YthnklabdjaiplaaDoorMNum
namespace Go.Proofs.YthnklabdjaiplaaDoor
open Go.RowKit

theorem isOne_any (n lo hi : Int) (w : World) :
    Calls Tryd.prog 70 #[.int .i64 n, .int .i64 lo, .int .i64 hi] w fun e w' => e = .returned (.bool (decide (lo ≤ n ∧ n ≤ hi))) ∧ w' = w := by
  by_cases h1 : lo ≤ n
  · by_cases h2 : n ≤ hi
    · rw [decide_eq_true ⟨h1, h2⟩]
      go_enter Tryd.func70, Tryd.ntmps70
      go_wp2
      go_ret
      exact ⟨rfl, rfl⟩
    · rw [decide_eq_false (show ¬ (lo ≤ n ∧ n ≤ hi) by omega)]
      go_enter Tryd.func70, Tryd.ntmps70
      go_wp2
      go_ret
      exact ⟨rfl, rfl⟩
  · rw [decide_eq_false (show ¬ (lo ≤ n ∧ n ≤ hi) by omega)]
    go_enter Tryd.func70, Tryd.ntmps70
    go_wp2
    go_ret
    exact ⟨rfl, rfl⟩
theorem is_any (n lo hi : Int) (w : World) :
    Calls Tryd.prog 53 #[.int .i64 n, .int .i64 lo, .int .i64 hi] w fun e w' => e = .returned (.bool (decide (lo ≤ n ∧ n ≤ hi))) ∧ w' = w := by
  have HI := hid (isOne_any n lo hi w)
  generalize decide (lo ≤ n ∧ n ≤ hi) = b at *
  go_enter Tryd.func53, Tryd.ntmps53
  go_wp2_with fail
  refine HI.out.mono ?_
  rintro e w' ⟨rfl, rfl⟩
  go_wp2
  go_ret
  exact ⟨rfl, rfl⟩
theorem is_b (n lo hi : Int) (b : Bool) (hb : decide (lo ≤ n ∧ n ≤ hi) = b) (w : World) :
    Calls Tryd.prog 53 #[.int .i64 n, .int .i64 lo, .int .i64 hi] w fun e w' => e = .returned (.bool b) ∧ w' = w := by
  have := is_any n lo hi w
  rwa [hb] at this
theorem quiet_same2 {P : Program} {f : FuncId} {args : Array Value} {w : World} {q n : Nat} {v : Value}
    (h : Calls P f args (w.drewN (q + n)) fun e w' => e = .returned v ∧ w' = w.drewN (q + n)) : Calls P f args (w.drewN (q + n)) fun e w'' => e = .returned v ∧ ∃ m, w'' = w.drewN (q + m) :=
  h.mono fun _ _ ⟨he, hm⟩ => ⟨he, n, hm⟩
/-- Some object of two cells in a variable. -/
theorem M.newT (w : World) (t : TypeId) (u v : Value) : ∃ W, w.alloc (.cells #[u, v] t) = W ∧ W.cell? ⟨w.heap.size, 0, none⟩ = some u ∧ W.cell? ⟨w.heap.size, 1, none⟩ = some v ∧ Below w.heap.size w W ∧ w.heap.size < W.heap.size :=
  ⟨_, rfl, by rw [World.cell?_alloc_at _ _ _ _ rfl]; rfl, by rw [World.cell?_alloc_at _ _ _ _ rfl]; rfl, (Below.refl _ _).alloc (Nat.le_refl _) _, by simp⟩
def M.bad (m x : Int) : Int := if x < 0 ∨ m ≤ x then 4 else 0
theorem M.wd_len {m : Int} {l : List Int} : M.wd m l.length l = M.fst (fun k => M.bad m (l.getD k 0)) l.length := by
  unfold M.wd M.bad
  rw [if_pos rfl]
theorem M.is_mark (m x : Int) (w : World) : Calls Tryd.prog 53 #[.int .i64 x, .int .i64 0, .int .i64 (m - 1)] w fun e w' => e = .returned (.bool (decide (M.bad m x = 0))) ∧ w' = w := by
  refine is_b x 0 (m - 1) _ ?_ w
  unfold M.bad
  rw [Bool.eq_iff_iff, decide_eq_true_iff, decide_eq_true_iff]
  by_cases h : x < 0 ∨ m ≤ x
  · rw [if_pos h]; omega
  · rw [if_neg h]; omega

set_option maxHeartbeats 4000000 in
theorem refCheck_any (m : Int) (a : Option Addr) (c : Nat) (T : List (List Int)) (w : World) (hm : T.length ≤ maxLen) (hml : ∀ i, i < T.length → (T.getD i []).length ≤ maxLen) (hT : RdM w a T) :
    Calls Tryd.prog 21 #[M.cv m a T.length c] w fun e w' => e = .returned (.int .i64 (M.chk m T)) ∧ Below w.heap.size w w' := by
  unfold maxLen at hm
  obtain ⟨W, hW, c0, c1, hB, hlt⟩ := M.newT w 28 (.int .i64 m) (.slice a T.length c)
  have HB := hid hB
  have HTW := hid (hT.stays hB)
  have HML := hid hml
  clear hml
  unfold M.cv
  by_cases h1 : ¬ (2 ≤ m ∧ m ≤ 4)
  · have HR : Hid (M.chk m T = 4) := hid (by unfold M.chk; rw [if_pos (by omega)])
    have HI := hid (fun W => is_b m 2 4 false (decide_eq_false h1) W)
    clear hB hT h1
    go_enter Tryd.func21, Tryd.ntmps21
    go_wp2_with fail
    rw [hW] at *
    refine (HI.out _).mono ?_
    rintro e w' ⟨rfl, rfl⟩
    go_wp2
    go_ret
    exact ⟨ret_int HR.out.symm, HB.out⟩
  have h1' : 2 ≤ m ∧ m ≤ 4 := by omega
  clear h1
  have HI := hid (fun W => is_b m 2 4 true (decide_eq_true h1') W)
  obtain ⟨h1, h2⟩ := h1'
  have hm2 : 2 ≤ m := h1
  have hm4 : m ≤ 4 := h2
  by_cases h3 : T.length = 0
  · have HR : Hid (M.chk m T = 1) := hid (by unfold M.chk; rw [if_neg (by omega), if_pos h3])
    clear hB hT
    rw [h3] at hW c1
    go_enter Tryd.func21, Tryd.ntmps21
    rw [h3]
    go_wp2_with fail
    rw [hW] at *
    refine (HI.out _).mono ?_
    rintro e w' ⟨rfl, rfl⟩
    go_wp2
    go_ret
    exact ⟨ret_int HR.out.symm, HB.out⟩
  have h3' : ((T.length : Int) == 0) = false := beq_eq_false_iff_ne.2 (by omega)
  by_cases h4 : 10 < T.length
  · have HR : Hid (M.chk m T = 2) := hid (by unfold M.chk; rw [if_neg (by omega), if_neg h3, if_pos h4])
    clear hB hT
    go_enter Tryd.func21, Tryd.ntmps21
    go_wp2_with fail
    rw [hW] at *
    refine (HI.out _).mono ?_
    rintro e w' ⟨rfl, rfl⟩
    go_wp2
    go_ret
    exact ⟨ret_int HR.out.symm, HB.out⟩
  have h4' : decide ((10 : Int) < T.length) = false := decide_eq_false (by omega)
  have hix : (0 : Int) < (T.length : Int) := by omega
  have hix2 : (0 : Int) ≤ 0 ∧ (0 : Int) < (T.length : Int) := ⟨by omega, by omega⟩
  obtain ⟨b, off, r, cr, rfl, hc, -⟩ := M.row0 HTW.out (by omega)
  have HE : Hid (M.chk m T = if M.pl T = 0 ∨ 8 < M.pl T then 3 else if M.fst (fun i => if (T.getD i []).length = M.pl T then 0 else 3) T.length = 0 then M.fst (fun i => M.wd m (M.pl T) (T.getD i [])) T.length else 3) := hid (by
    unfold M.chk; rw [if_neg (by omega), if_neg h3, if_neg h4])
  have HPL : Hid (M.pl T ≤ maxLen) := hid (HML.out 0 (by omega))
  generalize hp : M.pl T = p at *
  by_cases h5 : p = 0 ∨ 8 < p
  · have HR : Hid (M.chk m T = 3) := hid (by rw [HE.out, if_pos h5])
    have HI2 := hid (fun W => is_b p 1 8 false (decide_eq_false (by omega)) W)
    clear hB hT hp h5
    go_enter Tryd.func21, Tryd.ntmps21
    go_wp2_with fail
    rw [hW] at *
    refine (HI.out _).mono ?_
    rintro e w' ⟨rfl, rfl⟩
    go_wp2
    go_loopw [3] (fun i wr => i = .int .i64 0 ∧ wr = w') (fun _ _ => 0)
    case atStart => exact ⟨rfl, rfl⟩
    case round =>
      obtain ⟨rfl, rfl⟩ := hrel
      go_wp2
      go_quiet ((go_at_call 53; (first | exact Calls.quiet_of_same (HI2.out _) | exact quiet_same2 (HI2.out _))))
      go_wp2
      go_ret
      exact ⟨ret_int HR.out.symm, below_drewN HB.out _⟩
  have HI2 := hid (fun W => is_b p 1 8 true (decide_eq_true (by omega)) W)
  have HE2 : Hid (M.chk m T = if M.fst (fun i => if (T.getD i []).length = p then 0 else 3) T.length = 0 then M.fst (fun i => M.wd m p (T.getD i [])) T.length else 3) := hid (by rw [HE.out, if_neg h5])
  clear HE hB hT hp h5
  generalize hf : (fun i => if (T.getD i []).length = p then (0 : Int) else 3) = f at *
  have HF : Hid (∀ k, f k = if (T.getD k []).length = p then (0 : Int) else 3) := hid (fun k => by rw [← hf])
  generalize hg : (fun i => M.wd m p (T.getD i [])) = g at *
  have HG : Hid (∀ k, M.wd m p (T.getD k []) = g k) := hid (fun k => by rw [← hg])
  clear hf hg h1 h2 h3 h4
  go_enter Tryd.func21, Tryd.ntmps21
  go_wp2_with fail
  rw [hW] at *
  refine (HI.out _).mono ?_
  rintro e w' ⟨rfl, rfl⟩
  go_wp2
  clear h3' h4'
  go_loopw [3] (fun i wr => ∃ k : Nat, k ≤ T.length ∧ i = .int .i64 k ∧ M.fst f k = 0 ∧ ∃ q, wr = w'.drewN q) (fun i _ => T.length - (intOf i).toNat)
  case atStart => exact ⟨0, Nat.zero_le _, rfl, rfl, 0, rfl⟩
  case round =>
    obtain ⟨k, hk, rfl, hz, q, rfl⟩ := hrel
    have HZ := hid hz
    clear hz
    by_cases hlt2 : k < T.length
    · obtain ⟨b2, o2, r2, cr2, he2, hck, -⟩ := M.row HTW.out hlt2
      simp only [Option.some.injEq, Addr.mk.injEq, and_true] at he2
      obtain ⟨rfl, rfl⟩ := he2
      have HFK := hid (HF.out k)
      have HK : Hid (f k ≠ 0 → M.fst f T.length = f k) := hid (fun h => M.fst_at HZ.out hlt2 h)
      have HK2 : Hid (f k = 0 → M.fst f (k + 1) = 0) := hid (fun h => M.fst_step HZ.out h)
      have hkx : (0 : Int) ≤ (k : Int) ∧ (k : Int) < (T.length : Int) := by omega
      generalize (T.getD k []).length = x at *
      by_cases h1 : x = p
      · have HR := hid (HK2.out (by rw [HFK.out, if_pos h1]))
        subst h1
        have hnn : ((x : Int) != (x : Int)) = false := by simp
        go_wp2
        go_quiet ((go_at_call 53; (first | exact Calls.quiet_of_same (HI2.out _) | exact quiet_same2 (HI2.out _))))
        go_wp2
        go_roundw
        case rel => exact ⟨k + 1, by omega, by go_num, HR.out, _, rfl⟩
        case measure => simp [intOf]; omega
      · have HR : Hid (M.chk m T = 3) := hid (by
          have e := HFK.out; rw [if_neg h1] at e
          rw [HE2.out, if_neg (by rw [HK.out (by omega)]; omega)])
        have h1' : ((x : Int) != (p : Int)) = true := by simp; omega
        go_wp2
        go_quiet ((go_at_call 53; (first | exact Calls.quiet_of_same (HI2.out _) | exact quiet_same2 (HI2.out _))))
        go_wp2
        go_ret
        exact ⟨ret_int HR.out.symm, below_drewN (below_drewN HB.out _) _⟩
    · have hke : k = T.length := by omega
      subst hke
      have HE3 : Hid (M.chk m T = M.fst g T.length) := hid (by rw [HE2.out, if_pos HZ.out])
      have HLEN : Hid (∀ i, i < T.length → (T.getD i []).length = p) := hid (fun i hi => by
        have h := M.fst_zero.1 HZ.out i hi
        rw [HF.out i] at h
        by_cases hl : (T.getD i []).length = p
        · exact hl
        · rw [if_neg hl] at h; omega)
      clear HE2 HF HZ
      go_wp2
      go_loopw [4] (fun i wr => ∃ k : Nat, k ≤ T.length ∧ i = .int .i64 k ∧ M.fst g k = 0 ∧ ∃ q, wr = w'.drewN q) (fun i _ => T.length - (intOf i).toNat)
      case atStart => exact ⟨0, Nat.zero_le _, rfl, rfl, _, rfl⟩
      case round =>
        obtain ⟨k, hk, rfl, hz, q, rfl⟩ := hrel
        have HZ := hid hz
        clear hz
        by_cases hlt2 : k < T.length
        · obtain ⟨b2, o2, r2, cr2, he2, hck, hri⟩ := M.row HTW.out hlt2
          simp only [Option.some.injEq, Addr.mk.injEq, and_true] at he2
          obtain ⟨rfl, rfl⟩ := he2
          have HRI := hid hri
          have HL := hid (HLEN.out k hlt2)
          have HGK := hid (HG.out k)
          have HK : Hid (g k ≠ 0 → M.fst g T.length = g k) := hid (fun h => M.fst_at HZ.out hlt2 h)
          have HK2 : Hid (g k = 0 → M.fst g (k + 1) = 0) := hid (fun h => M.fst_step HZ.out h)
          have hkx : (0 : Int) ≤ (k : Int) ∧ (k : Int) < (T.length : Int) := by omega
          clear hri
          generalize T.getD k [] = l at *
          have HGL : Hid (g k = M.fst (fun j => M.bad m (l.getD j 0)) l.length) := hid (by rw [← HGK.out, ← HL.out, M.wd_len])
          have HLM : Hid (l.length ≤ maxLen) := hid (by rw [HL.out]; exact HPL.out)
          go_wp2
          go_loopw [5] (fun i wr => ∃ j : Nat, j ≤ l.length ∧ i = .int .i64 j ∧ M.fst (fun j => M.bad m (l.getD j 0)) j = 0 ∧ ∃ q, wr = w'.drewN q) (fun i _ => l.length - (intOf i).toNat)
          case atStart => exact ⟨0, Nat.zero_le _, rfl, rfl, _, rfl⟩
          case round =>
            obtain ⟨j, hj, rfl, hz, q, rfl⟩ := hrel
            have HZJ := hid hz
            have hlm := HLM.out
            unfold maxLen at hlm
            clear hz
            by_cases hjl : j < l.length
            · obtain ⟨b3, o3, rfl, hx⟩ := M.num HRI.out hjl
              have HXK : Hid (M.bad m (l.getD j 0) ≠ 0 → g k = M.bad m (l.getD j 0)) := hid (fun h => by rw [HGL.out]; exact M.fst_at (f := fun j => M.bad m (l.getD j 0)) HZJ.out hjl h)
              have HXK2 : Hid (M.bad m (l.getD j 0) = 0 → M.fst (fun j => M.bad m (l.getD j 0)) (j + 1) = 0) := hid (fun h => M.fst_step (f := fun j => M.bad m (l.getD j 0)) HZJ.out h)
              have hjx : (0 : Int) ≤ (j : Int) ∧ (j : Int) < (l.length : Int) := by omega
              generalize l.getD j 0 = x at *
              have HIM := hid (fun W => M.is_mark m x W)
              by_cases hx0 : M.bad m x = 0
              · have HR := hid (HXK2.out hx0)
                rw [decide_eq_true hx0] at HIM
                clear hx0
                go_wp2
                go_quiet ((go_at_call 53; (first | exact Calls.quiet_of_same (HIM.out _) | exact quiet_same2 (HIM.out _))))
                go_wp2
                go_roundw
                case rel => exact ⟨j + 1, by omega, by go_num, HR.out, _, rfl⟩
                case measure => simp [intOf]; omega
              · have HR : Hid (M.chk m T = 4) := hid (by
                  have e : M.bad m x = 4 := by unfold M.bad at hx0 ⊢; by_cases h : x < 0 ∨ m ≤ x <;> simp [h] at hx0 ⊢
                  have e2 := HXK.out hx0
                  rw [HE3.out, HK.out (by omega), e2, e])
                rw [decide_eq_false hx0] at HIM
                clear hx0
                go_wp2
                go_quiet ((go_at_call 53; (first | exact Calls.quiet_of_same (HIM.out _) | exact quiet_same2 (HIM.out _))))
                go_wp2
                go_ret
                exact ⟨ret_int HR.out.symm, below_drewN (below_drewN HB.out _) _⟩
            · have hje : j = l.length := by omega
              subst hje
              have HR := hid (HK2.out (by rw [HGL.out]; exact HZJ.out))
              go_wp2
              go_roundw
              case rel => exact ⟨k + 1, by omega, by go_num, HR.out, _, rfl⟩
              case measure => simp [intOf]; omega
        · have hke : k = T.length := by omega
          subst hke
          go_wp2
          go_ret
          exact ⟨ret_int (by rw [HE3.out, HZ.out]), below_drewN HB.out _⟩
end Go.Proofs.YthnklabdjaiplaaDoor
