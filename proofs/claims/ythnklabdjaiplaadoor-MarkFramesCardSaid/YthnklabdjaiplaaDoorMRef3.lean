/- Package tuscheref09: the walks of members, word, makes, Makes. -/
import Derived.Test.YthnklabdjaiplaaDoorMRef1
import Derived.Test.YthnklabdjaiplaaDoorMDist
import Derived.Test.YthnklabdjaiplaaDoorMCan
namespace Go.Proofs.YthnklabdjaiplaaDoor
open Go.RowKit

theorem M.is_upto (n : Nat) (x : Int) (b : Bool) (hb : decide (0 ≤ x ∧ x < (n : Int)) = b) (w : World) : Calls Tryd.prog 53 #[.int .i64 x, .int .i64 0, .int .i64 ((n : Int) - 1)] w fun e w' => e = .returned (.bool b) ∧ w' = w := by
  refine is_b x 0 _ _ ?_ w
  rw [← hb, Bool.eq_iff_iff, decide_eq_true_iff, decide_eq_true_iff]
  omega

set_option maxHeartbeats 4000000 in
theorem members_any (m : Int) (a : Option Addr) (c : Nat) (n : Nat) (al : Option Addr) (cl : Nat) (l : List Int) (w : World) (hn : n ≤ 1000) (hm : l.length ≤ maxLen) (hl : RdI w al l) :
    Calls Tryd.prog 48 #[M.cv m a n c, .slice al l.length cl] w fun e w' => e = .returned (.int .i64 (M.co n l)) ∧ Below w.heap.size w w' := by
  unfold maxLen at hm
  obtain ⟨W, hW, c0, c1, hB, hlt⟩ := M.newT w 28 (.int .i64 m) (.slice a n c)
  have HL := hid (hl.stays hB)
  have HB := hid hB
  unfold M.cv
  by_cases h0 : l.length = 0
  · have HE : Hid (M.co n l = 1) := hid (by unfold M.co; rw [if_pos h0])
    have h0' : ((l.length : Int) == 0) = true := beq_iff_eq.2 (by omega)
    clear hB hl
    go_enter Tryd.func48, Tryd.ntmps48
    go_wp2
    rw [hW] at *
    go_ret
    exact ⟨ret_int HE.out.symm, HB.out⟩
  have h0' : ((l.length : Int) == 0) = false := beq_eq_false_iff_ne.2 (by omega)
  have HE : Hid (M.co n l = M.fst (fun i => if l.getD i 0 < 0 ∨ (n : Int) ≤ l.getD i 0 then 5 else if 0 < i ∧ l.getD i 0 ≤ l.getD (i - 1) 0 then 7 else 0) l.length) := hid (by unfold M.co; rw [if_neg h0])
  generalize hf : (fun i => if l.getD i 0 < 0 ∨ (n : Int) ≤ l.getD i 0 then (5 : Int) else if 0 < i ∧ l.getD i 0 ≤ l.getD (i - 1) 0 then 7 else 0) = f at *
  have HF : Hid (∀ i, f i = if l.getD i 0 < 0 ∨ (n : Int) ≤ l.getD i 0 then (5 : Int) else if 0 < i ∧ l.getD i 0 ≤ l.getD (i - 1) 0 then 7 else 0) := hid (fun i => by rw [← hf])
  clear hf hB hl h0
  go_enter Tryd.func48, Tryd.ntmps48
  go_wp2
  rw [hW] at *
  clear h0'
  go_loopw [5] (fun i wr => ∃ k : Nat, k ≤ l.length ∧ i = .int .i64 k ∧ M.fst f k = 0 ∧ ∃ q, wr = W.drewN q) (fun i _ => l.length - (intOf i).toNat)
  case atStart => exact ⟨0, Nat.zero_le _, rfl, rfl, 0, rfl⟩
  case round =>
    obtain ⟨k, hk, rfl, hz, q, rfl⟩ := hrel
    have HZ := hid hz
    clear hz
    by_cases hlt2 : k < l.length
    · obtain ⟨b2, o2, rfl, hck⟩ := M.num HL.out hlt2
      have HFK := hid (HF.out k)
      have HK : Hid (f k ≠ 0 → M.fst f l.length = f k) := hid (fun h => M.fst_at HZ.out hlt2 h)
      have HK2 : Hid (f k = 0 → M.fst f (k + 1) = 0) := hid (fun h => M.fst_step HZ.out h)
      have hkx : (0 : Int) ≤ (k : Int) ∧ (k : Int) < (l.length : Int) := by omega
      by_cases hr : 0 ≤ l.getD k 0 ∧ l.getD k 0 < (n : Int)
      · have HI := hid (fun W => M.is_upto n (l.getD k 0) true (decide_eq_true hr) W)
        by_cases hk0 : k = 0
        · have HR := hid (HK2.out (by rw [HFK.out, if_neg (by omega), if_neg (by omega)]))
          have hk1 : decide (0 < k) = false := decide_eq_false (by omega)
          generalize l.getD k 0 = x at *
          clear hr hk0
          go_wp2
          go_quiet ((go_at_call 53; (first | exact Calls.quiet_of_same (HI.out _) | exact quiet_same2 (HI.out _))))
          go_wp2
          go_quiet (fail)
          go_wp2
          go_roundw
          case rel => exact ⟨k + 1, by omega, by go_num, HR.out, _, rfl⟩
          case measure => simp [intOf]; omega
        · obtain ⟨b3, o3, he3, hcp⟩ := M.num HL.out (show k - 1 < l.length by omega)
          simp only [Option.some.injEq, Addr.mk.injEq, and_true] at he3
          obtain ⟨rfl, rfl⟩ := he3
          have hk1 : decide (0 < k) = true := decide_eq_true (by omega)
          have hk3 : (0 : Int) ≤ (k : Int) - 1 ∧ (k : Int) - 1 < (l.length : Int) := by omega
          have hk4 : ((k : Int) - 1).toNat = k - 1 := by omega
          generalize l.getD k 0 = x at *
          generalize l.getD (k - 1) 0 = y at *
          by_cases h3 : x ≤ y
          · have HR : Hid (M.co n l = 7) := hid (by
              have e := HFK.out; rw [if_neg (by omega), if_pos (by omega)] at e
              rw [HE.out, HK.out (by omega), e])
            have h3' : decide (x ≤ y) = true := decide_eq_true h3
            clear hr hk0 h3
            go_wp2
            go_quiet ((go_at_call 53; (first | exact Calls.quiet_of_same (HI.out _) | exact quiet_same2 (HI.out _))))
            go_wp2
            go_quiet (fail)
            go_wp2
            go_ret
            exact ⟨ret_int HR.out.symm, below_drewN (below_drewN (below_drewN HB.out _) _) _⟩
          · have HR := hid (HK2.out (by rw [HFK.out, if_neg (by omega), if_neg (by omega)]))
            have h3' : decide (x ≤ y) = false := by simpa using h3
            clear hr hk0 h3
            go_wp2
            go_quiet ((go_at_call 53; (first | exact Calls.quiet_of_same (HI.out _) | exact quiet_same2 (HI.out _))))
            go_wp2
            go_quiet (fail)
            go_wp2
            go_roundw
            case rel => exact ⟨k + 1, by omega, by go_num, HR.out, _, rfl⟩
            case measure => simp [intOf]; omega
      · have HI := hid (fun W => M.is_upto n (l.getD k 0) false (decide_eq_false hr) W)
        have HR : Hid (M.co n l = 5) := hid (by
          have e := HFK.out; rw [if_pos (by omega)] at e
          rw [HE.out, HK.out (by omega), e])
        generalize l.getD k 0 = x at *
        clear hr
        go_wp2
        go_quiet ((go_at_call 53; (first | exact Calls.quiet_of_same (HI.out _) | exact quiet_same2 (HI.out _))))
        go_wp2
        go_ret
        exact ⟨ret_int HR.out.symm, below_drewN (below_drewN HB.out _) _⟩
    · have hke : k = l.length := by omega
      subst hke
      go_wp2
      go_ret
      exact ⟨ret_int (by rw [HE.out, HZ.out]), below_drewN HB.out _⟩

set_option maxHeartbeats 1000000 in
theorem word_any (m : Int) (a : Option Addr) (c : Nat) (T : List (List Int)) (aw : Option Addr) (cw : Nat) (l : List Int) (w : World) (hm2 : 2 ≤ m) (hm4 : m ≤ 4) (hm : l.length ≤ maxLen) (h0 : 0 < T.length) (hT : RdM w a T) (hl : RdI w aw l) :
    Calls Tryd.prog 51 #[M.cv m a T.length c, .slice aw l.length cw] w fun e w' => e = .returned (.int .i64 (M.wd m (M.pl T) l)) ∧ Below w.heap.size w w' := by
  unfold maxLen at hm
  obtain ⟨W, hW, c0, c1, hB, hlt⟩ := M.newT w 28 (.int .i64 m) (.slice a T.length c)
  obtain ⟨b, off, r, cr, rfl, hc, -⟩ := M.row0 (hT.stays hB) h0
  have HL := hid (hl.stays hB)
  have HB := hid hB
  have hix : (0 : Int) < (T.length : Int) := by omega
  unfold M.cv
  by_cases hp : l.length = M.pl T
  · have HE : Hid (M.wd m (M.pl T) l = M.fst (fun k => M.bad m (l.getD k 0)) l.length) := hid (by rw [← hp, M.wd_len])
    rw [← hp] at hc
    have hpp : ((l.length : Int) != (l.length : Int)) = false := by simp
    clear hB hl hT hp
    go_enter Tryd.func51, Tryd.ntmps51
    go_wp2
    rw [hW] at *
    go_loopw [5] (fun i wr => ∃ j : Nat, j ≤ l.length ∧ i = .int .i64 j ∧ M.fst (fun j => M.bad m (l.getD j 0)) j = 0 ∧ ∃ q, wr = W.drewN q) (fun i _ => l.length - (intOf i).toNat)
    case atStart => exact ⟨0, Nat.zero_le _, rfl, rfl, 0, rfl⟩
    case round =>
      obtain ⟨j, hj, rfl, hz, q, rfl⟩ := hrel
      have HZJ := hid hz
      clear hz
      by_cases hjl : j < l.length
      · obtain ⟨b3, o3, rfl, hx⟩ := M.num HL.out hjl
        have HXK : Hid (M.bad m (l.getD j 0) ≠ 0 → M.fst (fun j => M.bad m (l.getD j 0)) l.length = M.bad m (l.getD j 0)) := hid (fun h => M.fst_at (f := fun j => M.bad m (l.getD j 0)) HZJ.out hjl h)
        have HXK2 : Hid (M.bad m (l.getD j 0) = 0 → M.fst (fun j => M.bad m (l.getD j 0)) (j + 1) = 0) := hid (fun h => M.fst_step (f := fun j => M.bad m (l.getD j 0)) HZJ.out h)
        have hjx : (0 : Int) ≤ (j : Int) ∧ (j : Int) < (l.length : Int) := by omega
        generalize l.getD j 0 = x at *
        have HIM := hid (fun W => M.is_mark m x W)
        by_cases hx0 : M.bad m x = 0
        · have HR := hid (HXK2.out hx0)
          rw [decide_eq_true hx0] at HIM
          clear hx0
          go_wp2
          go_quiet ((go_at_call 53; (first | exact Calls.quiet_of_same (HIM.out _) | exact quiet_same2 (HIM.out _))))
          go_wp2
          go_roundw
          case rel => exact ⟨j + 1, by omega, by go_num, HR.out, _, rfl⟩
          case measure => simp [intOf]; omega
        · have HR : Hid (M.wd m (M.pl T) l = 4) := hid (by
            have e : M.bad m x = 4 := by unfold M.bad at hx0 ⊢; by_cases h : x < 0 ∨ m ≤ x <;> simp [h] at hx0 ⊢
            rw [HE.out, HXK.out hx0, e])
          rw [decide_eq_false hx0] at HIM
          clear hx0
          go_wp2
          go_quiet ((go_at_call 53; (first | exact Calls.quiet_of_same (HIM.out _) | exact quiet_same2 (HIM.out _))))
          go_wp2
          go_ret
          exact ⟨ret_int HR.out.symm, below_drewN (below_drewN HB.out _) _⟩
      · have hje : j = l.length := by omega
        subst hje
        go_wp2
        go_ret
        exact ⟨ret_int (by rw [HE.out, HZJ.out]), below_drewN HB.out _⟩
  · have HE : Hid (M.wd m (M.pl T) l = 3) := hid (by unfold M.wd; rw [if_neg hp])
    have hp1 : ((l.length : Int) != (M.pl T : Int)) = true := by simp; omega
    clear hB hl hT hp
    go_enter Tryd.func51, Tryd.ntmps51
    go_wp2
    rw [hW] at *
    go_ret
    exact ⟨ret_int HE.out.symm, HB.out⟩

theorem M.any_take {p : Int → Bool} {l : List Int} {k : Nat} (h : k < l.length) : (l.take (k + 1)).any p = ((l.take k).any p || p (l.getD k 0)) := by
  rw [List.take_succ_eq_append_getElem h, List.any_append, List.getD_eq_getElem?_getD, List.getElem?_eq_getElem h]
  simp

/-- What a coalition and a word are wanted to be. -/
structure M.Mk (T : List (List Int)) (l wd : List Int) : Prop where
  n : T.length ≤ 1000
  len : ∀ i, i < T.length → (T.getD i []).length = M.pl T
  ln : l.length ≤ maxLen
  inn : ∀ i, i < l.length → 0 ≤ l.getD i 0 ∧ l.getD i 0 < T.length
  wl : wd.length = M.pl T
  p : M.pl T ≤ 1000

set_option maxHeartbeats 4000000 in
theorem makes_any (m : Int) (a : Option Addr) (c : Nat) (T : List (List Int)) (al : Option Addr) (cl : Nat) (l : List Int) (aw : Option Addr) (cw : Nat) (wd : List Int) (w : World) (H : M.Mk T l wd) (hT : RdM w a T) (hl : RdI w al l) (hw : RdI w aw wd) :
    Calls Tryd.prog 52 #[M.cv m a T.length c, .slice al l.length cl, .slice aw wd.length cw] w fun e w' => e = .returned (.bool (M.can T l wd)) ∧ Below w.heap.size w w' := by
  obtain ⟨W, hW, c0, c1, hB, hlt⟩ := M.newT w 28 (.int .i64 m) (.slice a T.length c)
  have HT := hid (hT.stays hB)
  have HL := hid (hl.stays hB)
  have HWD := hid (hw.stays hB)
  have HB := hid hB
  have HH := hid H
  have hln := H.ln
  have HWL := hid H.wl
  have hpp := H.p
  have hnn := H.n
  have hwm : wd.length ≤ 1000 := by have := H.wl; omega
  unfold maxLen at hln
  obtain ⟨r, hr⟩ : ∃ r, M.can T l wd = r := ⟨_, rfl⟩
  have HR := hid hr
  rw [hr]
  unfold M.cv
  clear hB hl hT hw H hr
  go_enter Tryd.func52, Tryd.ntmps52
  go_wp2
  rw [hW] at *
  go_loopw [7] (fun i wr => ∃ k : Nat, k ≤ wd.length ∧ i = .int .i64 k ∧ (∀ j, j < k → (l.any fun i => M.mk T i j == wd.getD j 0) = true) ∧ ∃ q, wr = W.drewN q) (fun i _ => wd.length - (intOf i).toNat)
  case atStart => exact ⟨0, Nat.zero_le _, rfl, fun j h => absurd h (Nat.not_lt_zero _), 0, rfl⟩
  case round =>
    obtain ⟨k, hk, rfl, ho, q, rfl⟩ := hrel
    have HO := hid ho
    clear ho
    by_cases hkl : k < wd.length
    · obtain ⟨b3, o3, rfl, hx⟩ := M.num HWD.out hkl
      have hkx : (0 : Int) ≤ (k : Int) ∧ (k : Int) < (wd.length : Int) := by omega
      have hkp : (0 : Int) ≤ (k : Int) ∧ (k : Int) < (M.pl T : Int) := by have := HWL.out; omega
      have HX : Hid (∃ x, wd.getD k 0 = x) := hid ⟨_, rfl⟩
      obtain ⟨x, hxe⟩ := HX.out
      have HXE := hid hxe
      rw [hxe] at hx
      clear hxe HX
      go_wp2
      go_loopw [8, 9] (fun f i wr => ∃ j : Nat, j ≤ l.length ∧ i = .int .i64 j ∧ f = .bool ((l.take j).any fun i => M.mk T i k == x) ∧ ∃ q, wr = W.drewN q) (fun _ i _ => l.length - (intOf i).toNat)
      case atStart => exact ⟨0, Nat.zero_le _, rfl, rfl, _, rfl⟩
      case round =>
        obtain ⟨j, hj, rfl, rfl, q, rfl⟩ := hrel
        by_cases hjl : j < l.length
        · obtain ⟨b4, o4, rfl, hy⟩ := M.num HL.out hjl
          have hjx : (0 : Int) ≤ (j : Int) ∧ (j : Int) < (l.length : Int) := by omega
          have HS := hid (M.any_take (p := fun i => M.mk T i k == x) hjl)
          have hin := HH.out.inn j hjl
          obtain ⟨b5, o5, r5, c5, rfl, hz, hrow⟩ := M.row HT.out (show (l.getD j 0).toNat < T.length by omega)
          rw [HH.out.len _ (by omega)] at hz
          obtain ⟨b6, o6, rfl, hm6⟩ := M.num hrow (show k < (T.getD (l.getD j 0).toNat []).length by rw [HH.out.len _ (by omega), ← HWL.out]; exact hkl)
          have HMK : Hid (M.mk T (l.getD j 0) k = (T.getD (l.getD j 0).toNat []).getD k 0) := hid rfl
          clear hrow
          generalize l.getD j 0 = y at *
          generalize (T.getD y.toNat []).getD k 0 = u at *
          generalize (l.take j).any (fun i => M.mk T i k == x) = fd at *
          cases fd with
          | true =>
            have HR2 : Hid (((l.take (j + 1)).any fun i => M.mk T i k == x) = true) := hid (by rw [HS.out]; rfl)
            go_wp2
            go_quiet (fail)
            go_wp2
            go_roundw
            case rel => exact ⟨j + 1, by omega, by go_num, by rw [HR2.out], _, rfl⟩
            case measure => simp [intOf]; omega
          | false =>
            have HR2 : Hid (((l.take (j + 1)).any fun i => M.mk T i k == x) = (u == x)) := hid (by rw [HS.out, ← HMK.out]; rfl)
            go_wp2
            go_quiet (fail)
            go_wp2
            go_roundw
            case rel => exact ⟨j + 1, by omega, by go_num, by rw [HR2.out], _, rfl⟩
            case measure => simp [intOf]; omega
        · have hje : j = l.length := by omega
          subst hje
          rw [List.take_length]
          have HD : Hid (∀ j, j < k → (l.any fun i => M.mk T i j == wd.getD j 0) = true) := HO
          obtain ⟨fd, hfd⟩ : ∃ fd, (l.any fun i => M.mk T i k == x) = fd := ⟨_, rfl⟩
          have HFD := hid hfd
          rw [hfd]
          clear hfd
          cases fd with
          | true =>
            go_wp2
            go_roundw
            case rel => exact ⟨k + 1, by omega, by go_num, fun j hj => by
              by_cases e : j = k
              · subst e; rw [HXE.out]; exact HFD.out
              · exact HD.out j (by omega), _, rfl⟩
            case measure => simp [intOf]; omega
          | false =>
            have HR2 : Hid (r = false) := hid (by
              rw [← HR.out]
              cases hc : M.can T l wd with
              | false => rfl
              | true =>
                obtain ⟨i, hi, he⟩ := M.can_iff.1 hc k hkl
                have h1 := List.any_eq_false.1 HFD.out i hi
                rw [HXE.out] at he
                simp [he] at h1)
            go_wp2
            go_ret
            exact ⟨ret_bool HR2.out.symm, below_drewN HB.out _⟩
    · have hke : k = wd.length := by omega
      subst hke
      have HR2 : Hid (r = true) := hid (by
        rw [← HR.out, M.can_iff]
        intro k hk
        obtain ⟨i, hi, he⟩ := List.any_eq_true.1 (HO.out k hk)
        exact ⟨i, hi, by simpa using he⟩)
      go_wp2
      go_ret
      exact ⟨ret_bool HR2.out.symm, below_drewN HB.out _⟩
end Go.Proofs.YthnklabdjaiplaaDoor
