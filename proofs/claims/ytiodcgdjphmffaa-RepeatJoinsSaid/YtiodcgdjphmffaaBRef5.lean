/- The reference's has, put. -/
import Derived.Test.YtiodcgdjphmffaaBRef3
import Derived.Test.YtiodcgdjphmffaaBGrow
namespace Go.Proofs.Ytiodcgdjphmffaa
open Go.RowKit

theorem B.contains_iff (l m : List UInt8) : Lib.contains l m = true ↔ ∃ i, i + m.length ≤ l.length ∧ m.isPrefixOf (l.drop i) = true := by
  unfold Lib.contains
  rw [decide_eq_true_eq]
  constructor
  · intro h
    rcases Classical.em (∃ i, i ≤ l.length ∧ Lib.occAt l m i = true) with ⟨i, hi, ho⟩ | hno
    · refine ⟨i, ?_, ho⟩
      unfold Lib.occAt at ho
      rw [List.isPrefixOf_iff_prefix] at ho
      have := ho.length_le
      rw [List.length_drop] at this
      omega
    · have : Lib.index l m = -1 := Lib.index_none (fun j hj => by
        cases h : Lib.occAt l m j
        · rfl
        · exact absurd ⟨j, hj, h⟩ hno)
      omega
  · rintro ⟨i, hi, ho⟩
    have hex : ∃ j, j ≤ l.length ∧ Lib.occAt l m j = true ∧ ∀ q, q < j → Lib.occAt l m q = false := by
      have : ∀ n, n ≤ i → (∃ j, j ≤ n ∧ Lib.occAt l m j = true ∧ ∀ q, q < j → Lib.occAt l m q = false) ∨ ∀ q, q ≤ n → Lib.occAt l m q = false := by
        intro n
        induction n with
        | zero =>
          intro _
          cases h : Lib.occAt l m 0
          · exact .inr (fun q hq => by rw [show q = 0 by omega]; exact h)
          · exact .inl ⟨0, Nat.le_refl _, h, fun q hq => absurd hq (Nat.not_lt_zero _)⟩
        | succ n ih =>
          intro hn
          rcases ih (by omega) with ⟨j, h1, h2, h3⟩ | h
          · exact .inl ⟨j, by omega, h2, h3⟩
          · cases h2 : Lib.occAt l m (n + 1)
            · refine .inr (fun q hq => ?_)
              by_cases e : q = n + 1
              · rw [e]; exact h2
              · exact h q (by omega)
            · exact .inl ⟨n + 1, Nat.le_refl _, h2, fun q hq => h q (by omega)⟩
      rcases this i (Nat.le_refl _) with ⟨j, h1, h2, h3⟩ | h
      · exact ⟨j, by omega, h2, h3⟩
      · have := h i (Nat.le_refl _)
        unfold Lib.occAt at this
        rw [ho] at this
        cases this
    obtain ⟨j, h1, h2, h3⟩ := hex
    rw [Lib.index_first h1 h2 h3]
    omega

theorem B.eq_occ (s t : ByteArray) (i : Nat) (_ : i + t.size ≤ s.size) : ((s.extract i (i + t.size)).toList == t.toList) = t.data.toList.isPrefixOf (s.data.toList.drop i) := by
  rw [Lib.toList_data, Lib.toList_data, Lib.extract_data, Bool.eq_iff_iff, beq_iff_eq, List.isPrefixOf_iff_prefix, List.prefix_iff_eq_take, B.len]
  rw [show i + t.size - i = t.size by omega]
  exact eq_comm

set_option maxHeartbeats 1000000 in
set_option maxRecDepth 100000 in
theorem refHas_any (s t : ByteArray) (w : World) (hs : s.size ≤ 2000) (ht : t.size ≤ 2000) :
    Calls Try.prog 82 #[.string s, .string t] w fun e w' => e = .returned (.bool (Lib.contains s.data.toList t.data.toList)) ∧ w' = w := by
  have HC := hid (B.contains_iff s.data.toList t.data.toList)
  have HE := hid (B.eq_occ s t)
  rw [B.len, B.len] at HC
  obtain ⟨d, hd⟩ : ∃ d, Lib.contains s.data.toList t.data.toList = d := ⟨_, rfl⟩
  rw [hd] at HC ⊢
  clear hd
  go_enter Try.func82, Try.ntmps82
  go_wp2
  go_loop [5] (fun x => ∃ i : Nat, i ≤ s.size + 1 ∧ x = .int .i64 i ∧ ∀ j, j < i → j + t.size ≤ s.size → t.data.toList.isPrefixOf (s.data.toList.drop j) = false) (fun x => s.size + 1 - (intOf x).toNat)
  case atStart => exact ⟨0, Nat.zero_le _, rfl, fun j h => absurd h (Nat.not_lt_zero _)⟩
  case round =>
    obtain ⟨i, hi, rfl, ho⟩ := hrel
    have HO := hid ho
    clear ho
    by_cases hlt : i + t.size ≤ s.size
    · have hep := HE.out i hlt
      have hwr1 : IntKind.i64.wrap ((i : Int) + (t.size : Int)) = (i : Int) + (t.size : Int) := IntWalk.i64_in _ ⟨by omega, by omega⟩
      have htn1 : ((i : Int) + (t.size : Int)).toNat = i + t.size := by omega
      have hle : (i : Int) + (t.size : Int) ≤ (s.size : Int) := by omega
      have hb1 : (0 : Int) ≤ (i : Int) ∧ (i : Int) ≤ (i : Int) + (t.size : Int) ∧ (i : Int) + (t.size : Int) ≤ (s.size : Int) := by omega
      generalize hx : t.data.toList.isPrefixOf (s.data.toList.drop i) = x at *
      have HX := hid hx
      clear hx
      cases x with
      | true =>
        have HD : Hid (d = true) := hid (HC.out.2 ⟨i, hlt, HX.out⟩)
        go_wp2
        go_ret
        exact ⟨by rw [HD.out]; rfl, rfl⟩
      | false =>
        have HO2 : Hid (∀ j, j < i + 1 → j + t.size ≤ s.size → t.data.toList.isPrefixOf (s.data.toList.drop j) = false) := hid (fun j hj h => by
          by_cases e : j = i
          · rw [e]; exact HX.out
          · exact HO.out j (by omega) h)
        go_wp2
        go_round
        case rel => exact ⟨i + 1, by omega, by go_num, HO2.out⟩
        case measure => simp [intOf]; omega
    · have HD : Hid (d = false) := hid (by
        rw [← Bool.not_eq_true, HC.out]
        rintro ⟨j, h1, h2⟩
        rw [HO.out j (by omega) h1] at h2
        cases h2)
      have hnl : ¬ ((i : Int) + (t.size : Int) ≤ (s.size : Int)) := by omega
      have hwr1 : IntKind.i64.wrap ((i : Int) + (t.size : Int)) = (i : Int) + (t.size : Int) := IntWalk.i64_in _ ⟨by omega, by omega⟩
      go_wp2
      go_ret
      exact ⟨by rw [HD.out]; rfl, rfl⟩

theorem B.eq_suf (r b : ByteArray) (k : Nat) (h1 : k ≤ r.size) (h2 : k ≤ b.size) : ((r.extract (r.size - k) r.size).toList == (b.extract 0 k).toList) = Lib.hasSuffix r.data.toList (b.data.toList.take k) := by
  rw [Lib.toList_data, Lib.toList_data, B.drop_data, B.take_data, ← Lib.hasSuffix_of_drop, List.length_take, B.len, B.len]
  rw [decide_eq_true (show min k b.size ≤ r.size by omega), Bool.true_and, show min k b.size = k by omega]

set_option maxHeartbeats 1000000 in
set_option maxRecDepth 100000 in
theorem refPut_any (r b : ByteArray) (w : World) (hr : r.size ≤ 2000) (hb : b.size ≤ 2000) :
    Calls Try.prog 74 #[.string r, .string b] w fun e w' => e = .returned (.string (B.grow r b)) ∧ Below w.heap.size w w' := by
  have CC := hid (refHas_any r b w (by omega) (by omega))
  by_cases hc : Lib.contains r.data.toList b.data.toList = true
  · have HV : Hid (B.grow r b = r) := hid (by unfold B.grow; rw [if_pos hc])
    rw [hc] at CC
    go_enter Try.func74, Try.ntmps74
    go_wp2_with (refine CC.out.mono ?_; rintro e w' ⟨rfl, rfl⟩)
    go_ret
    exact ⟨by rw [HV.out]; rfl, Below.refl _ _⟩
  · have HV : Hid (B.grow r b = r ++ b.extract (B.ov r.data.toList b.data.toList (min r.size b.size)) b.size) := hid (by unfold B.grow; rw [if_neg hc])
    rw [Bool.not_eq_true] at hc
    rw [hc] at CC
    clear hc
    have HOV : Hid (∀ k, (Lib.hasSuffix r.data.toList (b.data.toList.take (k + 1)) = true → B.ov r.data.toList b.data.toList (k + 1) = k + 1) ∧ (Lib.hasSuffix r.data.toList (b.data.toList.take (k + 1)) = false → B.ov r.data.toList b.data.toList (k + 1) = B.ov r.data.toList b.data.toList k)) := hid (fun k => by
      unfold Lib.hasSuffix
      constructor
      · intro h; rw [B.ov, if_pos h]
      · intro h; rw [B.ov, if_neg (by rw [h]; decide)])
    have HO0 : Hid (B.ov r.data.toList b.data.toList 0 = 0) := hid rfl
    have HS0 : Hid (Lib.hasSuffix r.data.toList (b.data.toList.take 0) = true) := hid (by unfold Lib.hasSuffix; rw [List.take_zero]; simp [List.isSuffixOf])
    have HES := hid (B.eq_suf r b)
    obtain ⟨m, hm2⟩ : ∃ m, min r.size b.size = m := ⟨_, rfl⟩
    have hmi : min (r.size : Int) (b.size : Int) = (m : Int) := by omega
    have hmb : m ≤ b.size := by omega
    have hmr : m ≤ r.size := by omega
    rw [hm2] at HV
    clear hm2
    go_enter Try.func74, Try.ntmps74
    go_wp2_with (refine CC.out.mono ?_; rintro e wq ⟨rfl, rfl⟩)
    go_loopw [5] (fun x wr => ∃ k : Nat, k ≤ m ∧ x = .int .i64 k ∧ B.ov r.data.toList b.data.toList m = B.ov r.data.toList b.data.toList k ∧ Below wq.heap.size wq wr) (fun x _ => (intOf x).toNat)
    case atStart => exact ⟨m, Nat.le_refl _, rfl, rfl, Below.refl _ _⟩
    case round =>
      obtain ⟨k, hk, rfl, ho, hbel⟩ := hrel
      have HO := hid ho
      have HB := hid hbel
      clear ho hbel
      have hes := HES.out k (by omega) (by omega)
      have hsub : (r.size : Int) - (k : Int) = ((r.size - k : Nat) : Int) := by omega
      have hb2 : (0 : Int) ≤ ((r.size - k : Nat) : Int) ∧ ((r.size - k : Nat) : Int) ≤ (r.size : Int) := by omega
      generalize hx : Lib.hasSuffix r.data.toList (b.data.toList.take k) = x at *
      have HX := hid hx
      clear hx
      cases x with
      | true =>
        have HE : Hid (B.ov r.data.toList b.data.toList m = k) := hid (by
          rw [HO.out]
          cases k with
          | zero => exact HO0.out
          | succ k => exact (HOV.out k).1 HX.out)
        have hz := B.size_extract b k b.size
        have hadd : ∀ w, (Op.stringOp .add r (b.extract k b.size)).run Try.prog w = .ok (.string (r ++ b.extract k b.size)) w := fun w => run_string_add_sum (P := Try.prog) (w := w) r (b.extract k b.size) (by omega)
        go_wp2
        go_quiet (fail)
        go_wp2
        go_ret
        exact ⟨by rw [HV.out, HE.out]; rfl, below_drewN HB.out _⟩
      | false =>
        obtain ⟨j, rfl⟩ : ∃ j, k = j + 1 := by
          cases k with
          | zero => exact absurd (HS0.out.symm.trans HX.out) (by decide)
          | succ j => exact ⟨j, rfl⟩
        have HE := hid ((HOV.out j).2 HX.out)
        have hj : ((j + 1 : Nat) : Int) = (j : Int) + 1 := by omega
        have hj2 : (j : Int) + 1 ≤ (b.size : Int) := by omega
        have htn : ((j : Int) + 1).toNat = j + 1 := by omega
        rw [hj] at hsub
        clear hj
        go_wp2
        go_quiet (fail)
        go_wp2
        go_roundw
        case rel => exact ⟨j, by omega, rfl, by rw [HO.out, HE.out], below_drewN HB.out _⟩
        case measure => simp [intOf]
end Go.Proofs.Ytiodcgdjphmffaa
