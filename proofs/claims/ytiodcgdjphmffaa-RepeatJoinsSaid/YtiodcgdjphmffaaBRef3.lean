/- The reference's period, periods, Periods, Root. -/
import Derived.Test.YtiodcgdjphmffaaBRef1
import Derived.Test.YtiodcgdjphmffaaBRoot
namespace Go.Proofs.Ytiodcgdjphmffaa
open Go.RowKit

theorem B.per_iff {l : List UInt8} {p : Nat} : B.per l p = true ↔ ∀ i (h : i + p < l.length), l[i]'(by omega) = l[i + p] := by
  unfold B.per
  rw [List.isPrefixOf_iff_prefix, List.prefix_iff_getElem]
  constructor
  · rintro ⟨_, h⟩ i hi
    have := h i (by rw [List.length_drop]; omega)
    rw [List.getElem_drop] at this
    rw [← this]
    congr 1
    omega
  · intro h
    refine ⟨by rw [List.length_drop]; omega, fun i hi => ?_⟩
    rw [List.length_drop] at hi
    rw [List.getElem_drop, h i (by omega)]
    congr 1
    omega

theorem B.get_eq (s : ByteArray) (i : Nat) (h : i < s.size) : s[i] = s.data.toList[i]'(by rw [B.len]; exact h) := by simp; rfl

set_option maxHeartbeats 1000000 in
set_option maxRecDepth 100000 in
theorem refPeriod_any (s : ByteArray) (p : Nat) (w : World) (hm : s.size ≤ 1000) (hp : p ≤ 1000) :
    Calls Try.prog 50 #[.string s, .int .i64 p] w fun e w' => e = .returned (.bool (B.per s.data.toList p)) ∧ ∃ n, w' = w.drewN n := by
  have HP : Hid (B.per s.data.toList p = true ↔ ∀ i (h : i + p < s.size), s[i]'(by omega) = s[i + p]) := hid (by
    rw [B.per_iff]
    constructor
    · intro h i hi
      rw [B.get_eq s i (by omega), B.get_eq s (i + p) hi]
      exact h i (by rw [B.len]; exact hi)
    · intro h i hi
      rw [B.len] at hi
      have := h i hi
      rw [B.get_eq s i (by omega), B.get_eq s (i + p) hi] at this
      exact this)
  obtain ⟨d, hd⟩ : ∃ d, B.per s.data.toList p = d := ⟨_, rfl⟩
  rw [hd] at HP ⊢
  clear hd
  go_enter Try.func50, Try.ntmps50
  go_wp2
  go_loopw [5] (fun x wr => ∃ i : Nat, i ≤ s.size ∧ x = .int .i64 i ∧ (∀ j (_ : j < i) (h : j + p < s.size), s[j]'(by omega) = s[j + p]) ∧ ∃ n, wr = w.drewN n) (fun x _ => s.size - (intOf x).toNat)
  case atStart => exact ⟨0, Nat.zero_le _, rfl, fun j h => absurd h (Nat.not_lt_zero _), 0, rfl⟩
  case round =>
    obtain ⟨i, hi, rfl, ho, q, rfl⟩ := hrel
    have HO := hid ho
    clear ho
    by_cases hlt : i + p < s.size
    · have h1 : i < s.size := by omega
      have hix1 : (0 : Int) ≤ (i : Int) ∧ (i : Int) < (s.size : Int) := by omega
      have hix2 : (0 : Int) ≤ (i : Int) + (p : Int) ∧ (i : Int) + (p : Int) < (s.size : Int) := by omega
      have hwr : IntKind.i64.wrap ((i : Int) + (p : Int)) = (i : Int) + (p : Int) := IntWalk.i64_in _ ⟨by omega, by omega⟩
      have htn : ((i : Int) + (p : Int)).toNat = i + p := by omega
      have HE : Hid (s[i] = s[i + p] ↔ (s[i].toNat : Int) = (s[i + p].toNat : Int)) := hid ⟨fun h => by rw [h], fun h => UInt8.toNat_inj.1 (by omega)⟩
      obtain ⟨x, hx⟩ : ∃ x, (s[i]'h1).toNat = x := ⟨_, rfl⟩
      obtain ⟨y, hy⟩ : ∃ y, (s[i + p]'hlt).toNat = y := ⟨_, rfl⟩
      rw [hx, hy] at HE
      by_cases hxy : x = y
      · have HO2 : Hid (∀ j (_ : j < i + 1) (h : j + p < s.size), s[j]'(by omega) = s[j + p]) := hid (fun j hj h => by
          by_cases e : j = i
          · subst e; exact HE.out.2 (by omega)
          · exact HO.out j (by omega) h)
        subst hxy
        go_wp2
        go_quiet (fail)
        go_wp2
        go_roundw
        case rel => exact ⟨i + 1, by omega, by go_num, HO2.out, _, rfl⟩
        case measure => simp [intOf]; omega
      · have HD : Hid (d = false) := hid (by
          rw [← Bool.not_eq_true, HP.out]
          intro h
          have := HE.out.1 (h i hlt)
          omega)
        have hne : ((x : Int) == (y : Int)) = false := by rw [beq_eq_false_iff_ne]; omega
        clear hxy
        go_wp2
        go_quiet (fail)
        go_wp2
        go_ret
        exact ⟨by rw [HD.out]; rfl, _, World.drewN_drewN _ _ _⟩
    · have HD : Hid (d = true) := hid (HP.out.2 (fun j h => by
        by_cases e : j < i
        · exact HO.out j e h
        · omega))
      have hlt2 : ¬ ((i : Int) + (p : Int) < (s.size : Int)) := by omega
      go_wp2
      go_ret
      exact ⟨by rw [HD.out]; rfl, _, rfl⟩

set_option maxHeartbeats 1000000 in
set_option maxRecDepth 100000 in
theorem refPeriods0_any (s : ByteArray) (w : World) (hm : s.size ≤ 100) :
    Calls Try.prog 48 #[.string s] w fun e w' => ∃ a c, e = .returned (.slice a (B.sel (B.per s.data.toList) s.size).length c) ∧ RdI w' a (B.sel (B.per s.data.toList) s.size) ∧ Below w.heap.size w w' := by
  have CF := hid (fun k w (h : k ≤ s.size) => refPeriod_any s k w (by omega) (by omega))
  have HH := hid (fun k => B.sel_hit (f := B.per s.data.toList) (k := k))
  have HN := hid (fun k => B.sel_miss (f := B.per s.data.toList) (k := k))
  have HL := hid (B.sel_len (B.per s.data.toList))
  obtain ⟨i0, hi, hz0, hz1, hz2⟩ := info_parts (show (Try.prog.info? 3).map (fun i => (i.zero, i.size, i.bytes)) = some (some (.int .i64 0), 1, 8) by kernel_rfl)
  go_enter Try.func48, Try.ntmps48
  go_wp2
  go_loopw [3, 4] (fun v i wr => ∃ k : Nat, k ≤ s.size ∧ i = .int .i64 ((k : Int) + 1) ∧ RowI wr w.heap.size v (B.sel (B.per s.data.toList) k) ∧ Below w.heap.size w wr) (fun _ i _ => s.size + 1 - (intOf i).toNat)
  case atStart => exact ⟨0, Nat.zero_le _, rfl, RowI.nil _ _, Below.refl _ _⟩
  case round =>
    obtain ⟨k, hk, rfl, hrow, hb⟩ := hrel
    have HROW := hid hrow
    have HB := hid hb
    clear hrow hb
    by_cases hlt : k < s.size
    · have HH1 := hid (HH.out k)
      have HN1 := hid (HN.out k)
      have hlk := HL.out k
      have CF1 := hid (fun w => CF.out (k + 1) w (by omega))
      have HM1 : Hid ((B.sel (B.per s.data.toList) k).length + 1 ≤ maxLen) := hid (by unfold maxLen; omega)
      have HM2 : Hid (((B.sel (B.per s.data.toList) k).length + 1) * 8 ≤ 140737488355328) := hid (by omega)
      have hwk : ((k + 1 : Nat) : Int) = (k : Int) + 1 := by omega
      rw [hwk] at CF1
      have HWK := hid hwk
      clear hlk hwk
      generalize B.per s.data.toList (k + 1) = c at *
      cases c with
      | true =>
        have HE2 := hid (HH1.out rfl)
        rw [HWK.out] at HE2
        clear HH1 HN1
        generalize B.sel (B.per s.data.toList) k = F at *
        go_wp2_with (first | (go_at_call 50; refine (CF1.out _).mono ?_; rintro e w2 ⟨rfl, qn, hqn⟩; have hb2 : Below wr.heap.size wr w2 := hqn ▸ below_drewN (Below.refl _ _) _; have HB2 := hid (HB.out.trans (hb2.mono HB.out.size)); have HROW2 := hid (HROW.out.stays hb2); clear hb2 hqn) | (at_builtin; refine wpList_append_own _ rfl _ _ 23 rfl w.heap.size 3 i0 (.int .i64 0) 1 8 Try.underlying23 hi hz0 hz1 hz2 rfl (by decide) _ _ _ rfl (World.ownsRow.alloc HROW2.out _) ⟨w2.heap.size, 0, none⟩ 1 1 [.int .i64 ((k : Int) + 1)] rfl rfl ?pa ?pb HM1.out HM2.out ?pc ?_))
        case pa =>
          intro i u hi
          match i, hi with
          | 0, hi => simp at hi; subst hi; rw [show Addr.add ⟨w2.heap.size, 0, none⟩ 0 = ⟨w2.heap.size, 0, none⟩ from rfl, World.cell?_alloc_at _ _ _ _ rfl]; rfl
        case pb => intro u hu; simp at hu; subst hu; rfl
        case pc => exact Nat.le_trans HB2.out.size (by simp)
        intro v' w9 hown' hgrow _
        have HB9 := hid (Below.grown (HB2.out.alloc HB2.out.size (.cells #[.int .i64 ((k : Int) + 1)] 3)) hgrow (by simp; have := HB2.out.size; omega) (fun q hq => (World.ownsRow.lt HROW2.out q hq).1))
        have HO9 := hid (RowI.push hown')
        clear hown' hgrow
        go_wp2
        go_roundw
        case rel => exact ⟨k + 1, by omega, by go_num, by rw [HE2.out]; exact HO9.out, HB9.out⟩
        case measure => simp [intOf]; omega
      | false =>
        have HE2 := hid (HN1.out rfl)
        clear HH1 HN1
        go_wp2_with (go_at_call 50; refine (CF1.out _).mono ?_; rintro e w2 ⟨rfl, qn, hqn⟩; have hb2 : Below wr.heap.size wr w2 := hqn ▸ below_drewN (Below.refl _ _) _; have HB2 := hid (HB.out.trans (hb2.mono HB.out.size)); have HROW2 := hid (HROW.out.stays hb2); clear hb2 hqn)
        go_roundw
        case rel => exact ⟨k + 1, by omega, by go_num, by rw [HE2.out]; exact HROW2.out, HB2.out⟩
        case measure => simp [intOf]; omega
    · have hke : k = s.size := by omega
      subst hke
      obtain ⟨a9, c9, rfl, hrd⟩ := HROW.out.rd
      have HRD := hid hrd
      clear hrd
      go_wp2
      go_ret
      exact ⟨_, _, rfl, HRD.out, HB.out⟩

set_option maxHeartbeats 400000 in
theorem refPeriods_any (s : ByteArray) (w : World) (hm : s.size ≤ maxLen) :
    Calls Try.prog 17 #[.string s] w (B.ListE (B.periodsV s).1 (B.periodsV s).2 w) := by
  have CC := hid (fun w => refCheck_any s w hm)
  by_cases h0 : B.chk s = 0
  · have HV : Hid (B.periodsV s = (B.sel (B.per s.data.toList) s.size, 0)) := hid (by unfold B.periodsV; rw [if_pos h0])
    have h24 := (B.chk_zero h0).2.1
    have CF := hid (fun w => refPeriods0_any s w (by omega))
    rw [h0] at CC
    rw [HV.out]
    clear h0
    generalize B.sel (B.per s.data.toList) s.size = l at *
    go_enter Try.func17, Try.ntmps17
    go_wp2_with fail
    refine (CC.out _).mono ?_
    rintro e wq ⟨rfl, rfl⟩
    go_wp2_with fail
    refine (CF.out _).mono ?_
    rintro e w2 ⟨a, c, rfl, hr, hb⟩
    have HR := hid hr
    have HB := hid hb
    clear hr hb
    go_wp2
    go_ret2
    exact ⟨_, _, rfl, HR.out, HB.out⟩
  · have HV : Hid (B.periodsV s = ([], B.chk s)) := hid (by unfold B.periodsV; rw [if_neg h0])
    have hn : (B.chk s != 0) = true := by simpa using h0
    rw [HV.out]
    clear h0
    generalize B.chk s = c at *
    go_enter Try.func17, Try.ntmps17
    go_wp2_with (refine (CC.out _).mono ?_; rintro e wq ⟨rfl, rfl⟩)
    go_ret2
    exact ⟨_, _, rfl, fun k hk => absurd hk (Nat.not_lt_zero _), Below.refl _ _⟩
end Go.Proofs.Ytiodcgdjphmffaa
