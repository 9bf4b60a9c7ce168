/- The reference's Join. -/
import Derived.Test.YtiodcgdjphmffaaBRef7
namespace Go.Proofs.Ytiodcgdjphmffaa
open Go.RowKit

theorem B.rem_none : ∀ (L : List ByteArray) (n : Nat), B.rem L (List.replicate n false) = L
  | [], n => by cases n <;> rfl
  | b :: l, 0 => rfl
  | b :: l, n + 1 => by
    rw [List.replicate_succ]
    show b :: B.rem l (List.replicate n false) = b :: l
    rw [B.rem_none l n]

theorem refJoined_any (L : List ByteArray) (a : Option Addr) (c : Nat) (hL5 : L.length ≤ 5) (hx : ∀ x ∈ L, 1 ≤ x.size ∧ x.size ≤ 24) : ∀ (m : Nat) (r : ByteArray) (u : List Bool) (ua : Option Addr) (uc : Nat) (w : World), u.length = L.length → (B.rem L u).length = m → r.size + 24 * m ≤ 1000 → RdS w a L → RdL w ua u →
      Calls Try.prog 64 #[.string r, .slice a L.length c, .slice ua L.length uc] w fun e w' => e = .returned (.string (B.jn m r (B.rem L u))) ∧ Below w.heap.size w w'
  | 0, r, u, ua, uc, w, hu, hm, hz, hr, hru => refJoined_step L a c hL5 hx 0 (fun m' h => absurd h (by omega)) r u ua uc w hu hm hz hr hru
  | m + 1, r, u, ua, uc, w, hu, hm, hz, hr, hru => refJoined_step L a c hL5 hx (m + 1) (fun m' h => by
      obtain rfl : m' = m := by omega
      exact refJoined_any L a c hL5 hx m') r u ua uc w hu hm hz hr hru

set_option maxHeartbeats 1000000 in
set_option maxRecDepth 100000 in
theorem refJoin_any (a : Option Addr) (c : Nat) (L : List ByteArray) (w : World) (hL : L.length ≤ maxLen) (hs : ∀ k (h : k < L.length), L[k].size ≤ maxLen) (hr : RdS w a L) :
    Calls Try.prog 36 #[.slice a L.length c] w fun e w' => e = .returned (.tuple #[.string (B.joinV L).1, .int .i64 (B.joinV L).2]) ∧ Below w.heap.size w w' := by
  have HR := hid hr
  unfold maxLen at hL
  by_cases h0 : L.length = 0
  · have hP : B.chkP L = 1 := by unfold B.chkP; rw [if_pos h0]
    have HV : Hid (B.joinV L = (⟨#[]⟩, 1)) := hid (by unfold B.joinV; rw [if_neg (by rw [hP]; decide), hP])
    have h0' : (L.length : Int) = 0 := by omega
    clear hP hs hr
    go_enter Try.func36, Try.ntmps36
    go_wp2
    go_ret2
    exact ⟨by rw [HV.out]; rfl, Below.refl _ _⟩
  have hn0 : ((L.length : Int) == 0) = false := by rw [beq_eq_false_iff_ne]; omega
  by_cases h5 : 5 < L.length
  · have hP : B.chkP L = 2 := by unfold B.chkP; rw [if_neg h0, if_pos h5]
    have HV : Hid (B.joinV L = (⟨#[]⟩, 2)) := hid (by unfold B.joinV; rw [if_neg (by rw [hP]; decide), hP])
    clear hP hs hr h0
    go_enter Try.func36, Try.ntmps36
    go_wp2
    go_ret2
    exact ⟨by rw [HV.out]; rfl, Below.refl _ _⟩
  have HP : Hid (B.chkP L = B.chkL (L.drop 0)) := hid (by unfold B.chkP; rw [if_neg h0, if_neg h5]; rfl)
  have HJ : Hid (∀ e, e ≠ 0 → B.chkP L = e → B.joinV L = (⟨#[]⟩, e)) := hid (fun e he h => by unfold B.joinV; rw [if_neg (by rw [h]; exact he), h])
  have HJ0 : Hid (B.chkP L = 0 → B.joinV L = (B.jn L.length ⟨#[]⟩ L, 0)) := hid (fun h => by unfold B.joinV; rw [if_pos h])
  have HAT := hid (fun k (h : k < L.length) => B.chkL_at h)
  have HEND : Hid (B.chkL (L.drop L.length) = 0) := hid (by rw [List.drop_length]; rfl)
  have CC := hid (fun k (h : k < L.length) w => refCheck_any L[k] w (hs k h))
  have HGO : Hid (B.chkP L = 0 → ∀ (W : World), Below w.heap.size w W → RdL W (some ⟨w.heap.size, 0, none⟩) (List.replicate L.length false) → Calls Try.prog 64 #[.string ⟨#[]⟩, .slice a L.length c, .slice (some ⟨w.heap.size, 0, none⟩) L.length L.length] W fun e w' => e = .returned (.string (B.jn L.length ⟨#[]⟩ L)) ∧ Below W.heap.size W w') := hid (fun h W hb hu => by
    have hok := B.chkP_ok h
    have := refJoined_any L a c (by omega) (fun x hx => by
      have h2 := hok.2.2 x hx
      have h3 := B.chk_zero h2.1
      exact ⟨h3.1, by omega⟩) L.length ⟨#[]⟩ (List.replicate L.length false) (some ⟨w.heap.size, 0, none⟩) L.length W (by rw [List.length_replicate]) (by rw [B.rem_none]) (by show 0 + 24 * L.length ≤ 1000; omega) (HR.out.stays hb) hu
    rw [B.rem_none] at this
    exact this)
  have hmk := run_make_row' (P := Try.prog) 57 4 (.bool false) 1 Try.underlying57 (by kernel_rfl) rfl .i64 .i64 L.length (by omega) (by omega)
  have HRU : Hid (RdL (w.alloc (.cells (madeCells #[.bool false] L.length) 4)) (some ⟨w.heap.size, 0, none⟩) (List.replicate L.length false)) := hid (fun k hk => by
    rw [List.length_replicate] at hk
    exact ⟨w.heap.size, 0, rfl, by rw [Nat.zero_add, (World.rowIs_made w (.bool false) L.length 4).cell hk, List.getElem_replicate]⟩)
  clear h0 hs hr
  go_enter Try.func36, Try.ntmps36
  go_wp2
  go_loop [4] (fun i => ∃ k : Nat, k ≤ L.length ∧ i = .int .i64 k ∧ B.chkP L = B.chkL (L.drop k)) (fun i => L.length - (intOf i).toNat)
  case atStart => exact ⟨0, Nat.zero_le _, rfl, HP.out⟩
  case round =>
    obtain ⟨k, hk, rfl, hv⟩ := hrel
    have HV2 := hid hv
    clear hv HP
    by_cases hlt : k < L.length
    · obtain ⟨b, off, rfl, hc⟩ := HR.out k hlt
      have HA1 := hid (HAT.out k hlt)
      have CC1 := hid (CC.out k hlt)
      have hix : (0 : Int) ≤ (k : Int) ∧ (k : Int) < (L.length : Int) := by omega
      clear hmk HRU HGO HJ0
      generalize L[k] = s at *
      by_cases h1 : B.chk s = 0
      · rw [h1] at CC1
        by_cases h8 : 8 < s.size
        · have HE : Hid (B.chkP L = 19) := hid (by rw [HV2.out, HA1.out, if_neg (by simp [h1]), if_pos h8])
          have HE2 := hid (HJ.out 19 (by decide) HE.out)
          clear HA1 h1
          go_wp2_with (refine (CC1.out _).mono ?_; rintro e wx ⟨rfl, hwx⟩; subst hwx)
          go_ret2
          exact ⟨by rw [HE2.out]; rfl, Below.refl _ _⟩
        · have HE : Hid (B.chkP L = B.chkL (L.drop (k + 1))) := hid (by rw [HV2.out, HA1.out, if_neg (by simp [h1]), if_neg h8])
          clear HA1 h1
          go_wp2_with (refine (CC1.out _).mono ?_; rintro e wx ⟨rfl, hwx⟩; subst hwx)
          go_round
          case rel => exact ⟨k + 1, by omega, by go_num, HE.out⟩
          case measure => simp [intOf]; omega
      · have HE : Hid (B.chkP L = B.chk s) := hid (by rw [HV2.out, HA1.out, if_pos h1])
        have HE2 := hid (HJ.out _ h1 HE.out)
        have hn : (B.chk s != 0) = true := by simpa using h1
        have hn2 : (B.chk s == 0) = false := by simpa using h1
        clear HA1 h1 HE
        generalize B.chk s = x at *
        go_wp2_with (refine (CC1.out _).mono ?_; rintro e wx ⟨rfl, hwx⟩; subst hwx)
        go_ret2
        exact ⟨by rw [HE2.out]; rfl, Below.refl _ _⟩
    · have hke : k = L.length := by omega
      subst hke
      have HZ := hid (HV2.out.trans HEND.out)
      have HE2 := hid (HJ0.out HZ.out)
      have HBA : Hid (Below w.heap.size w (w.alloc (.cells (madeCells #[.bool false] L.length) 4))) := hid ((Below.refl _ w).alloc (Nat.le_refl _) _)
      have HG := hid (HGO.out HZ.out _ HBA.out HRU.out)
      go_wp2_with (refine HG.out.mono ?_; rintro e w5 ⟨rfl, hb5⟩; have HB5 := hid (HBA.out.trans (hb5.mono HBA.out.size)); clear hb5)
      go_ret2
      exact ⟨by rw [HE2.out]; rfl, HB5.out⟩
end Go.Proofs.Ytiodcgdjphmffaa
