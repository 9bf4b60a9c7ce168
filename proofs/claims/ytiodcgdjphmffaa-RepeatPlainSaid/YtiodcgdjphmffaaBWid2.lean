/- Package repeat: Wide. -/
import Derived.Test.YtiodcgdjphmffaaBWide
namespace Go.Proofs.Ytiodcgdjphmffaa
open Go.RowKit

def B.wideV (p q n : Int) : ByteArray × Int := if 1 ≤ n ∧ n ≤ 24 ∧ 1 ≤ p ∧ p ≤ n ∧ 1 ≤ q ∧ q ≤ n then (B.str (B.wide p.toNat q.toNat n.toNat), 0) else (⟨#[]⟩, 3)

set_option maxHeartbeats 1000000 in
set_option maxRecDepth 100000 in
theorem wide_good (p q n : Nat) (w : World) (hn1 : 1 ≤ n) (hn : n ≤ 24) (hp : 1 ≤ p ∧ p ≤ n) (hq : 1 ≤ q ∧ q ≤ n) :
    Calls Try.prog 25 #[.int .i64 p, .int .i64 q, .int .i64 n] w fun e w' => e = .returned (.tuple #[.string (B.str (B.wide p q n)), .int .i64 0]) ∧ Below w.heap.size w w' := by
  have U1 := hid (fun w => upTo_any n 24 true w (by rw [decide_eq_true_eq]; omega))
  have U2 := hid (fun w => upTo_any p n true w (by rw [decide_eq_true_eq]; omega))
  have U3 := hid (fun w => upTo_any q n true w (by rw [decide_eq_true_eq]; omega))
  have hmk := run_make_row' (P := Try.prog) 23 3 (.int .i64 0) 8 Try.underlying23 (by kernel_rfl) rfl .i64 .i64 n (by omega) (by omega)
  have HR0 := hid ((World.rowIs_made w (.int .i64 0) n 3).congr (g := fun i => .int .i64 ((if i < 0 then i else 0 : Nat) : Int)) (fun i _ => by simp))
  have HB0 := hid ((Below.refl _ w).alloc (Nat.le_refl _) (.cells (madeCells #[.int .i64 0] n) 3))
  have R1 := hid (fun w' hr => repeatAfter_any w.heap.size n p id w' (by omega) hp.2 (fun i hi => by show i ≤ 1000; omega) hr)
  have R2 := hid (fun w' hr => repeatAfter_any w.heap.size n q (B.ra p id (n - p)) w' (by omega) hq.2 (fun i hi => Nat.le_trans (B.ra_le _ _ _ _) (by show i ≤ 1000; omega)) hr)
  have NM := hid (fun w' hr => named_any w.heap.size n (B.ra q (B.ra p id (n - p)) (n - q)) w' hn1 hn (fun i _ => Nat.le_trans (B.ra_le _ _ _ _) (B.ra_le _ _ _ _)) hr)
  go_enter Try.func25, Try.ntmps25
  go_wp2_with (first | (go_at_call 53; refine (U1.out _).mono ?_; rintro e w' ⟨rfl, rfl⟩; clear U1) | (go_at_call 53; refine (U2.out _).mono ?_; rintro e w' ⟨rfl, rfl⟩; clear U2) | (go_at_call 53; refine (U3.out _).mono ?_; rintro e w' ⟨rfl, rfl⟩))
  clear hmk U3
  generalize w.alloc (.cells (madeCells #[.int .i64 0] n) 3) = ws at *
  go_loopw [29] (fun y wr => ∃ j : Nat, j ≤ n ∧ y = .int .i64 j ∧ wr.rowIs w.heap.size 3 n (fun i => .int .i64 ((if i < j then i else 0 : Nat) : Int)) ∧ Below w.heap.size w wr) (fun y _ => n - (intOf y).toNat)
  case atStart => exact ⟨0, Nat.zero_le _, rfl, HR0.out, HB0.out⟩
  case round =>
    obtain ⟨j, hj, rfl, hrow, hbel⟩ := hrel
    have HB := hid hbel; clear hbel
    by_cases hlt : j < n
    · have hfz := hrow.frozen j
      have hcj := hrow.cell hlt
      have HROW := hid hrow
      have hix : (0 : Int) ≤ (j : Int) ∧ (j : Int) < (n : Int) := by omega
      have HNEW : Hid (∀ i, i < n → (if i = j then Value.int .i64 (j : Int) else Value.int .i64 ((if i < j then i else 0 : Nat) : Int)) = Value.int .i64 ((if i < j + 1 then i else 0 : Nat) : Int)) := hid (fun i _ => by
        by_cases e : i = j
        · subst e; rw [if_pos rfl, if_pos (by omega)]
        · rw [if_neg e]
          by_cases h : i < j
          · rw [if_pos h, if_pos (by omega)]
          · rw [if_neg h, if_neg (by omega)])
      clear hrow HR0 HB0
      go_wp2
      go_roundw
      case rel => exact ⟨j + 1, by omega, by go_num, (HROW.out.set j _).congr HNEW.out, HB.out.setCell (p := ⟨w.heap.size, j, none⟩) (Nat.le_refl _) _⟩
      case measure => simp [intOf]; omega
    · have hje : j = n := by omega
      subst hje
      have C1 := hid (R1.out wr (hrow.congr (fun i hi => by rw [if_pos hi]; rfl)))
      have HE : Hid (B.wide p q j = (B.nm (B.ra q (B.ra p id (j - p)) (j - q)) j).1) := hid rfl
      clear hrow HR0 HB0 R1
      go_wp2_with (first | (go_at_call 54; refine C1.out.mono ?_; rintro e w2 ⟨rfl, r2, b2⟩; replace b2 := hid b2; have C2 := hid (R2.out w2 r2); clear C1 r2) | (go_at_call 54; refine C2.out.mono ?_; rintro e w3 ⟨rfl, r3, b3⟩; replace b3 := hid b3; have C3 := hid (NM.out w3 r3); clear r3) | (go_at_call 55; refine C3.out.mono ?_; rintro e w4 ⟨rfl, b4⟩; replace b4 := hid b4))
      go_ret2
      have e2 := (HB.out.trans b2.out).trans b3.out
      exact ⟨by rw [HE.out]; rfl, e2.trans (b4.out.mono e2.size)⟩

set_option maxHeartbeats 1000000 in
set_option maxRecDepth 100000 in
theorem wide_any (p q n : Int) (w : World) :
    Calls Try.prog 25 #[.int .i64 p, .int .i64 q, .int .i64 n] w fun e w' => e = .returned (.tuple #[.string (B.wideV p q n).1, .int .i64 (B.wideV p q n).2]) ∧ Below w.heap.size w w' := by
  obtain ⟨b1, hb1⟩ : ∃ b, decide (1 ≤ n ∧ n ≤ 24) = b := ⟨_, rfl⟩
  obtain ⟨b2, hb2⟩ : ∃ b, decide (1 ≤ p ∧ p ≤ n) = b := ⟨_, rfl⟩
  obtain ⟨b3, hb3⟩ : ∃ b, decide (1 ≤ q ∧ q ≤ n) = b := ⟨_, rfl⟩
  by_cases hall : b1 = true ∧ b2 = true ∧ b3 = true
  · obtain ⟨rfl, rfl, rfl⟩ := hall
    rw [decide_eq_true_eq] at hb1 hb2 hb3
    have hV : B.wideV p q n = (B.str (B.wide p.toNat q.toNat n.toNat), 0) := by unfold B.wideV; rw [if_pos (by omega)]
    rw [hV]
    obtain ⟨m, rfl⟩ : ∃ m : Nat, n = m := ⟨n.toNat, by omega⟩
    obtain ⟨p, rfl⟩ : ∃ m : Nat, p = m := ⟨p.toNat, by omega⟩
    obtain ⟨q, rfl⟩ : ∃ m : Nat, q = m := ⟨q.toNat, by omega⟩
    simp only [Int.toNat_natCast]
    exact wide_good p q m w (by omega) (by omega) (by omega) (by omega)
  · have hV : B.wideV p q n = (⟨#[]⟩, 3) := by
      unfold B.wideV
      rw [if_neg]
      rintro ⟨h1, h2, h3, h4, h5, h6⟩
      exact hall ⟨by rw [← hb1]; simp [h1, h2], by rw [← hb2]; simp [h3, h4], by rw [← hb3]; simp [h5, h6]⟩
    rw [hV]
    have U1 := hid (fun w => upTo_any n 24 b1 w hb1)
    have U2 := hid (fun w => upTo_any p n b2 w hb2)
    have U3 := hid (fun w => upTo_any q n b3 w hb3)
    clear hb1 hb2 hb3 hV
    cases b1 with
    | false =>
      clear U2 U3
      go_enter Try.func25, Try.ntmps25
      go_wp2_with (go_at_call 53; refine (U1.out _).mono ?_; rintro e w' ⟨rfl, rfl⟩)
      go_ret2
      exact ⟨rfl, Below.refl _ _⟩
    | true =>
      cases b2 with
      | false =>
        clear U3
        go_enter Try.func25, Try.ntmps25
        go_wp2_with (first | (go_at_call 53; refine (U1.out _).mono ?_; rintro e w' ⟨rfl, rfl⟩; clear U1) | (go_at_call 53; refine (U2.out _).mono ?_; rintro e w' ⟨rfl, rfl⟩))
        go_ret2
        exact ⟨rfl, Below.refl _ _⟩
      | true =>
        cases b3 with
        | false =>
          go_enter Try.func25, Try.ntmps25
          go_wp2_with (first | (go_at_call 53; refine (U1.out _).mono ?_; rintro e w' ⟨rfl, rfl⟩; clear U1) | (go_at_call 53; refine (U2.out _).mono ?_; rintro e w' ⟨rfl, rfl⟩; clear U2) | (go_at_call 53; refine (U3.out _).mono ?_; rintro e w' ⟨rfl, rfl⟩))
          go_ret2
          exact ⟨rfl, Below.refl _ _⟩
        | true => exact absurd ⟨rfl, rfl, rfl⟩ hall
end Go.Proofs.Ytiodcgdjphmffaa
