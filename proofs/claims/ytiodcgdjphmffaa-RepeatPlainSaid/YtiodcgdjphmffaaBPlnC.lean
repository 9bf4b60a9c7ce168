/- Package tuschelaw08: RepeatPlain's closure: two borders have the same periods. -/
import Derived.Test.YtiodcgdjphmffaaBAllW
namespace Go.Proofs.Ytiodcgdjphmffaa
open Go.RowKit

set_option maxHeartbeats 1000000 in
set_option maxRecDepth 100000 in
theorem plainSame_any (bn bs : Nat) (T U : List Nat) (w : World) (hU : ∀ x ∈ U, x < 24) (hT : ∀ x ∈ T, x < 24) (hl : U.length = T.length) (hl24 : T.length ≤ 24) (hcn : w.cell? ⟨bn, 0, none⟩ = some (.int .i64 T.length)) (hcs : w.cell? ⟨bs, 0, none⟩ = some (.string (B.str (B.byt T)))) :
    Calls Try.prog 43 #[.string (B.str (B.byt U)), .pointer (some ⟨bn, 0, none⟩), .pointer (some ⟨bs, 0, none⟩)] w fun e w' => e = .returned (.bool (B.same (B.byt U) (B.byt T))) ∧ Below w.heap.size w w' := by
  have KT := hid (fun k w h1 h2 => B.goes_of hT k h1 h2 hl24 w)
  have KU := hid (fun k w h1 h2 => B.goes_of hU k h1 (by rw [hl]; exact h2) (by omega) w)
  have HCN := hid hcn
  have HCS := hid hcs
  have hbn := World.block_lt_of_cell? _ _ hcn
  have hbs := World.block_lt_of_cell? _ _ hcs
  have HSM : Hid (B.same (B.byt U) (B.byt T) = (List.range T.length).all (fun p => p == 0 || B.per (B.byt U) p == B.per (B.byt T) p)) := hid (by unfold B.same; rw [B.byt_len, hl])
  have HPL : Hid (B.per (B.byt U) T.length = B.per (B.byt T) T.length) := hid (by
    have h1 := B.per_len (B.byt U)
    have h2 := B.per_len (B.byt T)
    rw [B.byt_len] at h1 h2
    rw [hl] at h1
    rw [h1, h2])
  obtain ⟨n, hn⟩ : ∃ n, n = T.length := ⟨_, rfl⟩
  rw [← hn] at HCN HSM HPL hl24
  have KT2 : Hid (∀ k w, 1 ≤ k → k ≤ n → Calls Try.prog 38 #[.string (B.str (B.byt T)), .int .i64 k] w fun e w' => e = .returned (.bool (B.per (B.byt T) k)) ∧ Below w.heap.size w w') := hid (fun k w h1 h2 => KT.out k w h1 (by omega))
  have KU2 : Hid (∀ k w, 1 ≤ k → k ≤ n → Calls Try.prog 38 #[.string (B.str (B.byt U)), .int .i64 k] w fun e w' => e = .returned (.bool (B.per (B.byt U) k)) ∧ Below w.heap.size w w') := hid (fun k w h1 h2 => KU.out k w h1 (by omega))
  clear KT KU hcn hcs hn hl hT hU
  generalize B.str (B.byt U) = sU at *
  generalize B.str (B.byt T) = sT at *
  generalize B.byt U = lU at *
  generalize B.byt T = lT at *
  go_enter Try.func43, Try.ntmps43
  go_wp2
  go_loopw [5] (fun y wr => ∃ p : Nat, 1 ≤ p ∧ p ≤ n + 1 ∧ y = .int .i64 p ∧ Below w.heap.size w wr ∧ Hid (∀ q, 1 ≤ q → q < p → B.per lU q = B.per lT q)) (fun y _ => n + 1 - (intOf y).toNat)
  case atStart => exact ⟨1, Nat.le_refl _, by omega, rfl, Below.refl _ _, hid (fun q h1 h2 => absurd h1 (by omega))⟩
  case round =>
    obtain ⟨p, hp1, hp2, rfl, hbel, HQ⟩ := hrel
    have hc1 := (hbel.cell (p := ⟨bn, 0, none⟩) hbn).trans HCN.out
    have hc2 := (hbel.cell (p := ⟨bs, 0, none⟩) hbs).trans HCS.out
    have HB := hid hbel
    clear hbel
    by_cases hlt : p ≤ n
    · have K1 := hid (fun w => KT2.out p w hp1 hlt)
      have K2 := hid (fun w => KU2.out p w hp1 hlt)
      have HPP : Hid (B.per lU p = B.per lU p ∧ B.per lT p = B.per lT p) := hid ⟨rfl, rfl⟩
      obtain ⟨x1, hx1⟩ : ∃ x, x = B.per lT p := ⟨_, rfl⟩
      obtain ⟨x2, hx2⟩ : ∃ x, x = B.per lU p := ⟨_, rfl⟩
      rw [← hx1] at K1
      rw [← hx2] at K2
      have HX1 := hid hx1
      have HX2 := hid hx2
      clear hx1 hx2 HPP
      go_wp2_with fail
      refine (K1.out _).mono ?_
      rintro e w1 ⟨rfl, b1⟩
      have H1 := hid (HB.out.trans (b1.mono HB.out.size))
      clear b1
      go_wp2_with fail
      refine (K2.out _).mono ?_
      rintro e w2 ⟨rfl, b2⟩
      have H2 := hid (H1.out.trans (b2.mono H1.out.size))
      clear b2
      by_cases he : x1 = x2
      · have hne : (x1 != x2) = false := by simp [he]
        have hee : (x1 == x2) = true := by simp [he]
        have HQ2 : Hid (∀ q, 1 ≤ q → q < p + 1 → B.per lU q = B.per lT q) := hid (fun q h1 h2 => by
          by_cases e : q = p
          · rw [e, ← HX1.out, ← HX2.out, he]
          · exact HQ.out q h1 (by omega))
        clear he
        go_wp2
        go_roundw
        case rel => exact ⟨p + 1, by omega, by omega, by go_num, H2.out, HQ2⟩
        case measure => simp [intOf]; omega
      · have hne : (x1 != x2) = true := by simp [he]
        have hee : (x1 == x2) = false := by simp [he]
        have HF : Hid (B.same lU lT = false) := hid (by
          rw [HSM.out, Bool.eq_false_iff]
          intro h
          rw [List.all_eq_true] at h
          have hpn : p ≠ n := fun e => he (by rw [HX1.out, HX2.out, e]; exact HPL.out.symm)
          have := h p (List.mem_range.2 (by omega))
          have h0 : (p == 0) = false := by simp; omega
          rw [h0, Bool.false_or, beq_iff_eq] at this
          exact he (by rw [HX1.out, HX2.out]; exact this.symm))
        clear he
        go_wp2
        go_ret
        exact ⟨by rw [HF.out]; rfl, H2.out⟩
    · have HF : Hid (B.same lU lT = true) := hid (by
        rw [HSM.out, List.all_eq_true]
        intro q hq
        rw [List.mem_range] at hq
        by_cases h0 : q = 0
        · subst h0; rfl
        · rw [HQ.out q (by omega) (by omega)]; simp)
      go_wp2
      go_ret
      exact ⟨by rw [HF.out]; rfl, HB.out⟩
end Go.Proofs.Ytiodcgdjphmffaa
