/- Package cross: the walks of Shortest, Roller and its closure, Best. -/
import Derived.Test.YthaoacnaeafbeaaXSea
import Derived.Test.YthaoacnaeafbeaaXSft
import Derived.Lib.SliceRun
import Derived.Laws.Cover3
namespace Go.Proofs.Ythaoacnaeafbeaa
open Go.RowKit

theorem X.nilq : ∀ (w : World) (a : Option Addr) (n c n' c' : Nat), (binOp .eql 22 (.slice a n c) (.slice none n' c')).run Try.prog w = .ok (.bool a.isNone) w := fun w a n c n' c' => Lib.run_eql_slice_nil w _ _ a n c n' c' Try.underlying22
theorem X.SP.some {r : List Int} {v : Value} {w : World} (h : X.SP (some r) v w) : ∃ b c, v = .slice (some ⟨b, 0, none⟩) r.length c ∧ RdI w (some ⟨b, 0, none⟩) r := by
  rcases h with ⟨r', b, c, h1, h2, h3⟩ | ⟨h1, _⟩
  · obtain rfl := Option.some.inj h1
    exact ⟨b, c, h2, h3⟩
  · cases h1
theorem X.SP.none {v : Value} {w : World} (h : X.SP none v w) : v = .slice none 0 0 := by
  rcases h with ⟨r', b, c, h1, h2, h3⟩ | ⟨_, h1⟩
  · cases h1
  · exact h1
/-- The search with isClear. -/
theorem X.sea (n most : Nat) (w : World) (hn2 : 2 ≤ n) (hn8 : n ≤ 8) (hmost : most ≤ 60) :
    Calls Try.prog 61 #[.int .i64 n, .int .i64 most, .func (.func 57) #[] #[]] w fun e w' => ∃ v, e = .returned v ∧ X.SP (X.find X.clr n most [0] 1) v w' ∧ Below w.heap.size w w' :=
  search_any n most 57 #[] X.clr w hn2 hn8 hmost (fun _ _ => rfl) (fun W b c l _ hl hok _ => isClear_any (some ⟨b, 0, none⟩) c l W hl hok)

set_option maxHeartbeats 2000000 in
theorem shortest_of (n : Nat) (M : Nat) (r : List Int) (w : World) (hn2 : 2 ≤ n) (hn7 : n ≤ 7) (hM : n * (n - 1) / 2 ≤ M) (hM60 : M ≤ 60) (hno : ∀ m, n * (n - 1) / 2 ≤ m → m < M → X.find X.clr n m [0] 1 = none) (hyes : X.find X.clr n M [0] 1 = some r) :
    Calls Try.prog 31 #[.int .i64 n] w (X.LE r 0 w) := by
  have HW := hid (within_any n 2 7 w)
  rw [X.wi_true.2 ⟨by omega, by omega⟩] at HW
  have HSE := hid (fun m W (h : m ≤ 60) => X.sea n m W hn2 (by omega) h)
  have HNO := hid hno
  have HYE := hid hyes
  have HM := hid hM
  have q22 := X.nilq
  obtain ⟨m0, hm0⟩ : ∃ m0, n * (n - 1) / 2 = m0 := ⟨_, rfl⟩
  have e1 : ((n : Int) * ((n : Int) - 1)).tdiv 2 = (m0 : Int) := by
    have h1 : (n : Int) * ((n : Int) - 1) = ((n * (n - 1) : Nat) : Int) := by
      rw [show ((n : Int) - 1) = ((n - 1 : Nat) : Int) by omega, ← Int.natCast_mul]
    rw [h1, ← hm0, Int.tdiv_eq_ediv_of_nonneg (by omega)]
    rfl
  have e2 : (n : Int) * ((n : Int) - 1) ≤ 100 ∧ 0 ≤ (n : Int) * ((n : Int) - 1) := by
    rcases (show n = 2 ∨ n = 3 ∨ n = 4 ∨ n = 5 ∨ n = 6 ∨ n = 7 by omega) with rfl | rfl | rfl | rfl | rfl | rfl <;> decide
  have e3 : IntKind.i64.wrap ((n : Int) * ((n : Int) - 1)) = (n : Int) * ((n : Int) - 1) := IntWalk.i64_in _ (by omega)
  have e4 : ((n : Int) * ((n : Int) - 1)) / 2 = (m0 : Int) := by rw [← e1, Int.tdiv_eq_ediv_of_nonneg e2.2]
  rw [hm0] at HNO HM
  clear hno hyes hM hm0
  go_enter Try.func31, Try.ntmps31
  go_wp2_with fail
  refine HW.out.mono ?_
  rintro e w1 ⟨rfl, rfl⟩
  go_wp2_with fail
  go_loopw [4, 5] (fun v s wr => ∃ m : Nat, m0 ≤ m ∧ s = .int .i64 m ∧ Below w1.heap.size w1 wr ∧ ((m ≤ M ∧ v = .slice none 0 0) ∨ (m = M + 1 ∧ X.SP (some r) v wr))) (fun _ s _ => M + 1 - (intOf s).toNat)
  case atStart => exact ⟨m0, Nat.le_refl _, by first | rfl | (rw [e4]) | (rw [e1]), Below.refl _ _, .inl ⟨HM.out, rfl⟩⟩
  case round => as_aux_lemma =>
    obtain ⟨m, hm, rfl, hb, hv⟩ := hrel
    have HB := hid hb
    rcases hv with ⟨hmM, rfl⟩ | ⟨rfl, hsp⟩
    · have HC := hid (HSE.out m wr (by omega))
      by_cases e : m = M
      · subst e
        rw [HYE.out] at HC
        clear hb
        go_wp2_with fail
        refine HC.out.mono ?_
        rintro e w2 ⟨v, rfl, hsp, hb2⟩
        obtain ⟨b, c, rfl, hrd⟩ := hsp.some
        have HS := hid hsp
        have HB2 := hid (HB.out.trans (hb2.mono HB.out.size))
        clear hsp hb2 hrd
        go_wp2
        go_roundw
        case rel => exact ⟨m + 1, by omega, by go_num, HB2.out, .inr ⟨rfl, HS.out⟩⟩
        case measure => first | (simp [intOf]; done) | (simp [intOf]; omega)
      · rw [HNO.out m hm (by omega)] at HC
        clear hb
        go_wp2_with fail
        refine HC.out.mono ?_
        rintro e w2 ⟨v, rfl, hsp, hb2⟩
        obtain rfl := hsp.none
        have HB2 := hid (HB.out.trans (hb2.mono HB.out.size))
        clear hsp hb2
        go_wp2
        go_roundw
        case rel => exact ⟨m + 1, by omega, by go_num, HB2.out, .inl ⟨by omega, rfl⟩⟩
        case measure => simp [intOf]; omega
    · obtain ⟨b, c, rfl, hrd⟩ := hsp.some
      have HR := hid hrd
      clear hrd hsp hb
      go_wp2
      go_ret2
      exact ⟨_, c, rfl, HR.out, HB.out⟩

set_option maxHeartbeats 2000000 in
theorem roll1_any (g : Nat) (b o c : Nat) (l : List Int) (sz : Int) (w : World) (hg : w.cell? ⟨g, 0, none⟩ = some (.int .i64 sz)) (hl : RdI w (some ⟨b, o, none⟩) l) (hok : X.Ok l) (hs2 : 2 ≤ sz) (hs40 : sz ≤ 40) (hsl : ∀ i, i < l.length → l.getD i 0 < sz) :
    Calls Try.prog 63 (#[.slice (some ⟨b, o, none⟩) l.length c] ++ #[.pointer (some ⟨g, 0, none⟩)]) w fun e w' => e = .returned (.bool (X.clA l sz)) ∧ Below w.heap.size w w' := by
  show Calls Try.prog 63 #[.slice (some ⟨b, o, none⟩) l.length c, .pointer (some ⟨g, 0, none⟩)] w _
  have HC := hid (isClearAround_any (some ⟨b, o, none⟩) c l sz w hl hok hs2 hs40 hsl)
  clear hl hok hsl
  generalize X.clA l sz = r at *
  go_enter Try.func63, Try.ntmps63
  go_wp2_with fail
  refine HC.out.mono ?_
  rintro e w2 ⟨rfl, hb⟩
  have HB := hid hb
  clear hb
  go_wp2
  go_ret
  exact ⟨rfl, HB.out⟩

/-- What Roller finds. -/
def X.rl (n sz : Nat) : Option (List Int) := X.find (fun l => X.clA l sz) n (sz - 1) [0] 1
set_option maxHeartbeats 2000000 in
theorem roller_any (n sz : Nat) (w : World) (hn2 : 2 ≤ n) (hn6 : n ≤ 6) (hs2 : 2 ≤ sz) (hs40 : sz ≤ 40) :
    Calls Try.prog 33 #[.int .i64 n, .int .i64 sz] w (X.LE ((X.rl n sz).getD []) (if (X.rl n sz).isSome = true then 0 else 14) w) := by
  have HW := hid (fun W => within_any n 2 6 W)
  have HW2 := hid (fun W => within_any sz 2 40 W)
  rw [X.wi_true.2 ⟨by omega, by omega⟩] at HW HW2
  obtain ⟨W, hW⟩ : ∃ W, w.alloc (.cells #[.int .i64 sz] 3) = W := ⟨_, rfl⟩
  have c0 : W.cell? ⟨w.heap.size, 0, none⟩ = some (.int .i64 sz) := by rw [← hW, World.cell?_alloc_at _ _ _ _ rfl]; rfl
  have hB : Below w.heap.size w W := by rw [← hW]; exact (Below.refl _ _).alloc (Nat.le_refl _) _
  have HSE := hid (search_any n (sz - 1) 63 #[.pointer (some ⟨w.heap.size, 0, none⟩)] (fun l => X.clA l sz) W hn2 (by omega) (by omega) (fun _ _ => rfl) (fun W' b c l hb hl hok hle => roll1_any w.heap.size b 0 c l sz W' (cell_stays hb (Nat.le_refl _) c0) hl hok (by omega) (by omega) (fun i hi => by have := hle i hi; omega)))
  have q22 := X.nilq
  have HB := hid hB
  have e1 : (((sz - 1 : Nat)) : Int) = (sz : Int) - 1 := by omega
  rw [e1] at HSE
  have HRL : Hid (X.rl n sz = X.find (fun l => X.clA l sz) n (sz - 1) [0] 1) := hid rfl
  rw [← HRL.out] at HSE
  clear HRL hB
  generalize X.rl n sz = R at *
  cases R with
  | none =>
    go_enter Try.func33, Try.ntmps33
    go_wp2_with fail
    try rw [hW]
    refine (HW.out _).mono ?_
    rintro e w1 ⟨rfl, rfl⟩
    clear hW
    go_wp2_with fail
    refine (HW2.out _).mono ?_
    rintro e w2 ⟨rfl, rfl⟩
    go_wp2_with fail
    refine HSE.out.mono ?_
    rintro e w3 ⟨v, rfl, hsp, hb⟩
    obtain rfl := hsp.none
    have HBE := hid (HB.out.trans (hb.mono HB.out.size))
    clear hb hsp
    go_wp2
    go_ret2
    exact ⟨none, 0, rfl, RdI.nil _ _, HBE.out⟩
  | some r =>
    go_enter Try.func33, Try.ntmps33
    go_wp2_with fail
    try rw [hW]
    refine (HW.out _).mono ?_
    rintro e w1 ⟨rfl, rfl⟩
    clear hW
    go_wp2_with fail
    refine (HW2.out _).mono ?_
    rintro e w2 ⟨rfl, rfl⟩
    go_wp2_with fail
    refine HSE.out.mono ?_
    rintro e w3 ⟨v, rfl, hsp, hb⟩
    obtain ⟨b, c, rfl, hr⟩ := hsp.some
    have HR := hid hr
    have HBE := hid (HB.out.trans (hb.mono HB.out.size))
    clear hb hsp hr
    go_wp2
    go_ret2
    exact ⟨_, c, rfl, HR.out, HBE.out⟩

/-- What Best returns. -/
def X.best (l : List Int) : Int := if X.chk l = 0 then (if 7 < l.length then 2 else if X.clr l = true then (if (X.find X.clr l.length (X.lng l - 1) [0] 1).isSome = true then 14 else 0) else 13) else X.chk l
set_option maxHeartbeats 2000000 in
theorem best_any (a : Option Addr) (c : Nat) (l : List Int) (w : World) (hm : l.length ≤ maxLen) (hl : RdI w a l) :
    Calls Try.prog 35 #[.slice a l.length c] w fun e w' => e = .returned (.int .i64 (X.best l)) ∧ Below w.heap.size w w' := by
  have HC := hid (check_any a c l w hm hl)
  have hmm := hm
  unfold maxLen at hmm
  by_cases h0 : X.chk l = 0
  · have hok := X.chk_zero.1 h0
    have h2 := hok.two
    have HV : Hid (X.best l = if 7 < l.length then 2 else if X.clr l = true then (if (X.find X.clr l.length (X.lng l - 1) [0] 1).isSome = true then 14 else 0) else 13) := hid (by unfold X.best; rw [if_pos h0])
    rw [h0] at HC
    generalize X.best l = r at *
    by_cases h7 : 7 < l.length
    · have HR : Hid (r = 2) := hid (by rw [HV.out, if_pos h7])
      have h7' : decide ((7 : Int) < (l.length : Int)) = true := by simp; omega
      clear hl
      go_enter Try.func35, Try.ntmps35
      go_wp2_with fail
      refine HC.out.mono ?_
      rintro e w1 ⟨rfl, rfl⟩
      go_wp2
      go_ret
      exact ⟨ret_int HR.out.symm, Below.refl _ _⟩
    have h7' : decide ((7 : Int) < (l.length : Int)) = false := by simp; omega
    have HIC := hid (fun W (h : Below w.heap.size w W) => isClear_any a c l W (hl.stays h) hok)
    have HLG := hid (fun W (h : Below w.heap.size w W) => length_any a c l W (hl.stays h) hok)
    have HRG := hok.rng (show 0 < l.length - 1 by omega) (by omega)
    have HLN : Hid (l.getD (l.length - 1) 0 - l.getD 0 0 = (X.lng l : Int) ∧ X.lng l ≤ 60 ∧ 1 ≤ X.lng l) := hid (by unfold X.lng; omega)
    rw [HLN.out.1] at HLG
    cases hc : X.clr l with
    | false =>
      have HR : Hid (r = 13) := hid (by rw [HV.out, if_neg h7, if_neg (by rw [hc]; simp)])
      rw [hc] at HIC
      clear hl hok hc
      go_enter Try.func35, Try.ntmps35
      go_wp2_with fail
      refine HC.out.mono ?_
      rintro e w1 ⟨rfl, rfl⟩
      go_wp2_with fail
      refine (HIC.out _ (Below.refl _ _)).mono ?_
      rintro e w2 ⟨rfl, hb⟩
      have HB := hid hb
      clear hb
      go_wp2
      go_ret
      exact ⟨ret_int HR.out.symm, HB.out⟩
    | true =>
      have HR : Hid (r = if (X.find X.clr l.length (X.lng l - 1) [0] 1).isSome = true then 14 else 0) := hid (by rw [HV.out, if_neg h7, if_pos hc])
      rw [hc] at HIC
      obtain ⟨L, hL⟩ : ∃ L, X.lng l = L := ⟨_, rfl⟩
      rw [hL] at HLG HR HLN
      obtain ⟨_, hL60, hL1⟩ := HLN.out
      have HSE := hid (fun W => X.sea l.length (L - 1) W h2 (by omega) (by omega))
      have q22 := X.nilq
      have q23 : ∀ (w : World) (a : Option Addr) (n c : Nat), (binOp .neq 22 (.slice a n c) (.slice none 0 0)).run Try.prog w = .ok (.bool (!a.isNone)) w := fun w a n c => run_neq_slice_nil (w := w) 22 _ a n c Try.underlying22
      have e1 : (((L - 1 : Nat)) : Int) = (L : Int) - 1 := by omega
      have hwr : IntKind.i64.wrap ((L : Int) - 1) = (L : Int) - 1 := IntWalk.i64_in _ (by omega)
      rw [e1] at HSE
      clear hl hok hc HV hL
      generalize X.find X.clr l.length (L - 1) [0] 1 = RES at *
      cases RES with
      | none =>
        have HR2 : Hid (r = 0) := hid HR.out
        go_enter Try.func35, Try.ntmps35
        go_wp2_with fail
        refine HC.out.mono ?_
        rintro e w1 ⟨rfl, rfl⟩
        go_wp2_with fail
        refine (HIC.out _ (Below.refl _ _)).mono ?_
        rintro e w2 ⟨rfl, hb⟩
        have HB := hid hb
        clear hb
        go_wp2_with fail
        refine (HLG.out _ HB.out).mono ?_
        rintro e w3 ⟨rfl, q, rfl⟩
        go_wp2_with fail
        refine (HSE.out _).mono ?_
        rintro e w4 ⟨v, rfl, hsp, hb⟩
        obtain rfl := hsp.none
        have HBE := hid ((below_drewN HB.out q).trans (hb.mono (below_drewN HB.out q).size))
        clear hb hsp
        go_wp2
        go_ret
        exact ⟨ret_int HR2.out.symm, HBE.out⟩
      | some rr =>
        have HR2 : Hid (r = 14) := hid HR.out
        go_enter Try.func35, Try.ntmps35
        go_wp2_with fail
        refine HC.out.mono ?_
        rintro e w1 ⟨rfl, rfl⟩
        go_wp2_with fail
        refine (HIC.out _ (Below.refl _ _)).mono ?_
        rintro e w2 ⟨rfl, hb⟩
        have HB := hid hb
        clear hb
        go_wp2_with fail
        refine (HLG.out _ HB.out).mono ?_
        rintro e w3 ⟨rfl, q, rfl⟩
        go_wp2_with fail
        refine (HSE.out _).mono ?_
        rintro e w4 ⟨v, rfl, hsp, hb⟩
        obtain ⟨b, c', rfl, hr⟩ := hsp.some
        have HBE := hid ((below_drewN HB.out q).trans (hb.mono (below_drewN HB.out q).size))
        clear hb hsp hr
        go_wp2
        go_ret
        exact ⟨ret_int HR2.out.symm, HBE.out⟩
  · have HR : Hid (X.best l = X.chk l) := hid (by unfold X.best; rw [if_neg h0])
    have hne : (X.chk l != 0) = true := by rw [bne_iff_ne]; exact h0
    rw [HR.out]
    generalize X.chk l = z at *
    clear hl h0
    go_enter Try.func35, Try.ntmps35
    go_wp2_with fail
    refine HC.out.mono ?_
    rintro e w1 ⟨rfl, rfl⟩
    go_wp2
    go_ret
    exact ⟨rfl, Below.refl _ _⟩
end Go.Proofs.Ythaoacnaeafbeaa
