/- The walks of rightAfter, digitAt, Restore, Fixes and Swaps. -/
import Derived.Test.YtlpdlnefgjmgmaaOwn
import Derived.Test.YtlpdlnefgjmgmaaDig
namespace Go.Proofs.Ytlpdlnefgjmgmaa
open Go.RowKit

theorem after_n (a ad : Option Addr) (c cd n : Nat) (T : List (List Int)) (xs : List Int) (w : World) (hn : xs.length = n) (hm : n ≤ maxLen) (hT : RdM w a T) (hq : Sq T) (h0 : 0 < T.length)
    (hx : RdI w ad xs) (hd : Dg T.length xs) :
    Calls Try.prog 28 #[.slice a T.length c, .slice ad n cd] w fun e w' => e = .returned (.int .i64 (P.after T xs : Nat)) ∧ Below w.heap.size w w' := by
  subst hn
  exact after_any a ad c cd T xs w hm hT hq h0 hx hd

set_option maxHeartbeats 1000000 in
theorem rightAfterD_any (a ac : Option Addr) (c cc bd ba : Nat) (T : List (List Int)) (xs : List Int) (d i : Nat) (w : World) (hT : RdM w a T) (hq : Sq T) (h0 : 0 < T.length)
    (hx : RdI w ac xs) (hd : Dg T.length xs) (hl : xs.length ≤ 12) (hi : i < xs.length) (hdn : d < T.length)
    (hcd : w.cell? ⟨bd, 0, none⟩ = some (.int .i64 d)) (hca : w.cell? ⟨ba, 0, none⟩ = some (.int .i64 i)) :
    Calls Try.prog 40 #[.slice a T.length c, .slice ac xs.length cc, .func (.func 49) #[] #[.pointer (some ⟨bd, 0, none⟩), .pointer (some ⟨ba, 0, none⟩)]] w
      fun e w' => e = .returned (.bool (decide (P.after T (xs.set i (d : Int)) = 0))) ∧ Below w.heap.size w w' := by
  have cc1 := clone_any ac cc xs w (by omega) (by omega) hx
  have HC := hid cc1; clear cc1
  have call2 : ∀ w2, Below w.heap.size w w2 → ∀ g cap, OwnI w2 w.heap.size g cap (xs.set i (d : Int)) → Calls Try.prog 28 #[.slice a T.length c, .slice (some ⟨g, 0, none⟩) xs.length cap] w2 fun e w' => e = .returned (.int .i64 (P.after T (xs.set i (d : Int)) : Nat)) ∧ Below w2.heap.size w2 w' :=
    fun w2 hb g cap ho => after_n a _ c cap xs.length T _ w2 (by simp) (by unfold maxLen; omega) (hT.stays hb) hq h0 ho.rd (hd.set i hdn)
  have HDD := hid (show ∀ w2, Below w.heap.size w w2 → w2.cell? ⟨bd, 0, none⟩ = some (.int .i64 d) ∧ w2.cell? ⟨ba, 0, none⟩ = some (.int .i64 i) from fun w2 hb => ⟨cell_stays hb (Nat.le_refl _) hcd, cell_stays hb (Nat.le_refl _) hca⟩)
  clear hcd hca hT hx hd hq
  generalize P.after T (xs.set i (d : Int)) = s at *
  have H2 := hid call2; clear call2
  have both : s = 0 ∧ decide (s = 0) = true ∨ ((s : Int) == 0) = false ∧ decide (s = 0) = false := by
    by_cases hs : s = 0
    · exact Or.inl ⟨hs, by simpa using hs⟩
    · exact Or.inr ⟨by simp; omega, by simpa using hs⟩
  rcases both with ⟨rfl, hs2⟩ | ⟨hs, hs2⟩
  all_goals
    rw [hs2]
    clear hs2
    go_enter Try.func40, Try.ntmps40
    go_wp2_with fail
    refine HC.out.mono ?_
    rintro e w1 ⟨g, cap, rfl, ho, hb⟩
    have c1 := digitAt1_any _ g cap bd ba xs d i w1 ho hi (HDD.out w1 hb).1 (HDD.out w1 hb).2
    have H1 := hid c1; clear c1
    have H3 := hid (H2.out (w1.setCell ⟨g, i, none⟩ (.int .i64 d)) (hb.setCell ho.base.1 _) g cap (ho.set i d))
    have HB := hid (hb.setCell (p := ⟨g, i, none⟩) ho.base.1 (.int .i64 d))
    clear ho hb H2
    go_wp2_with fail
    refine H1.out.mono ?_
    rintro e w2 ⟨rfl, rfl⟩
    generalize w1.setCell ⟨g, i, none⟩ (.int .i64 d) = w2 at *
    go_wp2_with (go_at_call 28; refine H3.out.mono ?_; rintro e w3 ⟨rfl, hb3⟩)
    go_ret
    exact ⟨rfl, HB.out.trans (hb3.mono HB.out.size)⟩

set_option maxHeartbeats 1000000 in
theorem rightAfterS_any (a ac : Option Addr) (c cc bi : Nat) (T : List (List Int)) (xs : List Int) (i : Nat) (w : World) (hT : RdM w a T) (hq : Sq T) (h0 : 0 < T.length)
    (hx : RdI w ac xs) (hd : Dg T.length xs) (hl : xs.length ≤ 12) (hi : i + 1 < xs.length)
    (hca : w.cell? ⟨bi, 0, none⟩ = some (.int .i64 i)) :
    Calls Try.prog 40 #[.slice a T.length c, .slice ac xs.length cc, .func (.func 39) #[] #[.pointer (some ⟨bi, 0, none⟩)]] w
      fun e w' => e = .returned (.bool (decide (P.after T ((xs.set i xs[i + 1]).set (i + 1) xs[i]) = 0))) ∧ Below w.heap.size w w' := by
  have cc1 := clone_any ac cc xs w (by omega) (by omega) hx
  have HC := hid cc1; clear cc1
  have hdg : Dg T.length ((xs.set i xs[i + 1]).set (i + 1) xs[i]) := fun k hk => by
    have h1 := hd i (by omega)
    have h2 := hd (i + 1) (by omega)
    rw [List.getElem_set]
    split
    · exact h1
    · rw [List.getElem_set]
      split
      · exact h2
      · exact hd k (by simpa using hk)
  have call2 : ∀ w2, Below w.heap.size w w2 → ∀ g cap, OwnI w2 w.heap.size g cap ((xs.set i xs[i + 1]).set (i + 1) xs[i]) → Calls Try.prog 28 #[.slice a T.length c, .slice (some ⟨g, 0, none⟩) xs.length cap] w2 fun e w' => e = .returned (.int .i64 (P.after T ((xs.set i xs[i + 1]).set (i + 1) xs[i]) : Nat)) ∧ Below w2.heap.size w2 w' :=
    fun w2 hb g cap ho => after_n a _ c cap xs.length T _ w2 (by simp) (by unfold maxLen; omega) (hT.stays hb) hq h0 ho.rd hdg
  have HDD := hid (show ∀ w2, Below w.heap.size w w2 → w2.cell? ⟨bi, 0, none⟩ = some (.int .i64 i) ∧ bi < w.heap.size from fun w2 hb => ⟨cell_stays hb (Nat.le_refl _) hca, World.block_lt_of_cell? _ _ hca⟩)
  clear hca hT hx hd hq hdg
  generalize P.after T ((xs.set i xs[i + 1]).set (i + 1) xs[i]) = s at *
  have H2 := hid call2; clear call2
  have both : s = 0 ∧ decide (s = 0) = true ∨ ((s : Int) == 0) = false ∧ decide (s = 0) = false := by
    by_cases hs : s = 0
    · exact Or.inl ⟨hs, by simpa using hs⟩
    · exact Or.inr ⟨by simp; omega, by simpa using hs⟩
  rcases both with ⟨rfl, hs2⟩ | ⟨hs, hs2⟩
  all_goals
    rw [hs2]
    clear hs2
    go_enter Try.func40, Try.ntmps40
    go_wp2_with fail
    refine HC.out.mono ?_
    rintro e w1 ⟨g, cap, rfl, ho, hb⟩
    have c1 := swaps1_any _ g cap bi xs i w1 ho hi (by unfold maxLen; omega) (by have := (HDD.out w1 hb).2; have := ho.base; omega) (HDD.out w1 hb).1
    have H1 := hid c1; clear c1
    have hown : OwnI ((w1.setCell ⟨g, i, none⟩ (.int .i64 xs[i + 1])).setCell ⟨g, i + 1, none⟩ (.int .i64 xs[i])) w.heap.size g cap ((xs.set i xs[i + 1]).set (i + 1) xs[i]) := by
      have := (ho.set i xs[i + 1]).set (i + 1) xs[i]
      exact this
    have hbel : Below w.heap.size w ((w1.setCell ⟨g, i, none⟩ (.int .i64 xs[i + 1])).setCell ⟨g, i + 1, none⟩ (.int .i64 xs[i])) := (hb.setCell (p := ⟨g, i, none⟩) ho.base.1 _).setCell (p := ⟨g, i + 1, none⟩) ho.base.1 _
    have HA := hid (show ∀ w2 : World, Same w2 ((w1.setCell ⟨g, i, none⟩ (.int .i64 xs[i + 1])).setCell ⟨g, i + 1, none⟩ (.int .i64 xs[i])) → Below w.heap.size w w2 ∧ OwnI w2 w.heap.size g cap ((xs.set i xs[i + 1]).set (i + 1) xs[i]) from fun w2 hal => ⟨below_same hbel hal, hown.same hal⟩)
    clear hown hbel
    clear ho hb
    go_wp2_with fail
    refine H1.out.mono ?_
    rintro e w2 ⟨rfl, hal⟩
    have H3 := hid (H2.out w2 (HA.out w2 hal).1 g cap (HA.out w2 hal).2)
    have HB := hid (HA.out w2 hal).1
    clear hal
    go_wp2_with (go_at_call 28; refine H3.out.mono ?_; rintro e w3 ⟨rfl, hb3⟩)
    go_ret
    exact ⟨rfl, HB.out.trans (hb3.mono HB.out.size)⟩

end Go.Proofs.Ytlpdlnefgjmgmaa
