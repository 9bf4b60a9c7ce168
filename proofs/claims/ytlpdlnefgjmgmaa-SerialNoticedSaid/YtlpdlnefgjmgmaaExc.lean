/- The chapter's examples, call by call, at the example's table. -/
import Derived.Test.YtlpdlnefgjmgmaaEx
namespace Go.Proofs.Ytlpdlnefgjmgmaa
open Go.RowKit

theorem le_max {n : Nat} (h : n ≤ 100) : n ≤ maxLen := by unfold maxLen; omega

theorem line_c (w : World) : Calls Try.prog 29 #[.int .i64 5, .int .i64 2] w fun e w' => ∃ r cr, e = .returned (.tuple #[.slice r 5 cr, .int .i64 0]) ∧ RdM w' r TT ∧ Below w.heap.size w w' := by
  refine (line_any 5 2 w).mono ?_
  rintro e w' ⟨r, cr, T, rfl, hT, hr, hb⟩
  have e1 : P.line 5 2 = (TT, 0) := by decide +kernel
  rw [e1] at hT ⊢
  subst hT
  exact ⟨r, cr, rfl, hr, hb⟩

theorem blind_c (a : Option Addr) (c : Nat) (w : World) (hT : RdM w a TT) : Calls Try.prog 9 #[.slice a 5 c] w fun e w' => ∃ r cr, e = .returned (.tuple #[.slice r 0 cr, .int .i64 0]) ∧ Below w.heap.size w w' := by
  refine (blind_any a c TT w hT).mono ?_
  rintro e w' ⟨r, cr, xs, rfl, hx, hr, hb⟩
  have e1 : P.blind TT = [] := by decide +kernel
  have e2 : P.check TT = 0 := by decide +kernel
  rw [e1] at hx
  rw [e2]
  subst hx
  exact ⟨r, cr, rfl, hb⟩

theorem code_c (a : Option Addr) (c : Nat) (w : World) (hT : RdM w a TT) : Calls Try.prog 19 #[.slice a 5 c, .int .i64 3, .int .i64 7] w fun e w' => ∃ r cr, e = .returned (.tuple #[.slice r 3 cr, .int .i64 0]) ∧ RdI w' r [1, 2, 2] ∧ Below w.heap.size w w' := by
  refine (code_any a c TT 3 7 w (by decide) hT).mono ?_
  rintro e w' ⟨r, cr, xs, rfl, _, hx, hr, hb⟩
  have e1 : P.code TT 3 7 = ([1, 2, 2], 0) := by decide +kernel
  rw [e1] at hx ⊢
  subst hx
  exact ⟨r, cr, rfl, hr, hb⟩

theorem state_c (a ad : Option Addr) (c cd : Nat) (w : World) (hT : RdM w a TT) (hx : RdI w ad [1, 2]) : Calls Try.prog 22 #[.slice a 5 c, .slice ad 2 cd] w fun e w' => e = .returned (.tuple #[.int .i64 4, .int .i64 0]) ∧ Below w.heap.size w w' := by
  refine (state_any a ad c cd TT [1, 2] w (le_max (by decide)) hT hx).mono ?_
  rintro e w' ⟨rfl, hb⟩
  have e1 : P.state TT [1, 2] = (4, 0) := by decide +kernel
  rw [e1]
  exact ⟨rfl, hb⟩

theorem digit_c (a ad : Option Addr) (c cd : Nat) (w : World) (hT : RdM w a TT) (hx : RdI w ad [3]) : Calls Try.prog 21 #[.slice a 5 c, .slice ad 1 cd] w fun e w' => e = .returned (.tuple #[.int .i64 4, .int .i64 0]) ∧ Below w.heap.size w w' := by
  refine (digit_any a ad c cd TT [3] w (le_max (by decide)) hT hx).mono ?_
  rintro e w' ⟨rfl, hb⟩
  have e1 : P.digit TT [3] = (4, 0) := by decide +kernel
  rw [e1]
  exact ⟨rfl, hb⟩

theorem number_c (a ad : Option Addr) (c cd : Nat) (w : World) (hT : RdM w a TT) (hx : RdI w ad [1, 2, 2]) (hcap : 3 ≤ cd) : Calls Try.prog 20 #[.slice a 5 c, .slice ad 3 cd] w fun e w' => e = .returned (.tuple #[.int .i64 7, .int .i64 0]) ∧ Below w.heap.size w w' := by
  refine (number_any a ad c cd TT [1, 2, 2] w (le_max (by decide)) hcap hT hx).mono ?_
  rintro e w' ⟨rfl, hb⟩
  have e1 : P.number TT [1, 2, 2] = (7, 0) := by decide +kernel
  rw [e1]
  exact ⟨rfl, hb⟩

theorem right_c (a ad : Option Addr) (c cd : Nat) (w : World) (hT : RdM w a TT) (hx : RdI w ad [1, 2, 2]) : Calls Try.prog 13 #[.slice a 5 c, .slice ad 3 cd] w fun e w' => e = .returned (.int .i64 0) ∧ Below w.heap.size w w' := by
  refine (right_any a ad c cd TT [1, 2, 2] w (le_max (by decide)) hT hx).mono ?_
  rintro e w' ⟨rfl, hb⟩
  have e1 : P.right TT [1, 2, 2] = 0 := by decide +kernel
  rw [e1]
  exact ⟨rfl, hb⟩

theorem wrong_c (a ad : Option Addr) (c cd : Nat) (w : World) (hT : RdM w a TT) (hx : RdI w ad [1, 2, 3]) : Calls Try.prog 13 #[.slice a 5 c, .slice ad 3 cd] w fun e w' => e = .returned (.int .i64 13) ∧ Below w.heap.size w w' := by
  refine (right_any a ad c cd TT [1, 2, 3] w (le_max (by decide)) hT hx).mono ?_
  rintro e w' ⟨rfl, hb⟩
  have e1 : P.right TT [1, 2, 3] = 13 := by decide +kernel
  rw [e1]
  exact ⟨rfl, hb⟩

theorem restore_c (a ad : Option Addr) (c cd : Nat) (w : World) (hT : RdM w a TT) (hx : RdI w ad [1, 2, 2]) : Calls Try.prog 18 #[.slice a 5 c, .slice ad 3 cd, .int .i64 0] w fun e w' => e = .returned (.tuple #[.int .i64 1, .int .i64 0]) ∧ Below w.heap.size w w' := by
  refine (restore_any a ad c cd TT [1, 2, 2] 0 w (le_max (by decide)) hT hx).mono ?_
  rintro e w' ⟨rfl, hb⟩
  have e1 : P.restore TT [1, 2, 2] 0 = (1, 0) := by decide +kernel
  rw [e1]
  exact ⟨rfl, hb⟩

theorem fixes_c (a ad : Option Addr) (c cd : Nat) (w : World) (hT : RdM w a TT) (hx : RdI w ad [1, 2, 3]) : Calls Try.prog 16 #[.slice a 5 c, .slice ad 3 cd] w fun e w' => ∃ r cr, e = .returned (.tuple #[.slice r 3 cr, .int .i64 0]) ∧ RdP w' r [(0, 2), (1, 4), (2, 2)] ∧ Below w.heap.size w w' := by
  refine (fixes_any a ad c cd TT [1, 2, 3] w (le_max (by decide)) hT hx).mono ?_
  rintro e w' ⟨r, cr, xs, rfl, hxs, hr, hb⟩
  have e1 : P.wrong TT [1, 2, 3] = 0 := by decide +kernel
  have e2 : P.fixes TT [1, 2, 3] = [(0, 2), (1, 4), (2, 2)] := by decide +kernel
  rw [e1] at hxs ⊢
  rw [if_neg (by simp), e2] at hxs
  subst hxs
  exact ⟨r, cr, rfl, hr, hb⟩

theorem swaps_c (a ad : Option Addr) (c cd : Nat) (w : World) (hT : RdM w a TT) (hx : RdI w ad [2, 1, 2]) : Calls Try.prog 17 #[.slice a 5 c, .slice ad 3 cd] w fun e w' => ∃ r cr, e = .returned (.tuple #[.slice r 1 cr, .int .i64 0]) ∧ RdI w' r [0] ∧ Below w.heap.size w w' := by
  refine (swaps_any a ad c cd TT [2, 1, 2] w (le_max (by decide)) hT hx).mono ?_
  rintro e w' ⟨r, cr, xs, rfl, hxs, hr, hb⟩
  have e1 : P.wrong TT [2, 1, 2] = 0 := by decide +kernel
  have e2 : P.swaps TT [2, 1, 2] (([2, 1, 2] : List Int).length - 1) = [0] := by decide +kernel
  rw [e1] at hxs ⊢
  rw [if_neg (by simp), e2] at hxs
  subst hxs
  exact ⟨r, cr, rfl, hr, hb⟩

theorem value_c (w : World) : Calls Try.prog 32 #[.string { data := #[55, 48] }] w fun e w' => e = .returned (.tuple #[.int .i64 70, .bool true]) ∧ Below w.heap.size w w' := by
  refine (value_any _ w (le_max (by decide))).mono ?_
  rintro e w' ⟨rfl, hb⟩
  have e1 : P.value [55, 48] = (70, true) := by decide +kernel
  exact ⟨by show Ending.returned (.tuple #[.int .i64 (P.value [55, 48]).1, .bool (P.value [55, 48]).2]) = _; rw [e1], hb⟩

theorem name1_c (w : World) : Calls Try.prog 36 #[.string { data := #[115, 116, 111, 110, 101] }] w fun e w' => e = .returned (.bool true) ∧ Below w.heap.size w w' := by
  refine (name_any _ w (le_max (by decide))).mono ?_
  rintro e w' ⟨rfl, hb⟩
  have e1 : P.name [115, 116, 111, 110, 101] = true := by decide +kernel
  exact ⟨by show Ending.returned (.bool (P.name [115, 116, 111, 110, 101])) = _; rw [e1], hb⟩

theorem name2_c (w : World) : Calls Try.prog 36 #[.string { data := #[83, 116, 111, 110, 101] }] w fun e w' => e = .returned (.bool false) ∧ Below w.heap.size w w' := by
  refine (name_any _ w (le_max (by decide))).mono ?_
  rintro e w' ⟨rfl, hb⟩
  have e1 : P.name [83, 116, 111, 110, 101] = false := by decide +kernel
  exact ⟨by show Ending.returned (.bool (P.name [83, 116, 111, 110, 101])) = _; rw [e1], hb⟩

theorem tables_c (a b : Option Addr) (ca cb : Nat) (w : World) (ha : RdM w a TT) (hb : RdM w b TT) : Calls Try.prog 33 #[.slice a 5 ca, .slice b 5 cb] w fun e w' => e = .returned (.bool true) ∧ Below w.heap.size w w' := by
  refine (tables_eq a b ca cb TT w (le_max (by decide)) (fun k hk => le_max ((show ∀ k (h : k < TT.length), TT[k].length ≤ 100 from by decide) k hk)) ha hb).mono ?_
  rintro e w' ⟨rfl, hq⟩
  exact ⟨rfl, Quiet.below hq⟩

theorem numbers_c (a b : Option Addr) (n ca cb : Nat) (xs : List Int) (w : World) (hn : xs.length = n) (hn2 : n ≤ 100) (ha : RdI w a xs) (hb : RdI w b xs) : Calls Try.prog 35 #[.slice a n ca, .slice b n cb] w fun e w' => e = .returned (.bool true) ∧ Below w.heap.size w w' := by
  subst hn
  refine (numbers_eq a b ca cb xs w (le_max hn2) ha hb).mono ?_
  rintro e w' ⟨rfl, hq⟩
  exact ⟨rfl, Quiet.below hq⟩

theorem fixes3_c (a b : Option Addr) (ca cb : Nat) (w : World) (ha : RdP w a [(0, 2), (1, 4), (2, 2)]) (hb : RdP w b [(0, 2), (1, 4), (2, 2)]) : Calls Try.prog 34 #[.slice a 3 ca, .slice b 3 cb] w fun e w' => e = .returned (.bool true) ∧ Below w.heap.size w w' := by
  refine (fixes_eq a b ca cb _ w (le_max (by decide)) ha hb).mono ?_
  rintro e w' ⟨rfl, hq⟩
  exact ⟨rfl, Quiet.below hq⟩

theorem fixesLit (w : World) (e : TypeId) : RdP (w.alloc (.cells #[.int .i64 0, .int .i64 2, .int .i64 1, .int .i64 4, .int .i64 2, .int .i64 2] e)) (some ⟨w.heap.size, 0, none⟩) [(0, 2), (1, 4), (2, 2)] := fun k hk => by
  refine ⟨w.heap.size, 0, rfl, ?_, ?_⟩
  · rw [World.cell?_alloc_at _ _ _ _ rfl]
    match k, hk with | 0, _ => rfl | 1, _ => rfl | 2, _ => rfl
  · rw [World.cell?_alloc_at _ _ _ _ rfl]
    match k, hk with | 0, _ => rfl | 1, _ => rfl | 2, _ => rfl

end Go.Proofs.Ytlpdlnefgjmgmaa
