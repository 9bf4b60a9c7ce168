/- The walks of digitAt, Restore, Fixes and Swaps. -/
import Derived.Test.YtlpdlnefgjmgmaaFix
namespace Go.Proofs.Ytlpdlnefgjmgmaa
open Go.RowKit

set_option maxHeartbeats 1000000 in
theorem digitAt_any (a ac : Option Addr) (c cc : Nat) (T : List (List Int)) (xs : List Int) (i : Nat) (w : World) (hT : RdM w a T) (ht : Tab T)
    (hx : RdI w ac xs) (hd : Dg T.length xs) (hl : xs.length ≤ 12) (hi : i < xs.length) :
    Calls Try.prog 38 #[.slice a T.length c, .slice ac xs.length cc, .int .i64 i] w
      fun e w' => e = .returned (.int .i64 (P.fixAt T xs i : Nat)) ∧ Below w.heap.size w w' := by
  obtain ⟨f1, f2, f3⟩ := ht.fixAt xs hd i hi
  have h0 : 0 < T.length := by have := ht.lo; omega
  have h10 := ht.hi
  have hcall : ∀ wr, Below w.heap.size w wr → ∀ d bd ba : Nat, d < T.length → wr.cell? ⟨bd, 0, none⟩ = some (.int .i64 d) → wr.cell? ⟨ba, 0, none⟩ = some (.int .i64 i) →
      Calls Try.prog 40 #[.slice a T.length c, .slice ac xs.length cc, .func (.func 49) #[] #[.pointer (some ⟨bd, 0, none⟩), .pointer (some ⟨ba, 0, none⟩)]] wr
        fun e w' => e = .returned (.bool (decide (P.after T (xs.set i (d : Int)) = 0))) ∧ Below wr.heap.size wr w' :=
    fun wr hb d bd ba hdn hcd hca => rightAfterD_any a ac c cc bd ba T xs d i wr (hT.stays hb) ht.sq h0 (hx.stays hb) hd hl hi hdn hcd hca
  have hmf : ∀ (fn : Fn) (first cap : Array Value) (w : World), (Instr.makeFunc fn first cap).run Try.prog w = .ok (.func fn first cap) w := fun _ _ _ _ => rfl
  generalize P.fixAt T xs i = d0 at *
  have HC := hid hcall; clear hcall
  have F2 := hid f2; clear f2
  have F3 := hid f3; clear f3
  clear hT ht hx hd
  go_enter Try.func38, Try.ntmps38
  go_wp2
  go_loopg [8] d0 (fun g _ wr => ∃ d : Nat, d ≤ d0 ∧ g = d0 - d ∧ Below w.heap.size w wr ∧ wr.cell? ⟨w.heap.size, 0, none⟩ = some (.int .i64 i) ∧ wr.cell? ⟨w.heap.size + 1, 0, none⟩ = some (.int .i64 d) ∧ wr.frozen? ⟨w.heap.size + 1, 0, none⟩ = false)
  case atStart =>
    refine ⟨0, Nat.zero_le _, rfl, ((Below.refl _ _).alloc (Nat.le_refl _) _).alloc (by simp) _, ?_, ?_, ?_⟩
    · rw [World.cell?_alloc_past _ _ _ (by simp), World.cell?_alloc_at _ _ _ _ rfl]; rfl
    · rw [World.cell?_alloc_at _ _ _ _ (by simp)]; rfl
    · exact World.frozen?_alloc_at _ _ _ _ (by simp)
  case round =>
    obtain ⟨d, hd, rfl, hb, hca, hcd, hf⟩ := hrel
    have hc1 := HC.out wr hb d (w.heap.size + 1) w.heap.size (by omega) hcd hca
    have HB := hid hb
    have HST := hid (show ∀ w', Below wr.heap.size wr w' → w'.cell? ⟨w.heap.size, 0, none⟩ = some (.int .i64 i) ∧ w'.cell? ⟨w.heap.size + 1, 0, none⟩ = some (.int .i64 d) ∧ w'.frozen? ⟨w.heap.size + 1, 0, none⟩ = false from fun w' h =>
      ⟨cell_stays h (Nat.le_refl _) hca, cell_stays h (Nat.le_refl _) hcd, (h.frozen (p := ⟨w.heap.size + 1, 0, none⟩) (World.block_lt_of_cell? _ _ hcd)).trans hf⟩)
    clear hb hca hcd hf HC
    by_cases he : d = d0
    · subst he
      rw [show decide (P.after T (xs.set i (d : Int)) = 0) = true from by simpa using F2.out] at hc1
      have H1 := hid hc1; clear hc1
      go_wp2_with (go_at_call 40; refine H1.out.mono ?_; rintro e w1 ⟨rfl, hb1⟩; have cf := (HST.out w1 hb1).2.1; have HB1 := hid hb1; clear hb1)
      go_ret
      exact ⟨rfl, HB.out.trans (HB1.out.mono HB.out.size)⟩
    · rw [show decide (P.after T (xs.set i (d : Int)) = 0) = false from by simpa using F3.out d (by omega)] at hc1
      have H1 := hid hc1; clear hc1
      go_wp2_with (go_at_call 40; refine H1.out.mono ?_; rintro e w1 ⟨rfl, hb1⟩; have cf := (HST.out w1 hb1).2.1; have cg := (HST.out w1 hb1).2.2; have HB1 := hid hb1; clear hb1)
      have HW := hid ((HB.out.trans (HB1.out.mono HB.out.size)).setCell (p := ⟨w.heap.size + 1, 0, none⟩) (by show w.heap.size ≤ w.heap.size + 1; omega) (.int .i64 ((d : Int) + 1)))
      have ca := (HST.out w1 HB1.out).1
      go_roundg (d0 - (d + 1))
      case measure => omega
      case rel =>
        refine ⟨d + 1, by omega, rfl, HW.out, ?_, ?_, ?_⟩
        · rw [← ca]; exact World.cell?_of_block (Below.heap_setCell _ _ _ _ (by show w.heap.size ≠ w.heap.size + 1; omega))
        · exact World.cell?_setCell_same' _ _ _ (by rw [cf]; rfl)
        · simpa using cg

def P.restore (T : List (List Int)) (l : List Int) (at' : Int) : Int × Int :=
  if P.checkDigits T l 2 ≠ 0 then (0, P.checkDigits T l 2) else if at' < 0 ∨ (l.length : Int) ≤ at' then (0, 5) else ((P.fixAt T l at'.toNat : Nat), 0)

set_option maxHeartbeats 1000000 in
theorem restore_any (a ac : Option Addr) (c cc : Nat) (T : List (List Int)) (l : List Int) (i : Int) (w : World) (hm : l.length ≤ maxLen) (hT : RdM w a T) (hx : RdI w ac l) :
    Calls Try.prog 18 #[.slice a T.length c, .slice ac l.length cc, .int .i64 i] w
      fun e w' => e = .returned (.tuple #[.int .i64 (P.restore T l i).1, .int .i64 (P.restore T l i).2]) ∧ Below w.heap.size w w' := by
  have hcall := checkDigits_any a ac c cc T l 2 w hm hT hx
  unfold P.restore
  by_cases h0 : P.checkDigits T l 2 = 0
  · obtain ⟨ht, _, h12, hd⟩ := digits_ok h0
    rw [h0] at hcall
    rw [if_neg (by simp [h0])]
    have HC := hid hcall; clear hcall
    by_cases h1 : i < 0
    · rw [if_pos (Or.inl h1)]
      clear ht hd hT hx hm h0
      go_enter Try.func18, Try.ntmps18
      go_wp2_with (go_at_call 27; refine HC.out.mono ?_; rintro e w' ⟨rfl, hb⟩)
      go_ret2
      exact ⟨rfl, hb⟩
    by_cases h2 : (l.length : Int) ≤ i
    · rw [if_pos (Or.inr h2)]
      clear ht hd hT hx hm h0
      go_enter Try.func18, Try.ntmps18
      go_wp2_with (go_at_call 27; refine HC.out.mono ?_; rintro e w' ⟨rfl, hb⟩)
      go_ret2
      exact ⟨rfl, hb⟩
    rw [if_neg (by omega)]
    obtain ⟨k, rfl⟩ := Int.eq_ofNat_of_zero_le (show 0 ≤ i by omega)
    rw [Int.toNat_natCast]
    have hcall2 := fun w' (hb : Below w.heap.size w w') => digitAt_any a ac c cc T l k w' (hT.stays hb) ht (hx.stays hb) hd h12 (by omega)
    generalize P.fixAt T l k = d at *
    have HC2 := hid hcall2; clear hcall2
    clear ht hd hT hx hm h0
    go_enter Try.func18, Try.ntmps18
    go_wp2_with fail
    refine HC.out.mono ?_
    rintro e w' ⟨rfl, hb⟩
    have HC3 := hid (HC2.out w' hb)
    have HB := hid hb; clear hb
    go_wp2_with (go_at_call 38; refine HC3.out.mono ?_; rintro e w2 ⟨rfl, hb2⟩)
    go_ret2
    exact ⟨rfl, HB.out.trans (hb2.mono HB.out.size)⟩
  · rw [if_pos h0]
    generalize P.checkDigits T l 2 = e0 at *
    have ht : (e0 != 0) = true := by simpa using h0
    have HC := hid hcall; clear hcall h0 hT hx hm
    go_enter Try.func18, Try.ntmps18
    go_wp2_with (go_at_call 27; refine HC.out.mono ?_; rintro e w' ⟨rfl, hb⟩)
    go_ret2
    exact ⟨rfl, hb⟩

theorem below_grown {w w' : World} (h : Below w.heap.size w w') : w.grownBy w' none := ⟨h.os, h.tape, h.output, h.size, fun k hk _ => h.block k hk⟩

theorem ownsRow_stays {w w' : World} {base : Nat} {e : TypeId} {size : Nat} {v : Value} {n : Nat} {xs : List Value} (h : w.ownsRow base e size v n xs) (hb : Below w.heap.size w w') : w'.ownsRow base e size v n xs :=
  h.kept (below_grown hb) (Classical.em _)

/-- The slice with this address reads as these pairs. -/
def RdP (w : World) (a : Option Addr) (xs : List (Int × Int)) : Prop :=
  ∀ k (h : k < xs.length), ∃ b off, a = some ⟨b, off, none⟩ ∧ w.cell? ⟨b, off + k * 2, none⟩ = some (.int .i64 xs[k].1) ∧ w.cell? ⟨b, off + k * 2 + 1, none⟩ = some (.int .i64 xs[k].2)

theorem RdP.stays {w w' : World} {a : Option Addr} {xs : List (Int × Int)} (h : RdP w a xs) (hb : Below w.heap.size w w') : RdP w' a xs := fun k hk => by
  obtain ⟨b, off, ha, h1, h2⟩ := h k hk
  exact ⟨b, off, ha, cell_stays hb (Nat.le_refl _) h1, cell_stays hb (Nat.le_refl _) h2⟩

def pairCells (xs : List (Int × Int)) : List Value := xs.flatMap fun p => [.int .i64 p.1, .int .i64 p.2]

theorem pairCells_length (xs : List (Int × Int)) : (pairCells xs).length = xs.length * 2 := by
  induction xs with
  | nil => rfl
  | cons x xs ih => simp [pairCells] at *; omega

theorem pairCells_get (xs : List (Int × Int)) : ∀ k (h : k < xs.length), (pairCells xs)[k * 2]? = some (.int .i64 xs[k].1) ∧ (pairCells xs)[k * 2 + 1]? = some (.int .i64 xs[k].2) := by
  induction xs with
  | nil => intro k h; exact absurd h (Nat.not_lt_zero _)
  | cons x xs ih =>
    intro k h
    cases k with
    | zero => exact ⟨rfl, rfl⟩
    | succ k =>
      have := ih k (by simpa using h)
      rw [Nat.succ_mul]
      exact this

theorem RdP.of_row {w : World} {base : Nat} {e : TypeId} {v : Value} {n : Nat} {xs : List (Int × Int)} (h : w.ownsRow base e 2 v n (pairCells xs)) :
    ∃ a cap, v = .slice a xs.length cap ∧ RdP w a xs := by
  have hl : xs.length = n := by have := h.1; rw [pairCells_length] at this; omega
  subst hl
  rcases h.2 with ⟨rfl, h2⟩ | ⟨g, cap, cur, rfl, _⟩
  · exact ⟨none, 0, by rw [h2], fun k hk => by omega⟩
  · refine ⟨_, cap, rfl, fun k hk => ⟨g, 0, rfl, ?_, ?_⟩⟩
    · rw [World.ownsRow.cellAt h _ (by omega)]
      simpa using (pairCells_get xs k hk).1
    · rw [World.ownsRow.cellAt h _ (by omega)]
      simpa using (pairCells_get xs k hk).2

def P.fixes (T : List (List Int)) (l : List Int) : List (Int × Int) := (List.range l.length).map fun i : Nat => ((i : Int), (P.fixAt T l i : Int))

theorem range_map_take {α : Type} (f : Nat → α) (n k : Nat) (h : k < n) : ((List.range n).map f).take (k + 1) = ((List.range n).map f).take k ++ [f k] := by
  rw [List.take_succ_eq_append_getElem (by simpa using h)]
  simp

theorem pairCells_snoc (xs : List (Int × Int)) (p : Int × Int) : pairCells (xs ++ [p]) = pairCells xs ++ [.int .i64 p.1, .int .i64 p.2] := by
  simp [pairCells]

theorem wrong_ok {T : List (List Int)} {l : List Int} (h : P.wrong T l = 0) : Tab T ∧ 2 ≤ l.length ∧ l.length ≤ 12 ∧ Dg T.length l ∧ P.after T l ≠ 0 := by
  have h13 : P.right T l = 13 := by
    unfold P.wrong at h
    split at h
    · assumption
    · split at h <;> omega
  unfold P.right at h13
  split at h13
  · rename_i h0
    exfalso
    unfold P.checkDigits P.check at h13
    repeat (split at h13 <;> try omega)
  · rename_i h0
    obtain ⟨a, b, c, d⟩ := digits_ok (by simpa using h0)
    split at h13
    · exact ⟨a, by omega, c, d, by assumption⟩
    · omega

set_option maxHeartbeats 1000000 in
set_option maxRecDepth 100000 in
theorem fixes_any (a ac : Option Addr) (c cc : Nat) (T : List (List Int)) (l : List Int) (w : World) (hm : l.length ≤ maxLen) (hT : RdM w a T) (hx : RdI w ac l) :
    Calls Try.prog 16 #[.slice a T.length c, .slice ac l.length cc] w
      fun e w' => ∃ r cr xs, e = .returned (.tuple #[.slice r xs.length cr, .int .i64 (P.wrong T l)]) ∧ (xs = if P.wrong T l ≠ 0 then [] else P.fixes T l) ∧ RdP w' r xs ∧ Below w.heap.size w w' := by
  have hcall := checkWrong_any a ac c cc T l w hm hT hx
  by_cases h0 : P.wrong T l = 0
  · obtain ⟨ht, hl2, hl12, hd, _⟩ := wrong_ok h0
    rw [h0] at hcall ⊢
    have HC := hid hcall; clear hcall
    have hcall2 : ∀ w', Below w.heap.size w w' → ∀ k, k < l.length → Calls Try.prog 38 #[.slice a T.length c, .slice ac l.length cc, .int .i64 k] w' fun e w2 => e = .returned (.int .i64 (P.fixAt T l k : Nat)) ∧ Below w'.heap.size w' w2 :=
      fun w' hb k hk => digitAt_any a ac c cc T l k w' (hT.stays hb) ht (hx.stays hb) hd hl12 hk
    have hs : ∀ k, k < l.length → pairCells ((P.fixes T l).take (k + 1)) = pairCells ((P.fixes T l).take k) ++ [.int .i64 (k : Int), .int .i64 (P.fixAt T l k : Nat)] := fun k hk => by
      unfold P.fixes
      rw [range_map_take _ _ _ hk, pairCells_snoc]
    have hfl : (P.fixes T l).length = l.length := by simp [P.fixes]
    have hfa : ∀ k, k ≤ l.length → ((P.fixes T l).take k).length = k := fun k hk => by rw [List.length_take, hfl]; omega
    rw [if_neg (by simp)]
    generalize P.fixes T l = F at *
    have HC2 := hid hcall2; clear hcall2
    have HS := hid hs; clear hs
    have HFL := hid hfl; clear hfl
    obtain ⟨i0, hi, hz0, hz1, hz2⟩ := info_parts (show (Try.prog.info? 51).map (fun i => (i.zero, i.size, i.bytes)) = some (some (.agg #[.int .i64 0, .int .i64 0]), 2, 16) by kernel_rfl)
    clear ht hd hT hx hm h0
    go_enter Try.func16, Try.ntmps16
    go_wp2_with fail
    refine HC.out.mono ?_
    rintro e w1 ⟨rfl, hb⟩
    have HB := hid hb; clear hb
    go_wp2
    go_loopw [7, 17] (fun v i wr => ∃ k : Nat, k ≤ l.length ∧ i = .int .i64 k ∧ wr.ownsRow w.heap.size 51 2 v k (pairCells (F.take k)) ∧ Below w.heap.size w wr) (fun _ i _ => l.length - (intOf i).toNat)
    case atStart => exact ⟨0, Nat.zero_le _, rfl, World.ownsRow_nil _ _ _ _, HB.out⟩
    case round =>
      obtain ⟨k, hk, rfl, hown, hb⟩ := hrel
      have HO := hid hown; clear hown
      have HB2 := hid hb; clear hb
      by_cases hlt : k < l.length
      · have hc1 := HC2.out wr HB2.out k hlt
        have hs := HS.out k hlt
        generalize P.fixAt T l k = d at *
        have H1 := hid hc1; clear hc1
        have H2 := hid hs; clear hs
        go_wp2_with fail
        refine H1.out.mono ?_
        rintro e w2 ⟨rfl, hb2⟩
        have hown2 := ownsRow_stays HO.out hb2
        have HB3 := hid (HB2.out.trans (hb2.mono HB2.out.size))
        clear hb2
        have HO2 := hid hown2; clear hown2
        go_wp2_with (at_builtin; refine wpList_append_own _ rfl _ _ 43 rfl w.heap.size 51 i0 (.agg #[.int .i64 0, .int .i64 0]) 2 16 Try.underlying43 hi hz0 hz1 hz2 rfl (by decide) _ _ _ rfl (HO2.out.alloc _) ⟨w2.heap.size, 0, none⟩ 1 1 [.int .i64 (k : Int), .int .i64 (d : Nat)] rfl rfl ?c1 ?c2 ?c3 ?c4 ?c5 ?_)
        case c1 =>
          intro j u hj
          match j, hj with
          | 0, hj => simp at hj; subst hj; simp [Addr.add]
          | 1, hj => simp at hj; subst hj; simp [Addr.add]
        case c2 => intro u hu; simp at hu; rcases hu with rfl | rfl <;> rfl
        case c3 => unfold maxLen; omega
        case c4 => omega
        case c5 => have := HB3.out.size; simp; omega
        intro v' w3 hown' hgrow _
        have HB4 := hid ((HB3.out.alloc HB3.out.size _).grown hgrow (by have := HB3.out.size; simp; omega) (fun q hq => (World.ownsRow.lt HO2.out q hq).1))
        have HO3 := hid hown'
        clear hown' hgrow
        go_wp2
        go_roundw
        case rel => exact ⟨k + 1, by omega, by go_num, by rw [H2.out]; exact HO3.out, HB4.out⟩
        case measure => simp [intOf]; omega
      · have hk' : k = l.length := by omega
        subst hk'
        rw [List.take_of_length_le (by rw [HFL.out]; exact Nat.le_refl _)] at HO
        obtain ⟨r, cr, rfl, hr⟩ := RdP.of_row HO.out
        have HR := hid hr; clear hr HO
        go_wp2
        go_ret2
        exact ⟨r, cr, F, rfl, rfl, HR.out, HB2.out⟩
  · rw [if_pos h0]
    generalize P.wrong T l = e0 at *
    have ht : (e0 != 0) = true := by simpa using h0
    have HC := hid hcall; clear hcall h0 hT hx hm
    go_enter Try.func16, Try.ntmps16
    go_wp2_with (go_at_call 37; refine HC.out.mono ?_; rintro e w' ⟨rfl, hb⟩)
    go_ret2
    exact ⟨none, 0, [], rfl, rfl, fun k hk => absurd hk (Nat.not_lt_zero _), hb⟩

/-- A code with two neighbours exchanged. -/
def P.swap (l : List Int) (i : Nat) : List Int := (l.set i (l.getD (i + 1) 0)).set (i + 1) (l.getD i 0)
def P.swaps (T : List (List Int)) (l : List Int) (m : Nat) : List Int := ((List.range m).filter fun i : Nat => decide (P.after T (P.swap l i) = 0)).map fun i : Nat => (i : Int)

theorem P.swaps_succ (T : List (List Int)) (l : List Int) (k : Nat) : P.swaps T l (k + 1) = P.swaps T l k ++ if P.after T (P.swap l k) = 0 then [(k : Int)] else [] := by
  unfold P.swaps
  rw [List.range_succ, List.filter_append, List.map_append]
  congr 1
  by_cases h : P.after T (P.swap l k) = 0 <;> simp [h]

theorem P.swaps_le (T : List (List Int)) (l : List Int) (k : Nat) : (P.swaps T l k).length ≤ k := by
  unfold P.swaps
  rw [List.length_map]
  have := List.length_filter_le (fun i : Nat => decide (P.after T (P.swap l i) = 0)) (List.range k)
  simpa using this

theorem RdI.of_row {w : World} {base : Nat} {v : Value} {n : Nat} {xs : List Int} (h : w.ownsRow base 3 1 v n (xs.map (Value.int .i64))) : ∃ a cap, v = .slice a xs.length cap ∧ RdI w a xs := by
  by_cases h0 : 0 < xs.length
  · obtain ⟨g, cap, rfl, ho⟩ := OwnI.of_row h h0
    exact ⟨_, cap, rfl, ho.rd⟩
  · have hl : xs.length = n := by have := h.1; simpa using this
    rcases h.2 with ⟨rfl, h2⟩ | ⟨g, cap, cur, rfl, _⟩
    · exact ⟨none, 0, by rw [hl, h2], fun k hk => by omega⟩
    · exact ⟨_, cap, by rw [hl], fun k hk => by omega⟩

set_option maxHeartbeats 1000000 in
set_option maxRecDepth 100000 in
theorem swaps_any (a ac : Option Addr) (c cc : Nat) (T : List (List Int)) (l : List Int) (w : World) (hm : l.length ≤ maxLen) (hT : RdM w a T) (hx : RdI w ac l) :
    Calls Try.prog 17 #[.slice a T.length c, .slice ac l.length cc] w
      fun e w' => ∃ r cr xs, e = .returned (.tuple #[.slice r xs.length cr, .int .i64 (P.wrong T l)]) ∧ (xs = if P.wrong T l ≠ 0 then [] else P.swaps T l (l.length - 1)) ∧ RdI w' r xs ∧ Below w.heap.size w w' := by
  have hcall := checkWrong_any a ac c cc T l w hm hT hx
  have hmf : ∀ (fn : Fn) (first cap : Array Value) (w : World), (Instr.makeFunc fn first cap).run Try.prog w = .ok (.func fn first cap) w := fun _ _ _ _ => rfl
  by_cases h0 : P.wrong T l = 0
  · obtain ⟨ht, hl2, hl12, hd, _⟩ := wrong_ok h0
    rw [h0] at hcall ⊢
    have HC := hid hcall; clear hcall
    have hcall2 : ∀ w', Below w.heap.size w w' → ∀ k bi, k + 1 < l.length → w'.cell? ⟨bi, 0, none⟩ = some (.int .i64 (k : Nat)) →
        Calls Try.prog 40 #[.slice a T.length c, .slice ac l.length cc, .func (.func 39) #[] #[.pointer (some ⟨bi, 0, none⟩)]] w' fun e w2 => e = .returned (.bool (decide (P.after T (P.swap l k) = 0))) ∧ Below w'.heap.size w' w2 :=
      fun w' hb k bi hk hc => by
        have := rightAfterS_any a ac c cc bi T l k w' (hT.stays hb) ht.sq (by have := ht.lo; omega) (hx.stays hb) hd hl12 hk hc
        have e : P.swap l k = (l.set k l[k + 1]).set (k + 1) l[k] := by
          simp only [P.swap, List.getD, List.getElem?_eq_getElem hk, List.getElem?_eq_getElem (show k < l.length by omega), Option.getD_some]
        rw [e]
        exact this
    have HC2 := hid hcall2; clear hcall2
    rw [if_neg (by simp)]
    obtain ⟨i0, hi, hz0, hz1, hz2⟩ := info_parts (show (Try.prog.info? 3).map (fun i => (i.zero, i.size, i.bytes)) = some (some (.int .i64 0), 1, 8) by kernel_rfl)
    clear ht hd hT hx hm h0
    go_enter Try.func17, Try.ntmps17
    go_wp2_with fail
    refine HC.out.mono ?_
    rintro e w1 ⟨rfl, hb⟩
    have HB := hid hb; clear hb
    go_wp2
    go_loopw [7, 19] (fun v i wr => ∃ k : Nat, k ≤ l.length - 1 ∧ i = .int .i64 k ∧ wr.ownsRow w.heap.size 3 1 v (P.swaps T l k).length ((P.swaps T l k).map (Value.int .i64)) ∧ Below w.heap.size w wr) (fun _ i _ => l.length - (intOf i).toNat)
    case atStart => exact ⟨0, Nat.zero_le _, rfl, World.ownsRow_nil _ _ _ _, HB.out⟩
    case round =>
      obtain ⟨k, hk, rfl, hown, hb⟩ := hrel
      have HO := hid hown; clear hown
      have HB2 := hid hb; clear hb
      by_cases hlt : k < l.length - 1
      · have hba := HB2.out.alloc HB2.out.size (.cells #[.int .i64 (k : Nat)] 3)
        have hcell : (wr.alloc (.cells #[.int .i64 (k : Nat)] 3)).cell? ⟨wr.heap.size, 0, none⟩ = some (.int .i64 (k : Nat)) := by
          rw [World.cell?_alloc_at _ _ _ _ rfl]; rfl
        have hc1 := HC2.out _ hba k wr.heap.size (by omega) hcell
        have hs := P.swaps_succ T l k
        have hle := P.swaps_le T l k
        have HST := hid (show ∀ w', Below (wr.alloc (.cells #[.int .i64 (k : Nat)] 3)).heap.size (wr.alloc (.cells #[.int .i64 (k : Nat)] 3)) w' → w'.cell? ⟨wr.heap.size, 0, none⟩ = some (.int .i64 (k : Nat)) ∧ Below w.heap.size w w' ∧ w'.ownsRow w.heap.size 3 1 _ _ _ from
          fun w' h => ⟨cell_stays h (Nat.le_refl _) hcell, hba.trans (h.mono hba.size), ownsRow_stays (HO.out.alloc _) h⟩)
        clear hba hcell
        have both : P.after T (P.swap l k) = 0 ∧ decide (P.after T (P.swap l k) = 0) = true ∨ P.after T (P.swap l k) ≠ 0 ∧ decide (P.after T (P.swap l k) = 0) = false := by
          by_cases hs : P.after T (P.swap l k) = 0
          · exact Or.inl ⟨hs, by simpa using hs⟩
          · exact Or.inr ⟨hs, by simpa using hs⟩
        rcases both with ⟨b1, b2⟩ | ⟨b1, b2⟩
        · rw [b2] at hc1
          rw [if_pos b1] at hs
          have H1 := hid hc1; clear hc1
          have H2 := hid hs; clear hs b1 b2
          go_wp2_with fail
          refine H1.out.mono ?_
          rintro e w2 ⟨rfl, hb2⟩
          obtain ⟨hcl, hb3, hown2⟩ := HST.out w2 hb2
          have HO2 := hid hown2
          have HB3 := hid hb3
          clear hb2 hb3 hown2
          go_wp2_with (at_builtin; refine wpList_append_own _ rfl _ _ 35 rfl w.heap.size 3 i0 (.int .i64 0) 1 8 Try.underlying35 hi hz0 hz1 hz2 rfl (by decide) _ _ _ rfl (HO2.out.alloc _) ⟨w2.heap.size, 0, none⟩ 1 1 [.int .i64 (k : Int)] rfl rfl ?c1 ?c2 ?c3 ?c4 ?c5 ?_)
          case c1 =>
            intro j u hj
            match j, hj with
            | 0, hj => simp at hj; subst hj; simp [Addr.add]
          case c2 => intro u hu; simp at hu; subst hu; rfl
          case c3 => unfold maxLen; omega
          case c4 => omega
          case c5 => have := HB3.out.size; simp; omega
          intro v' w3 hown' hgrow _
          have HB4 := hid ((HB3.out.alloc HB3.out.size _).grown hgrow (by have := HB3.out.size; simp; omega) (fun q hq => (World.ownsRow.lt HO2.out q hq).1))
          have HO3 := hid hown'
          clear hown' hgrow
          go_wp2
          go_roundw
          case rel => exact ⟨k + 1, by omega, by go_num, by rw [H2.out]; simpa using HO3.out, HB4.out⟩
          case measure => simp [intOf]; omega
        · rw [b2] at hc1
          rw [if_neg b1, List.append_nil] at hs
          have H1 := hid hc1; clear hc1
          have H2 := hid hs; clear hs b1 b2
          go_wp2_with fail
          refine H1.out.mono ?_
          rintro e w2 ⟨rfl, hb2⟩
          obtain ⟨hcl, hb3, hown2⟩ := HST.out w2 hb2
          have HO2 := hid hown2
          have HB3 := hid hb3
          clear hb2 hb3 hown2
          go_wp2
          go_roundw
          case rel => exact ⟨k + 1, by omega, by go_num, by rw [H2.out]; exact HO2.out, HB3.out⟩
          case measure => simp [intOf]; omega
      · have hk' : k = l.length - 1 := by omega
        obtain ⟨r, cr, rfl, hr⟩ := RdI.of_row HO.out
        rw [hk'] at hr
        have HR := hid hr; clear hr HO
        have HK : Hid ((P.swaps T l k).length = (P.swaps T l (l.length - 1)).length) := hid (by rw [hk'])
        have h7 : ¬ (k : Int) < (l.length : Int) - 1 := by omega
        clear hk'
        go_wp2
        go_ret2
        exact ⟨r, cr, _, by rw [HK.out]; rfl, rfl, HR.out, HB2.out⟩
  · rw [if_pos h0]
    generalize P.wrong T l = e0 at *
    have ht : (e0 != 0) = true := by simpa using h0
    have HC := hid hcall; clear hcall h0 hT hx hm
    go_enter Try.func17, Try.ntmps17
    go_wp2_with (go_at_call 37; refine HC.out.mono ?_; rintro e w' ⟨rfl, hb⟩)
    go_ret2
    exact ⟨none, 0, [], rfl, rfl, fun k hk => absurd hk (Nat.not_lt_zero _), hb⟩

end Go.Proofs.Ytlpdlnefgjmgmaa
