/- Package rack: groups as plain lists; rows of one's own. -/
import Derived.Test.YtmbfpekcfeeifaaKReaches
import Derived.OwnWalk
import Derived.Laws.AppendOwn
namespace Go.Proofs.Ytmbfpekcfeeifaa
open Go.RowKit

/-- Two places keep together: as a bool. -/
noncomputable def K.T (M : Nat → Nat → Bool) (x y : Nat) : Bool := @decide (K.Tog M x y) (Classical.propDecidable _)
theorem K.T_iff {M : Nat → Nat → Bool} {x y : Nat} : K.T M x y = true ↔ K.Tog M x y := by
  unfold K.T; exact @decide_eq_true_iff _ (Classical.propDecidable _)
theorem K.T_refl {M : Nat → Nat → Bool} {x : Nat} : K.T M x x = true := K.T_iff.2 ⟨.refl _, .refl _⟩
theorem K.T_symm {M : Nat → Nat → Bool} {x y : Nat} (h : K.T M x y = true) : K.T M y x = true := K.T_iff.2 ⟨(K.T_iff.1 h).2, (K.T_iff.1 h).1⟩
theorem K.T_trans {M : Nat → Nat → Bool} {x y z : Nat} (h : K.T M x y = true) (k : K.T M y z = true) : K.T M x z = true :=
  K.T_iff.2 ⟨(K.T_iff.1 h).1.trans (K.T_iff.1 k).1, (K.T_iff.1 k).2.trans (K.T_iff.1 h).2⟩
theorem together_T (g m n : Nat) (sl : Value) (M : Nat → Nat → Bool) (x y : Nat) (w : World) (hx : x < 12) (hy : y < 12) (hM : K.Bnd M) (hA : ArrAt w g m n sl M) :
    Calls Try.prog 76 #[.pointer (some ⟨g, 0, none⟩), .int .i64 x, .int .i64 y] w fun e w' => e = .returned (.bool (K.T M x y)) ∧ Below w.heap.size w w' := by
  refine (together_any g m n sl M x y w hx hy hM hA).mono ?_
  rintro e w' ⟨r, rfl, hr, hb⟩
  refine ⟨ret_bool ?_, hb⟩
  rw [Bool.eq_iff_iff, K.T_iff]; exact hr

/-- The rows below j that keep together with p, and the columns. -/
noncomputable def K.rw (M : Nat → Nat → Bool) (m p : Nat) : Nat → List Int
  | 0 => []
  | j + 1 => if j < m ∧ K.T M p j = true then K.rw M m p j ++ [(j : Int)] else K.rw M m p j
noncomputable def K.cl (M : Nat → Nat → Bool) (m p : Nat) : Nat → List Int
  | 0 => []
  | j + 1 => if ¬ j < m ∧ K.T M p j = true then K.cl M m p j ++ [((j - m : Nat) : Int)] else K.cl M m p j
/-- An earlier place keeps together with it. -/
noncomputable def K.grouped (M : Nat → Nat → Bool) (p x : Nat) : Bool := (List.range p).any fun q => K.T M q x
/-- The groups of the first places. -/
noncomputable def K.gs (M : Nat → Nat → Bool) (m N : Nat) : Nat → List (List Int × List Int)
  | 0 => []
  | p + 1 => if K.grouped M p p = true then K.gs M m N p else K.gs M m N p ++ [(K.rw M m p N, K.cl M m p N)]
theorem K.rw_len (M : Nat → Nat → Bool) (m p : Nat) : ∀ j, (K.rw M m p j).length ≤ j
  | 0 => Nat.le_refl _
  | j + 1 => by
    have := K.rw_len M m p j
    unfold K.rw
    split <;> simp <;> omega
theorem K.cl_len (M : Nat → Nat → Bool) (m p : Nat) : ∀ j, (K.cl M m p j).length ≤ j
  | 0 => Nat.le_refl _
  | j + 1 => by
    have := K.cl_len M m p j
    unfold K.cl
    split <;> simp <;> omega
theorem K.gs_len (M : Nat → Nat → Bool) (m N : Nat) : ∀ p, (K.gs M m N p).length ≤ p
  | 0 => Nat.le_refl _
  | p + 1 => by
    have := K.gs_len M m N p
    unfold K.gs
    split <;> simp <;> omega
theorem K.cl_low {M : Nat → Nat → Bool} {m p : Nat} : ∀ {j}, j ≤ m → K.cl M m p j = []
  | 0, _ => rfl
  | j + 1, h => by
    unfold K.cl
    rw [if_neg (fun h2 => h2.1 (by omega))]
    exact K.cl_low (by omega)
theorem K.grouped_succ (M : Nat → Nat → Bool) (p x : Nat) : K.grouped M (p + 1) x = (K.grouped M p x || K.T M p x) := by
  unfold K.grouped
  rw [List.range_succ, List.any_append]
  simp
theorem K.grouped_skip {M : Nat → Nat → Bool} {p : Nat} (h : K.grouped M p p = true) (x : Nat) : K.grouped M (p + 1) x = K.grouped M p x := by
  rw [K.grouped_succ]
  cases hx : K.T M p x with
  | false => simp
  | true =>
    unfold K.grouped at h ⊢
    rw [List.any_eq_true] at h
    obtain ⟨q, hq, hqp⟩ := h
    have : ((List.range p).any fun q => K.T M q x) = true := List.any_eq_true.2 ⟨q, hq, K.T_trans hqp hx⟩
    rw [this]; rfl
/-- Which places are marked: before place p, with j places behind it looked at. -/
noncomputable def K.mk (M : Nat → Nat → Bool) (N p j x : Nat) : Bool := (decide (x < N) && K.grouped M p x) || (decide (x < j) && K.T M p x)
theorem K.mk_zero (M : Nat → Nat → Bool) (N : Nat) : K.mk M N 0 0 = fun _ => false := by
  funext x; simp [K.mk, K.grouped]
theorem K.mk_start (M : Nat → Nat → Bool) (N p x : Nat) : K.mk M N p 0 x = (decide (x < N) && K.grouped M p x) := by simp [K.mk]
theorem K.mk_end (M : Nat → Nat → Bool) (N p : Nat) : K.mk M N p N = K.mk M N (p + 1) 0 := by
  funext x
  rw [K.mk_start, K.grouped_succ]
  unfold K.mk
  cases decide (x < N) <;> rfl
theorem K.mk_skip {M : Nat → Nat → Bool} {N p : Nat} (h : K.grouped M p p = true) : K.mk M N p 0 = K.mk M N (p + 1) 0 := by
  funext x
  rw [K.mk_start, K.mk_start, K.grouped_skip h]
theorem K.mk_hit {M : Nat → Nat → Bool} {N p j : Nat} (h : K.T M p j = true) : K.pass1 (K.mk M N p j) j = K.mk M N p (j + 1) := by
  funext x
  unfold K.pass1 K.mk
  by_cases e : x = j
  · subst e
    rw [if_pos rfl, h]; simp
  · rw [if_neg e, show decide (x < j + 1) = decide (x < j) by rw [decide_eq_decide]; omega]
theorem K.mk_miss {M : Nat → Nat → Bool} {N p j : Nat} (h : K.T M p j = false) : K.mk M N p j = K.mk M N p (j + 1) := by
  funext x
  unfold K.mk
  by_cases e : x = j
  · subst e; rw [h]; simp
  · rw [show decide (x < j + 1) = decide (x < j) by rw [decide_eq_decide]; omega]

/-- A row of numbers of one's own. -/
def RowI (w : World) (lo : Nat) (v : Value) (xs : List Int) : Prop := w.ownsRow lo 3 1 v xs.length (xs.map (Value.int .i64))
/-- Rows below a bound. -/
def Lower (hi : Nat) (v : Value) : Prop := ∀ q, v.ownBlock = some q → q < hi
theorem RowI.rd {w : World} {lo : Nat} {v : Value} {xs : List Int} (h : RowI w lo v xs) : ∃ a cap, v = .slice a xs.length cap ∧ RdI w a xs := by
  rcases h.2 with ⟨rfl, h2⟩ | ⟨g, cap, cur, rfl, _⟩
  · exact ⟨none, 0, by rw [h2], fun k hk => by omega⟩
  · refine ⟨_, cap, rfl, fun k hk => ⟨g, 0, rfl, ?_⟩⟩
    have := World.ownsRow.cellAt h k (by omega)
    rw [Nat.zero_add, this]
    simp [hk]
theorem RowI.low0 {w : World} {lo : Nat} {v : Value} {xs : List Int} (h : RowI w lo v xs) : Lower w.heap.size v := fun q hq => (World.ownsRow.lt h q hq).2
theorem RowI.kept {w w' : World} {lo : Nat} {v : Value} {xs : List Int} {row : Option Nat} (h : RowI w lo v xs) (hg : w.grownBy w' row) (hne : v.ownBlock = none ∨ v.ownBlock ≠ row) : RowI w' lo v xs := World.ownsRow.kept h hg hne
theorem Lower.ne {hi q : Nat} {v : Value} (h : Lower hi v) (hq : hi ≤ q) : v.ownBlock = none ∨ v.ownBlock ≠ some q := by
  cases hv : v.ownBlock with
  | none => exact .inl rfl
  | some k => exact .inr fun e => by cases e; have := h q hv; omega
theorem own_ne {w : World} {base base' : Nat} {e1 e2 : TypeId} {s1 s2 n1 n2 : Nat} {u v : Value} {xs ys : List Value} (h1 : w.ownsRow base e1 s1 u n1 xs) (h2 : w.ownsRow base' e2 s2 v n2 ys) (he : e1 ≠ e2) : u.ownBlock = none ∨ u.ownBlock ≠ v.ownBlock := by
  rcases h1.2 with ⟨rfl, _⟩ | ⟨g1, cap1, cur1, rfl, _, hg1, _⟩
  · exact .inl rfl
  · right
    rcases h2.2 with ⟨rfl, _⟩ | ⟨g2, cap2, cur2, rfl, _, hg2, _⟩
    · intro h; cases h
    · intro heq
      simp only [Value.ownBlock, Option.some.injEq] at heq
      subst heq
      rw [hg1] at hg2
      simp only [Option.some.injEq, Obj.cells.injEq] at hg2
      exact he hg2.2.1
theorem grown_set {w : World} (g o : Nat) (u : Value) : w.grownBy (w.setCell ⟨g, o, none⟩ u) (some g) :=
  ⟨rfl, rfl, rfl, by simp [World.setCell], fun k _ hk => Below.heap_setCell _ _ _ _ (fun e => hk (by rw [e]))⟩
theorem grown_below {w w' : World} (h : Below w.heap.size w w') : w.grownBy w' none := ⟨h.os, h.tape, h.output, h.size, fun k hk _ => h.block k hk⟩
theorem row_grown {w w' : World} {row : Option Nat} {b : Nat} {t : TypeId} {n : Nat} {f : Nat → Value} (h : w.rowIs b t n f) (hg : w.grownBy w' row) (hne : row ≠ some b) : w'.rowIs b t n f :=
  h.of_block (hg.block b h.lt (fun e => hne e.symm))

/-- Groups in a row of one's own: the row, and the rows in it, lie below a bound. -/
structure GsAt (w : World) (lo hi : Nat) (v : Value) (gs : List (List Int × List Int)) : Prop where
  ex : ∃ vs : List (Value × Value), vs.length = gs.length ∧ w.ownsRow lo 85 2 v gs.length (vs.flatMap fun p => [p.1, p.2]) ∧
    ∀ k (h : k < gs.length) (h' : k < vs.length), RowI w lo vs[k].1 gs[k].1 ∧ RowI w lo vs[k].2 gs[k].2 ∧ Lower hi vs[k].1 ∧ Lower hi vs[k].2
  under : Lower hi v
theorem GsAt.nil (w : World) (lo hi : Nat) : GsAt w lo hi (.slice none 0 0) [] := ⟨⟨[], rfl, World.ownsRow_nil _ _ _ _, fun k h => absurd h (Nat.not_lt_zero _)⟩, fun q hq => by cases hq⟩
theorem GsAt.kept {w w' : World} {lo hi : Nat} {v : Value} {gs : List (List Int × List Int)} {row : Option Nat} (h : GsAt w lo hi v gs) (hg : w.grownBy w' row) (hr : ∀ q, row = some q → q < lo ∨ hi ≤ q) : GsAt w' lo hi v gs := by
  have ne : ∀ {u : Value} {e : TypeId} {size n : Nat} {xs : List Value}, w.ownsRow lo e size u n xs → Lower hi u → u.ownBlock = none ∨ u.ownBlock ≠ row := by
    intro u e size n xs ho hu
    cases hb : u.ownBlock with
    | none => exact .inl rfl
    | some k =>
      refine .inr fun e => ?_
      have h1 := hu k hb
      have h2 := (World.ownsRow.lt ho k hb).1
      rcases hr k e.symm with h3 | h3 <;> omega
  obtain ⟨vs, h1, h2, h3⟩ := h.ex
  refine ⟨⟨vs, h1, World.ownsRow.kept h2 hg (ne h2 h.under), fun k hk hk' => ?_⟩, h.under⟩
  obtain ⟨q1, q2, q3, q4⟩ := h3 k hk hk'
  exact ⟨q1.kept hg (ne q1 q3), q2.kept hg (ne q2 q4), q3, q4⟩
theorem GsAt.mono {w : World} {lo hi hi' : Nat} {v : Value} {gs : List (List Int × List Int)} (h : GsAt w lo hi v gs) (hh : hi ≤ hi') : GsAt w lo hi' v gs := by
  have up : ∀ {u : Value}, Lower hi u → Lower hi' u := fun hu q hq => Nat.lt_of_lt_of_le (hu q hq) hh
  obtain ⟨vs, h1, h2, h3⟩ := h.ex
  exact ⟨⟨vs, h1, h2, fun k hk hk' => by obtain ⟨q1, q2, q3, q4⟩ := h3 k hk hk'; exact ⟨q1, q2, up q3, up q4⟩⟩, up h.under⟩
/-- One more group behind them. -/
theorem GsAt.push {w w' : World} {lo hi : Nat} {v v' : Value} {gs : List (List Int × List Int)} {vs : List (Value × Value)} (h1 : vs.length = gs.length) (h2 : w.ownsRow lo 85 2 v gs.length (vs.flatMap fun p => [p.1, p.2]))
    (h3 : ∀ k (h : k < gs.length) (h' : k < vs.length), RowI w lo vs[k].1 gs[k].1 ∧ RowI w lo vs[k].2 gs[k].2 ∧ Lower hi vs[k].1 ∧ Lower hi vs[k].2)
    {rv cv : Value} {R C : List Int} (hR : RowI w lo rv R) (hC : RowI w lo cv C) (hi' : hi ≤ w.heap.size)
    (h4 : w'.ownsRow lo 85 2 v' (gs.length + 1) ((vs.flatMap fun p => [p.1, p.2]) ++ [rv, cv])) (hg : w.grownBy w' v.ownBlock) : GsAt w' lo w'.heap.size v' (gs ++ [(R, C)]) := by
  have keep : ∀ {u : Value} {xs : List Int}, RowI w lo u xs → RowI w' lo u xs := fun hu => hu.kept hg (own_ne hu h2 (by decide))
  have hs := hg.size
  refine ⟨⟨vs ++ [(rv, cv)], by simp [h1], ?_, fun k hk hk' => ?_⟩, fun q hq => (World.ownsRow.lt h4 q hq).2⟩
  · have e : (vs ++ [(rv, cv)]).flatMap (fun p => [p.1, p.2]) = (vs.flatMap fun p => [p.1, p.2]) ++ [rv, cv] := by simp
    rw [e, List.length_append]
    exact h4
  · by_cases hlt : k < gs.length
    · have hlt' : k < vs.length := by omega
      rw [List.getElem_append_left hlt, List.getElem_append_left hlt']
      obtain ⟨q1, q2, q3, q4⟩ := h3 k hlt hlt'
      exact ⟨keep q1, keep q2, fun q hq => Nat.lt_of_lt_of_le (q3 q hq) (Nat.le_trans hi' hs), fun q hq => Nat.lt_of_lt_of_le (q4 q hq) (Nat.le_trans hi' hs)⟩
    · have hk2 : k = gs.length := by simp at hk; omega
      subst hk2
      have e1 : (gs ++ [(R, C)])[gs.length] = (R, C) := by simp
      have e2 : (vs ++ [(rv, cv)])[gs.length] = (rv, cv) := by simp [← h1]
      rw [e1, e2]
      exact ⟨keep hR, keep hC, (keep hR).low0, (keep hC).low0⟩
/-- The slice with this address reads as these groups. -/
def RdG (w : World) (a : Option Addr) (gs : List (List Int × List Int)) : Prop :=
  ∀ k (h : k < gs.length), ∃ b off r1 c1 r2 c2, a = some ⟨b, off, none⟩ ∧ w.cell? ⟨b, off + k * 2, none⟩ = some (.slice r1 gs[k].1.length c1) ∧ w.cell? ⟨b, off + k * 2 + 1, none⟩ = some (.slice r2 gs[k].2.length c2) ∧ RdI w r1 gs[k].1 ∧ RdI w r2 gs[k].2
theorem flat2_get : ∀ (vs : List (Value × Value)) (k : Nat) (h : k < vs.length), (vs.flatMap fun p => [p.1, p.2])[k * 2]? = some vs[k].1 ∧ (vs.flatMap fun p => [p.1, p.2])[k * 2 + 1]? = some vs[k].2
  | [], _, h => absurd h (Nat.not_lt_zero _)
  | p :: vs, 0, _ => ⟨rfl, rfl⟩
  | p :: vs, k + 1, h => by
    have := flat2_get vs k (by simpa using h)
    rw [Nat.succ_mul]
    exact this
theorem GsAt.rd {w : World} {lo hi : Nat} {v : Value} {gs : List (List Int × List Int)} (h : GsAt w lo hi v gs) : ∃ a cap, v = .slice a gs.length cap ∧ RdG w a gs := by
  obtain ⟨vs, h1, h2, h3⟩ := h.ex
  rcases h2.2 with ⟨rfl, h4⟩ | ⟨g, cap, cur, rfl, _⟩
  · exact ⟨none, 0, by rw [h4], fun k hk => by omega⟩
  · refine ⟨_, cap, rfl, fun k hk => ?_⟩
    have hk' : k < vs.length := by omega
    obtain ⟨q1, q2, _, _⟩ := h3 k hk hk'
    obtain ⟨r1, c1, e1, i1⟩ := q1.rd
    obtain ⟨r2, c2, e2, i2⟩ := q2.rd
    obtain ⟨f1, f2⟩ := flat2_get vs k hk'
    refine ⟨g, 0, r1, c1, r2, c2, rfl, ?_, ?_, i1, i2⟩
    · rw [World.ownsRow.cellAt h2 _ (by omega), ← e1]
      simpa using f1
    · rw [World.ownsRow.cellAt h2 _ (by omega), ← e2]
      simpa using f2
end Go.Proofs.Ytmbfpekcfeeifaa
