/- Package tuscheref05: what a round of Groups keeps. -/
import Derived.Test.YtmbfpekcfeeifaaKRChk
namespace Go.Proofs.Ytmbfpekcfeeifaa
open Go.RowKit

/-- Groups in a row of one's own: the row, and the rows in it, lie below a bound. -/
structure GsAtR (w : World) (lo hi : Nat) (v : Value) (gs : List (List Int × List Int)) : Prop where
  ex : ∃ vs : List (Value × Value), vs.length = gs.length ∧ w.ownsRow lo 94 2 v gs.length (vs.flatMap fun p => [p.1, p.2]) ∧
    ∀ k (h : k < gs.length) (h' : k < vs.length), RowI w lo vs[k].1 gs[k].1 ∧ RowI w lo vs[k].2 gs[k].2 ∧ Lower hi vs[k].1 ∧ Lower hi vs[k].2
  under : Lower hi v
theorem GsAtR.nil (w : World) (lo hi : Nat) : GsAtR w lo hi (.slice none 0 0) [] := ⟨⟨[], rfl, World.ownsRow_nil _ _ _ _, fun k h => absurd h (Nat.not_lt_zero _)⟩, fun q hq => by cases hq⟩
theorem GsAtR.kept {w w' : World} {lo hi : Nat} {v : Value} {gs : List (List Int × List Int)} {row : Option Nat} (h : GsAtR w lo hi v gs) (hg : w.grownBy w' row) (hr : ∀ q, row = some q → q < lo ∨ hi ≤ q) : GsAtR w' lo hi v gs := by
  have ne : ∀ {u : Value} {e : TypeId} {size n : Nat} {xs : List Value}, w.ownsRow lo e size u n xs → Lower hi u → u.ownBlock = none ∨ u.ownBlock ≠ row := by
    intro u e size n xs ho hu
    cases hb : u.ownBlock with
    | none => exact .inl rfl
    | some k =>
      refine .inr fun e => ?_
      have h1 := hu k hb
      have h2 := (World.ownsRow.lt ho k hb).1
      rcases hr k e.symm with h3 | h3 <;> omega
  obtain ⟨vs, h1, h2, h3⟩ := h.ex
  refine ⟨⟨vs, h1, World.ownsRow.kept h2 hg (ne h2 h.under), fun k hk hk' => ?_⟩, h.under⟩
  obtain ⟨q1, q2, q3, q4⟩ := h3 k hk hk'
  exact ⟨q1.kept hg (ne q1 q3), q2.kept hg (ne q2 q4), q3, q4⟩
theorem GsAtR.mono {w : World} {lo hi hi' : Nat} {v : Value} {gs : List (List Int × List Int)} (h : GsAtR w lo hi v gs) (hh : hi ≤ hi') : GsAtR w lo hi' v gs := by
  have up : ∀ {u : Value}, Lower hi u → Lower hi' u := fun hu q hq => Nat.lt_of_lt_of_le (hu q hq) hh
  obtain ⟨vs, h1, h2, h3⟩ := h.ex
  exact ⟨⟨vs, h1, h2, fun k hk hk' => by obtain ⟨q1, q2, q3, q4⟩ := h3 k hk hk'; exact ⟨q1, q2, up q3, up q4⟩⟩, up h.under⟩
/-- One more group behind them. -/
theorem GsAtR.push {w w' : World} {lo hi : Nat} {v v' : Value} {gs : List (List Int × List Int)} {vs : List (Value × Value)} (h1 : vs.length = gs.length) (h2 : w.ownsRow lo 94 2 v gs.length (vs.flatMap fun p => [p.1, p.2]))
    (h3 : ∀ k (h : k < gs.length) (h' : k < vs.length), RowI w lo vs[k].1 gs[k].1 ∧ RowI w lo vs[k].2 gs[k].2 ∧ Lower hi vs[k].1 ∧ Lower hi vs[k].2)
    {rv cv : Value} {R C : List Int} (hR : RowI w lo rv R) (hC : RowI w lo cv C) (hi' : hi ≤ w.heap.size)
    (h4 : w'.ownsRow lo 94 2 v' (gs.length + 1) ((vs.flatMap fun p => [p.1, p.2]) ++ [rv, cv])) (hg : w.grownBy w' v.ownBlock) : GsAtR w' lo w'.heap.size v' (gs ++ [(R, C)]) := by
  have keep : ∀ {u : Value} {xs : List Int}, RowI w lo u xs → RowI w' lo u xs := fun hu => hu.kept hg (own_ne hu h2 (by decide))
  have hs := hg.size
  refine ⟨⟨vs ++ [(rv, cv)], by simp [h1], ?_, fun k hk hk' => ?_⟩, fun q hq => (World.ownsRow.lt h4 q hq).2⟩
  · have e : (vs ++ [(rv, cv)]).flatMap (fun p => [p.1, p.2]) = (vs.flatMap fun p => [p.1, p.2]) ++ [rv, cv] := by simp
    rw [e, List.length_append]
    exact h4
  · by_cases hlt : k < gs.length
    · have hlt' : k < vs.length := by omega
      rw [List.getElem_append_left hlt, List.getElem_append_left hlt']
      obtain ⟨q1, q2, q3, q4⟩ := h3 k hlt hlt'
      exact ⟨keep q1, keep q2, fun q hq => Nat.lt_of_lt_of_le (q3 q hq) (Nat.le_trans hi' hs), fun q hq => Nat.lt_of_lt_of_le (q4 q hq) (Nat.le_trans hi' hs)⟩
    · have hk2 : k = gs.length := by simp at hk; omega
      subst hk2
      have e1 : (gs ++ [(R, C)])[gs.length] = (R, C) := by simp
      have e2 : (vs ++ [(rv, cv)])[gs.length] = (rv, cv) := by simp [← h1]
      rw [e1, e2]
      exact ⟨keep hR, keep hC, (keep hR).low0, (keep hC).low0⟩
theorem GsAtR.rd {w : World} {lo hi : Nat} {v : Value} {gs : List (List Int × List Int)} (h : GsAtR w lo hi v gs) : ∃ a cap, v = .slice a gs.length cap ∧ RdG w a gs := by
  obtain ⟨vs, h1, h2, h3⟩ := h.ex
  rcases h2.2 with ⟨rfl, h4⟩ | ⟨g, cap, cur, rfl, _⟩
  · exact ⟨none, 0, by rw [h4], fun k hk => by omega⟩
  · refine ⟨_, cap, rfl, fun k hk => ?_⟩
    have hk' : k < vs.length := by omega
    obtain ⟨q1, q2, _, _⟩ := h3 k hk hk'
    obtain ⟨r1, c1, e1, i1⟩ := q1.rd
    obtain ⟨r2, c2, e2, i2⟩ := q2.rd
    obtain ⟨f1, f2⟩ := flat2_get vs k hk'
    refine ⟨g, 0, r1, c1, r2, c2, rfl, ?_, ?_, i1, i2⟩
    · rw [World.ownsRow.cellAt h2 _ (by omega), ← e1]
      simpa using f1
    · rw [World.ownsRow.cellAt h2 _ (by omega), ← e2]
      simpa using f2

/-- What holds while a group is gathered. -/
structure K.InnerR (w0 w : World) (bo tb gv N : Nat) (ib : Nat → Nat) (F : Nat → Nat → Bool) (gsV rv cv : Value) (Q : Nat → Bool) (gs : List (List Int × List Int)) (R C : List Int) (b2 : Nat) : Prop where
  var : w.rowIs gv 94 2 (fun i => if i = 0 then rv else cv)
  rows : RowI w (gv + 1) rv R
  cols : RowI w b2 cv C
  b1 : gv + 1 ≤ b2
  b2' : b2 ≤ w.heap.size
  und : Lower b2 rv
  taken : w.rowIs tb 4 N (fun j => .bool (Q j))
  mat : MatAt w w0.heap.size bo N ib F
  gs' : GsAtR w (tb + 1) gv gsV gs
  below : Below w0.heap.size w0 w
  o1 : bo < tb
  o4 : ∀ i, i < N → ib i < tb
  o2 : tb < gv
theorem MatAt.kept {w w' : World} {lo bo N : Nat} {ib : Nat → Nat} {F : Nat → Nat → Bool} {row : Option Nat} (h : MatAt w lo bo N ib F) (hg : w.grownBy w' row) (h1 : row ≠ some bo) (h2 : ∀ i, i < N → row ≠ some (ib i)) : MatAt w' lo bo N ib F :=
  ⟨row_grown h.outer hg h1, fun i hi => row_grown (h.inner i hi) hg (h2 i hi), h.inj, h.lo1, h.lo2⟩
variable {w0 w : World} {bo tb gv N : Nat} {ib : Nat → Nat} {F : Nat → Nat → Bool} {gsV rv cv : Value} {Q : Nat → Bool} {gs : List (List Int × List Int)} {R C : List Int} {b2 : Nat}
theorem K.InnerR.o3 (h : K.InnerR w0 w bo tb gv N ib F gsV rv cv Q gs R C b2) : w0.heap.size ≤ tb := by have := h.mat.lo1; have := h.o1; omega
theorem K.InnerR.grown {w' : World} (h : K.InnerR w0 w bo tb gv N ib F gsV rv cv Q gs R C b2) (hb : Below w.heap.size w w') : K.InnerR w0 w' bo tb gv N ib F gsV rv cv Q gs R C b2 := by
  have hg := grown_below hb
  have no : ∀ (b : Nat), (none : Option Nat) ≠ some b := fun b h => by cases h
  exact ⟨row_grown h.var hg (no _), h.rows.kept hg (Classical.em _), h.cols.kept hg (Classical.em _), h.b1, Nat.le_trans h.b2' hb.size, h.und, row_grown h.taken hg (no _), h.mat.grown hb,
    h.gs'.kept hg (fun q hq => by cases hq), h.below.trans (hb.mono h.below.size), h.o1, h.o4, h.o2⟩
theorem K.InnerR.mark (h : K.InnerR w0 w bo tb gv N ib F gsV rv cv Q gs R C b2) (j : Nat) : K.InnerR w0 (w.setCell ⟨tb, j, none⟩ (.bool true)) bo tb gv N ib F gsV rv cv (K.pass1 Q j) gs R C b2 := by
  have hg := grown_set (w := w) tb j (.bool true)
  have h1 := h.o1; have h2 := h.o2; have h3 := h.b1
  refine ⟨row_grown h.var hg (fun e => by have := Option.some.inj e; omega), h.rows.kept hg (h.rows.low (by omega)), h.cols.kept hg (h.cols.low (by omega)), h.b1, Nat.le_trans h.b2' hg.size, h.und, (h.taken.set j _).congr (fun x _ => ?_), h.mat.kept hg (fun e => by have := Option.some.inj e; omega) (fun i hi e => by have := Option.some.inj e; have := h.o4 i hi; omega),
    h.gs'.kept hg (fun q hq => by have := Option.some.inj hq; exact .inl (by omega)), h.below.setCell h.o3 _, h.o1, h.o4, h.o2⟩
  unfold K.pass1
  split <;> rfl
theorem K.InnerR.pushRow {w' : World} {v' : Value} {x : Int} (h : K.InnerR w0 w bo tb gv N ib F gsV rv (.slice none 0 0) Q gs R [] b2) (ho : w'.ownsRow (gv + 1) 3 1 v' (R.length + 1) (R.map (Value.int .i64) ++ [.int .i64 x])) (hg : w.grownBy w' rv.ownBlock) :
    K.InnerR w0 (w'.setCell ⟨gv, 0, none⟩ v') bo tb gv N ib F gsV v' (.slice none 0 0) Q gs (R ++ [x]) [] w'.heap.size := by
  have h1 := h.o1; have h2 := h.o2; have h3 := h.b1; have h4 := h.o3
  have hne : ∀ b, b ≤ gv → rv.ownBlock ≠ some b := fun b hb e => by have := (World.ownsRow.lt h.rows b e).1; omega
  have hs := grown_set (w := w') gv 0 v'
  have ho' : RowI w' (gv + 1) v' (R ++ [x]) := by unfold RowI; rw [List.length_append, List.map_append]; exact ho
  have hv := row_grown h.var hg (hne _ (Nat.le_refl _))
  have hbel : Below w0.heap.size w0 w' := h.below.grown hg h.below.size (fun k hk => by have := (World.ownsRow.lt h.rows k hk).1; omega)
  refine ⟨(hv.set 0 v').congr (fun i _ => by by_cases e : i = 0 <;> simp [e]), ho'.kept hs (ho'.low (Nat.lt_succ_self _)), World.ownsRow_nil _ _ _ _, ?_, hs.size, ho'.low0, row_grown (row_grown h.taken hg (hne _ (by omega))) hs (fun e => by have := Option.some.inj e; omega),
    (h.mat.kept hg (hne _ (by omega)) (fun i hi => hne _ (by have := h.o4 i hi; omega))).kept hs (fun e => by have := Option.some.inj e; omega) (fun i hi e => by have := Option.some.inj e; have := h.o4 i hi; omega), (h.gs'.kept hg (fun q hq => .inr (by have := (World.ownsRow.lt h.rows q hq).1; omega))).kept hs (fun q hq => by have := Option.some.inj hq; exact .inr (by omega)), hbel.setCell (by show w0.heap.size ≤ gv; omega) _, h.o1, h.o4, h.o2⟩
  have := h.b2'; have := hg.size
  omega
theorem K.InnerR.pushCol {w' : World} {v' : Value} {x : Int} (h : K.InnerR w0 w bo tb gv N ib F gsV rv cv Q gs R C b2) (ho : w'.ownsRow b2 3 1 v' (C.length + 1) (C.map (Value.int .i64) ++ [.int .i64 x])) (hg : w.grownBy w' cv.ownBlock) :
    K.InnerR w0 (w'.setCell ⟨gv, 1, none⟩ v') bo tb gv N ib F gsV rv v' Q gs R (C ++ [x]) b2 := by
  have h1 := h.o1; have h2 := h.o2; have h3 := h.b1; have h4 := h.o3
  have hne : ∀ b, b < b2 → cv.ownBlock ≠ some b := fun b hb e => by have := (World.ownsRow.lt h.cols b e).1; omega
  have hs := grown_set (w := w') gv 1 v'
  have ho' : RowI w' b2 v' (C ++ [x]) := by unfold RowI; rw [List.length_append, List.map_append]; exact ho
  have hv := row_grown h.var hg (hne _ (by omega))
  have hbel : Below w0.heap.size w0 w' := h.below.grown hg h.below.size (fun k hk => by have := (World.ownsRow.lt h.cols k hk).1; omega)
  have hrow : RowI w' (gv + 1) rv R := h.rows.kept hg (by
    cases hr : rv.ownBlock with
    | none => exact .inl rfl
    | some k => exact .inr fun e => hne k (h.und k hr) e.symm)
  refine ⟨(hv.set 1 v').congr (fun i hi => by
    by_cases e : i = 1
    · subst e; simp
    · have : i = 0 := by omega
      subst this; simp), hrow.kept hs (hrow.low (Nat.lt_succ_self _)), ho'.kept hs (ho'.low (by omega)), h.b1, ?_, h.und, row_grown (row_grown h.taken hg (hne _ (by omega))) hs (fun e => by have := Option.some.inj e; omega),
    (h.mat.kept hg (hne _ (by omega)) (fun i hi => hne _ (by have := h.o4 i hi; omega))).kept hs (fun e => by have := Option.some.inj e; omega) (fun i hi e => by have := Option.some.inj e; have := h.o4 i hi; omega), (h.gs'.kept hg (fun q hq => .inr (by have := (World.ownsRow.lt h.cols q hq).1; omega))).kept hs (fun q hq => by have := Option.some.inj hq; exact .inr (by omega)), hbel.setCell (by show w0.heap.size ≤ gv; omega) _, h.o1, h.o4, h.o2⟩
  have := h.b2'; have := hg.size; have := hs.size
  omega
theorem K.InnerR.rowStep {w' : World} {v' : Value} {x : Int} {R' : List Int} (h : K.InnerR w0 w bo tb gv N ib F gsV rv cv Q gs R C b2) (hc : cv = .slice none 0 0) (hC : C = []) (hR' : R' = R ++ [x]) (ho : w'.ownsRow (gv + 1) 3 1 v' (R.length + 1) (R.map (Value.int .i64) ++ [.int .i64 x])) (hg : w.grownBy w' rv.ownBlock) :
    ∃ g' cap', v' = .slice (some ⟨g', 0, none⟩) (R.length + 1) cap' ∧ w'.cell? ⟨gv, 0, none⟩ = some rv ∧ w'.frozen? ⟨gv, 0, none⟩ = false ∧
      Hid (K.InnerR w0 (w'.setCell ⟨gv, 0, none⟩ (.slice (some ⟨g', 0, none⟩) (R.length + 1) cap')) bo tb gv N ib F gsV (.slice (some ⟨g', 0, none⟩) (R.length + 1) cap') (.slice none 0 0) Q gs R' [] w'.heap.size) := by
  obtain ⟨g', cap', rfl⟩ := own_form ho
  subst hc; subst hC; subst hR'
  have hv := row_grown h.var hg (fun e => by have := (World.ownsRow.lt h.rows gv e).1; omega)
  exact ⟨g', cap', rfl, hv.cell (i := 0) (by omega), hv.frozen 0, hid (h.pushRow ho hg)⟩
theorem K.InnerR.colStep {w' : World} {v' : Value} {x : Int} {C' : List Int} (h : K.InnerR w0 w bo tb gv N ib F gsV rv cv Q gs R C b2) (hC' : C' = C ++ [x]) (ho : w'.ownsRow b2 3 1 v' (C.length + 1) (C.map (Value.int .i64) ++ [.int .i64 x])) (hg : w.grownBy w' cv.ownBlock) :
    ∃ g' cap', v' = .slice (some ⟨g', 0, none⟩) (C.length + 1) cap' ∧ w'.cell? ⟨gv, 1, none⟩ = some cv ∧ w'.frozen? ⟨gv, 1, none⟩ = false ∧
      Hid (K.InnerR w0 (w'.setCell ⟨gv, 1, none⟩ (.slice (some ⟨g', 0, none⟩) (C.length + 1) cap')) bo tb gv N ib F gsV rv (.slice (some ⟨g', 0, none⟩) (C.length + 1) cap') Q gs R C' b2) := by
  obtain ⟨g', cap', rfl⟩ := own_form ho
  subst hC'
  have h3 := h.b1
  have hv := row_grown h.var hg (fun e => by have := (World.ownsRow.lt h.cols gv e).1; omega)
  exact ⟨g', cap', rfl, hv.cell (i := 1) (by omega), hv.frozen 1, hid (h.pushCol ho hg)⟩
/-- A group that is gathered, behind the others. -/
theorem K.InnerR.finish {w' : World} {v' : Value} {vs : List (Value × Value)} (h : K.InnerR w0 w bo tb gv N ib F gsV rv cv Q gs R C b2) (h1 : vs.length = gs.length) (h2 : w.ownsRow (tb + 1) 94 2 gsV gs.length (vs.flatMap fun p => [p.1, p.2]))
    (h3 : ∀ k (h : k < gs.length) (h' : k < vs.length), RowI w (tb + 1) vs[k].1 gs[k].1 ∧ RowI w (tb + 1) vs[k].2 gs[k].2 ∧ Lower gv vs[k].1 ∧ Lower gv vs[k].2)
    (h4 : w'.ownsRow (tb + 1) 94 2 v' (gs.length + 1) ((vs.flatMap fun p => [p.1, p.2]) ++ [rv, cv])) (hg : w.grownBy w' gsV.ownBlock) :
    GsAtR w' (tb + 1) w'.heap.size v' (gs ++ [(R, C)]) ∧ w'.rowIs tb 4 N (fun j => .bool (Q j)) ∧ MatAt w' w0.heap.size bo N ib F ∧ Below w0.heap.size w0 w' ∧ tb < w'.heap.size := by
  have o1 := h.o1; have o2 := h.o2; have o3 := h.o3; have o4 := h.b1
  have hne : ∀ b, b ≤ tb → gsV.ownBlock ≠ some b := fun b hb e => by have := (World.ownsRow.lt h2 b e).1; omega
  have hp := row_grown h.taken hg (hne _ (Nat.le_refl _))
  exact ⟨GsAtR.push h1 h2 h3 (World.ownsRow.mono h.rows (by omega)) (World.ownsRow.mono h.cols (by omega)) (Nat.le_of_lt h.var.lt) h4 hg, hp, h.mat.kept hg (hne _ (by omega)) (fun i hi => hne _ (by have := h.o4 i hi; omega)),
    h.below.grown hg h.below.size (fun k hk => by have := (World.ownsRow.lt h2 k hk).1; omega), World.rowIs.lt hp⟩
/-- What no earlier place keeps together with has an empty beginning. -/
theorem K.rw_head {M : Nat → Nat → Bool} {m p : Nat} (h : K.grouped M p p = false) : ∀ j, j ≤ p → K.rw M m p j = [] ∧ K.cl M m p j = []
  | 0, _ => ⟨rfl, rfl⟩
  | j + 1, hj => by
    have ih := K.rw_head (m := m) h j (by omega)
    have hT : ¬ K.T M p j = true := fun ht => by
      unfold K.grouped at h
      have : ((List.range p).any fun q => K.T M q p) = true := List.any_eq_true.2 ⟨j, List.mem_range.2 (by omega), K.T_symm ht⟩
      rw [this] at h; cases h
    unfold K.rw K.cl
    rw [if_neg (fun h => hT h.2), if_neg (fun h => hT h.2)]
    exact ih
theorem K.mk_head {M : Nat → Nat → Bool} {N p : Nat} (h : K.grouped M p p = false) : K.mk M N p p = K.mk M N p 0 := by
  funext x
  unfold K.mk
  by_cases hx : x < p
  · have hT : K.T M p x = false := by
      cases ht : K.T M p x with
      | false => rfl
      | true =>
        unfold K.grouped at h
        have : ((List.range p).any fun q => K.T M q p) = true := List.any_eq_true.2 ⟨x, List.mem_range.2 hx, K.T_symm ht⟩
        rw [this] at h; cases h
    rw [hT]; simp
  · simp [hx]
end Go.Proofs.Ytmbfpekcfeeifaa
