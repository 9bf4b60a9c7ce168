/- Package rack: what a round of groupsOf keeps. -/
import Derived.Test.YtmbfpekcfeeifaaKGroup
import Derived.Deep.Onto
namespace Go.Proofs.Ytmbfpekcfeeifaa
open Go.RowKit

theorem K.drawn_bnd {M : Nat → Nat → Bool} (hM : K.Bnd M) {i j : Nat} (hi : i < 12) (hj : j < 12) (z : Int) : K.Bnd (K.drawn M i j z) := by
  have one : ∀ {M : Nat → Nat → Bool}, K.Bnd M → ∀ {i j}, i < 12 → j < 12 → K.Bnd (K.with M i j) := fun hM i j hi hj x y h => by
    unfold K.with at h
    split at h
    · rename_i e; rw [e.1, e.2]; exact ⟨hi, hj⟩
    · exact hM x y h
  unfold K.drawn
  split
  · exact one hM hj hi
  · split
    · exact one hM hi hj
    · exact one (one hM hi hj) hj hi
theorem K.leads_bnd {m n : Nat} (hm : m ≤ 6) (hn : n ≤ 6) {bs : List Br} (h : ∀ b ∈ bs, K.InB m n b) : K.Bnd (K.leads m bs) := by
  have : ∀ (bs : List Br) (M : Nat → Nat → Bool), (∀ b ∈ bs, K.InB m n b) → K.Bnd M → K.Bnd (bs.foldl (fun M b => K.drawn M b.1.toNat (m + b.2.1.toNat) b.2.2) M) := fun bs => by
    induction bs with
    | nil => intro M _ hM; exact hM
    | cons b bs ih =>
      intro M h hM
      rw [List.foldl_cons]
      obtain ⟨h1, h2, h3, h4⟩ := h b (List.mem_cons_self ..)
      exact ih _ (fun b hb => h b (List.mem_cons_of_mem _ hb)) (K.drawn_bnd hM (by omega) (by omega) _)
  exact this bs _ h (fun i j h => by cases h)

/-- What holds while a group is gathered. -/
structure K.Inner (w0 w : World) (g gb gv m n : Nat) (sl gsV rv cv : Value) (M : Nat → Nat → Bool) (Q : Nat → Bool) (gs : List (List Int × List Int)) (R C : List Int) (b2 : Nat) : Prop where
  var : w.rowIs gv 85 2 (fun i => if i = 0 then rv else cv)
  rows : RowI w (gv + 1) rv R
  cols : RowI w b2 cv C
  b1 : gv + 1 ≤ b2
  b2' : b2 ≤ w.heap.size
  und : Lower b2 rv
  pass : PassAt w gb Q
  arr : ArrAt w g m n sl M
  gs' : GsAt w (gb + 1) gv gsV gs
  below : Below w0.heap.size w0 w
  o1 : g < gb
  o2 : gb < gv
  o3 : w0.heap.size ≤ gb
variable {w0 w : World} {g gb gv m n : Nat} {sl gsV rv cv : Value} {M : Nat → Nat → Bool} {Q : Nat → Bool} {gs : List (List Int × List Int)} {R C : List Int} {b2 : Nat}
theorem K.Inner.grown {w' : World} (h : K.Inner w0 w g gb gv m n sl gsV rv cv M Q gs R C b2) (hb : Below w.heap.size w w') : K.Inner w0 w' g gb gv m n sl gsV rv cv M Q gs R C b2 := by
  have hg := grown_below hb
  have no : ∀ (b : Nat), (none : Option Nat) ≠ some b := fun b h => by cases h
  exact ⟨row_grown h.var hg (no _), h.rows.kept hg (Classical.em _), h.cols.kept hg (Classical.em _), h.b1, Nat.le_trans h.b2' hb.size, h.und, row_grown h.pass hg (no _), row_grown h.arr hg (no _),
    h.gs'.kept hg (fun q hq => by cases hq), h.below.trans (hb.mono h.below.size), h.o1, h.o2, h.o3⟩
theorem RowI.low {w : World} {lo : Nat} {v : Value} {xs : List Int} (h : RowI w lo v xs) {q : Nat} (hq : q < lo) : v.ownBlock = none ∨ v.ownBlock ≠ some q := by
  cases hv : v.ownBlock with
  | none => exact .inl rfl
  | some k => exact .inr fun e => by have e' : k = q := Option.some.inj e; have := (World.ownsRow.lt h k hv).1; omega
theorem K.Inner.mark (h : K.Inner w0 w g gb gv m n sl gsV rv cv M Q gs R C b2) (j : Nat) : K.Inner w0 (w.setCell ⟨gb, j, none⟩ (.bool true)) g gb gv m n sl gsV rv cv M (K.pass1 Q j) gs R C b2 := by
  have hg := grown_set (w := w) gb j (.bool true)
  have h1 := h.o1; have h2 := h.o2; have h3 := h.b1
  exact ⟨row_grown h.var hg (fun e => by cases e; omega), h.rows.kept hg (h.rows.low (by omega)), h.cols.kept hg (h.cols.low (by omega)), h.b1, Nat.le_trans h.b2' hg.size, h.und, h.pass.set j, row_grown h.arr hg (fun e => by cases e; omega),
    h.gs'.kept hg (fun q hq => by cases hq; exact .inl (Nat.lt_succ_self _)), h.below.setCell h.o3 _, h.o1, h.o2, h.o3⟩
theorem K.Inner.pushRow {w' : World} {v' : Value} {x : Int} (h : K.Inner w0 w g gb gv m n sl gsV rv (.slice none 0 0) M Q gs R [] b2) (ho : w'.ownsRow (gv + 1) 3 1 v' (R.length + 1) (R.map (Value.int .i64) ++ [.int .i64 x])) (hg : w.grownBy w' rv.ownBlock) :
    K.Inner w0 (w'.setCell ⟨gv, 0, none⟩ v') g gb gv m n sl gsV v' (.slice none 0 0) M Q gs (R ++ [x]) [] w'.heap.size := by
  have h1 := h.o1; have h2 := h.o2; have h3 := h.b1; have h4 := h.o3
  have hne : ∀ b, b ≤ gv → rv.ownBlock ≠ some b := fun b hb e => by have := (World.ownsRow.lt h.rows b e).1; omega
  have hs := grown_set (w := w') gv 0 v'
  have ho' : RowI w' (gv + 1) v' (R ++ [x]) := by unfold RowI; rw [List.length_append, List.map_append]; exact ho
  have hv := row_grown h.var hg (hne _ (Nat.le_refl _))
  have hbel : Below w0.heap.size w0 w' := h.below.grown hg h.below.size (fun k hk => by have := (World.ownsRow.lt h.rows k hk).1; omega)
  refine ⟨(hv.set 0 v').congr (fun i _ => by by_cases e : i = 0 <;> simp [e]), ho'.kept hs (ho'.low (Nat.lt_succ_self _)), World.ownsRow_nil _ _ _ _, ?_, hs.size, ho'.low0, row_grown (row_grown h.pass hg (hne _ (by omega))) hs (fun e => by cases e; omega),
    row_grown (row_grown h.arr hg (hne _ (by omega))) hs (fun e => by cases e; omega), (h.gs'.kept hg (fun q hq => .inr (by have := (World.ownsRow.lt h.rows q hq).1; omega))).kept hs (fun q hq => by cases hq; exact .inr (Nat.le_refl _)), hbel.setCell (by show w0.heap.size ≤ gv; omega) _, h1, h2, h4⟩
  have := h.b2'; have := hg.size
  omega
theorem K.Inner.pushCol {w' : World} {v' : Value} {x : Int} (h : K.Inner w0 w g gb gv m n sl gsV rv cv M Q gs R C b2) (ho : w'.ownsRow b2 3 1 v' (C.length + 1) (C.map (Value.int .i64) ++ [.int .i64 x])) (hg : w.grownBy w' cv.ownBlock) :
    K.Inner w0 (w'.setCell ⟨gv, 1, none⟩ v') g gb gv m n sl gsV rv v' M Q gs R (C ++ [x]) b2 := by
  have h1 := h.o1; have h2 := h.o2; have h3 := h.b1; have h4 := h.o3
  have hne : ∀ b, b < b2 → cv.ownBlock ≠ some b := fun b hb e => by have := (World.ownsRow.lt h.cols b e).1; omega
  have hs := grown_set (w := w') gv 1 v'
  have ho' : RowI w' b2 v' (C ++ [x]) := by unfold RowI; rw [List.length_append, List.map_append]; exact ho
  have hv := row_grown h.var hg (hne _ (by omega))
  have hbel : Below w0.heap.size w0 w' := h.below.grown hg h.below.size (fun k hk => by have := (World.ownsRow.lt h.cols k hk).1; omega)
  have hrow : RowI w' (gv + 1) rv R := h.rows.kept hg (by
    cases hr : rv.ownBlock with
    | none => exact .inl rfl
    | some k => exact .inr fun e => hne k (h.und k hr) e.symm)
  refine ⟨(hv.set 1 v').congr (fun i hi => by
    by_cases e : i = 1
    · subst e; simp
    · have : i = 0 := by omega
      subst this; simp), hrow.kept hs (hrow.low (Nat.lt_succ_self _)), ho'.kept hs (ho'.low (by omega)), h.b1, ?_, h.und, row_grown (row_grown h.pass hg (hne _ (by omega))) hs (fun e => by cases e; omega),
    row_grown (row_grown h.arr hg (hne _ (by omega))) hs (fun e => by cases e; omega), (h.gs'.kept hg (fun q hq => .inr (by have := (World.ownsRow.lt h.cols q hq).1; omega))).kept hs (fun q hq => by cases hq; exact .inr (Nat.le_refl _)), hbel.setCell (by show w0.heap.size ≤ gv; omega) _, h1, h2, h4⟩
  have := h.b2'; have := hg.size; have := hs.size
  omega
theorem own_form {w : World} {base : Nat} {e : TypeId} {size : Nat} {v : Value} {k : Nat} {xs : List Value} (h : w.ownsRow base e size v (k + 1) xs) : ∃ g cap, v = .slice (some ⟨g, 0, none⟩) (k + 1) cap := by
  rcases h.2 with ⟨_, h2⟩ | ⟨g, cap, cur, rfl, _⟩
  · omega
  · exact ⟨g, cap, rfl⟩
theorem K.Inner.rowStep {w' : World} {v' : Value} {x : Int} {R' : List Int} (h : K.Inner w0 w g gb gv m n sl gsV rv cv M Q gs R C b2) (hc : cv = .slice none 0 0) (hC : C = []) (hR' : R' = R ++ [x]) (ho : w'.ownsRow (gv + 1) 3 1 v' (R.length + 1) (R.map (Value.int .i64) ++ [.int .i64 x])) (hg : w.grownBy w' rv.ownBlock) :
    ∃ g' cap', v' = .slice (some ⟨g', 0, none⟩) (R.length + 1) cap' ∧ w'.cell? ⟨gv, 0, none⟩ = some rv ∧ w'.frozen? ⟨gv, 0, none⟩ = false ∧
      Hid (K.Inner w0 (w'.setCell ⟨gv, 0, none⟩ (.slice (some ⟨g', 0, none⟩) (R.length + 1) cap')) g gb gv m n sl gsV (.slice (some ⟨g', 0, none⟩) (R.length + 1) cap') (.slice none 0 0) M Q gs R' [] w'.heap.size) := by
  obtain ⟨g', cap', rfl⟩ := own_form ho
  subst hc; subst hC; subst hR'
  have hv := row_grown h.var hg (fun e => by have := (World.ownsRow.lt h.rows gv e).1; omega)
  exact ⟨g', cap', rfl, hv.cell (i := 0) (by omega), hv.frozen 0, hid (h.pushRow ho hg)⟩
theorem K.Inner.colStep {w' : World} {v' : Value} {x : Int} {C' : List Int} (h : K.Inner w0 w g gb gv m n sl gsV rv cv M Q gs R C b2) (hC' : C' = C ++ [x]) (ho : w'.ownsRow b2 3 1 v' (C.length + 1) (C.map (Value.int .i64) ++ [.int .i64 x])) (hg : w.grownBy w' cv.ownBlock) :
    ∃ g' cap', v' = .slice (some ⟨g', 0, none⟩) (C.length + 1) cap' ∧ w'.cell? ⟨gv, 1, none⟩ = some cv ∧ w'.frozen? ⟨gv, 1, none⟩ = false ∧ w'.cell? ⟨g, 0, none⟩ = some (.int .i64 m) ∧
      Hid (K.Inner w0 (w'.setCell ⟨gv, 1, none⟩ (.slice (some ⟨g', 0, none⟩) (C.length + 1) cap')) g gb gv m n sl gsV rv (.slice (some ⟨g', 0, none⟩) (C.length + 1) cap') M Q gs R C' b2) := by
  obtain ⟨g', cap', rfl⟩ := own_form ho
  subst hC'
  have h3 := h.b1
  have hv := row_grown h.var hg (fun e => by have := (World.ownsRow.lt h.cols gv e).1; omega)
  have h1 := h.o1; have h2 := h.o2
  have ha : ArrAt w' g m n sl M := row_grown h.arr hg (fun e => by have := (World.ownsRow.lt h.cols g e).1; omega)
  exact ⟨g', cap', rfl, hv.cell (i := 1) (by omega), hv.frozen 1, ha.rows, hid (h.pushCol ho hg)⟩
/-- A group that is gathered, behind the others. -/
theorem K.Inner.finish {w' : World} {v' : Value} {vs : List (Value × Value)} (h : K.Inner w0 w g gb gv m n sl gsV rv cv M Q gs R C b2) (h1 : vs.length = gs.length) (h2 : w.ownsRow (gb + 1) 85 2 gsV gs.length (vs.flatMap fun p => [p.1, p.2]))
    (h3 : ∀ k (h : k < gs.length) (h' : k < vs.length), RowI w (gb + 1) vs[k].1 gs[k].1 ∧ RowI w (gb + 1) vs[k].2 gs[k].2 ∧ Lower gv vs[k].1 ∧ Lower gv vs[k].2)
    (h4 : w'.ownsRow (gb + 1) 85 2 v' (gs.length + 1) ((vs.flatMap fun p => [p.1, p.2]) ++ [rv, cv])) (hg : w.grownBy w' gsV.ownBlock) :
    GsAt w' (gb + 1) w'.heap.size v' (gs ++ [(R, C)]) ∧ PassAt w' gb Q ∧ ArrAt w' g m n sl M ∧ Below w0.heap.size w0 w' ∧ gb < w'.heap.size := by
  have o1 := h.o1; have o2 := h.o2; have o3 := h.o3; have o4 := h.b1
  have hne : ∀ b, b ≤ gb → gsV.ownBlock ≠ some b := fun b hb e => by have := (World.ownsRow.lt h2 b e).1; omega
  have hp : PassAt w' gb Q := row_grown h.pass hg (hne _ (Nat.le_refl _))
  exact ⟨GsAt.push h1 h2 h3 (World.ownsRow.mono h.rows (by omega)) (World.ownsRow.mono h.cols (by omega)) (Nat.le_of_lt h.var.lt) h4 hg, hp, row_grown h.arr hg (hne _ (by omega)),
    h.below.grown hg h.below.size (fun k hk => by have := (World.ownsRow.lt h2 k hk).1; omega), World.rowIs.lt hp⟩
end Go.Proofs.Ytmbfpekcfeeifaa
