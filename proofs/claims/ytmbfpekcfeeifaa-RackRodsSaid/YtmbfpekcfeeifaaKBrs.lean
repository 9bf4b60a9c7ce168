/- Braces in a row of one's own; a rack in a variable. -/
import Derived.Test.YtmbfpekcfeeifaaKGroupsOf
namespace Go.Proofs.Ytmbfpekcfeeifaa
open Go.RowKit

theorem step_append_n {P : Program} {ops : Array Oper} {o : Oper} {a : Act} {w : World} {K : Act → World → Prop} {Q : Exit → Act → World → Prop} {E : Prop} (hgd : o.guard = none) (s x : Operand) (t : TypeId)
    (ho : o.op = .call { callee := .builtin .append, args := #[s, x], argTypes := #[t, t] })
    (e : TypeId) (i : TypeInfo) (z : Value) (size : Nat) (ht : P.underlying t = some (.slice e)) (hi : P.info? e = some i) (hz : i.zero = some z) (hsize : i.size = size) (hby : i.bytes ≤ 48) (hzs : z.cells.size = size) (hpos : 0 < size)
    (base : Nat) (v : Value) (n : Nat) (xs : List Value) (hs : a.eval s = v) (ad : Addr) (m c : Nat) (news : List Value) (hx : a.eval x = .slice (some ad) m c)
    (hf : w.ownsRow base e size v n xs ∧ news.length = m * size ∧ (∀ j u, news[j]? = some u → w.cell? (ad.add j) = some u) ∧ (∀ u ∈ news, u.oneCell' = true) ∧ n + m ≤ 1000 ∧ base ≤ w.heap.size)
    (h : ∀ v' w', w'.ownsRow base e size v' (n + m) (xs ++ news) → w.grownBy w' v.ownBlock → (v'.ownBlock = v.ownBlock ∨ v'.ownBlock = some w.heap.size) → K (a.put o.dst v') w') :
    if Region.wanted o (yielded ops a.tmps) = true then Oper.wp P o a w K Q else E := by
  have hw : Region.wanted o (yielded ops a.tmps) = true := by simp [Region.wanted, hgd]
  rw [if_pos hw]
  obtain ⟨f1, f2, f3, f4, f5, f6⟩ := hf
  obtain ⟨v', w', hr, h2, h3, _, h5⟩ := run_append_own_at (P := P) w base t o.type e i z size i.bytes ht hi hz hsize rfl hzs hpos v n xs f1 ad m c news f2 f3 f4 (by unfold maxLen; omega)
    (by have : (n + m) * i.bytes ≤ 1000 * 48 := Nat.mul_le_mul f5 hby; omega) f6
  unfold Oper.wp execOp
  simp only [ho, resolve, invoke, builtin, Sem.run_bind, Sem.run_pure, Result.andThen_ok, List.map_toArray, List.map_cons, List.map_nil, hs, hx, hr]
  exact h v' w' h2 h3 h5

/-- The cells of braces. -/
def brCells (bs : List Br) : List Value := bs.flatMap fun b => [.int .i64 b.1, .int .i64 b.2.1, .int .i64 b.2.2]
theorem brCells_get : ∀ (bs : List Br) (k : Nat) (h : k < bs.length), (brCells bs)[k * 3]? = some (.int .i64 bs[k].1) ∧ (brCells bs)[k * 3 + 1]? = some (.int .i64 bs[k].2.1) ∧ (brCells bs)[k * 3 + 2]? = some (.int .i64 bs[k].2.2)
  | [], _, h => absurd h (Nat.not_lt_zero _)
  | _ :: _, 0, _ => ⟨rfl, rfl, rfl⟩
  | _ :: bs, k + 1, h => by
    have := brCells_get bs k (by simpa using h)
    rw [Nat.succ_mul]
    exact this
theorem brCells_snoc (bs : List Br) (b : Br) : brCells (bs ++ [b]) = brCells bs ++ [.int .i64 b.1, .int .i64 b.2.1, .int .i64 b.2.2] := by simp [brCells]
/-- Braces in a row of one's own. -/
def RowB (w : World) (lo : Nat) (v : Value) (bs : List Br) : Prop := w.ownsRow lo 63 3 v bs.length (brCells bs)
theorem RowB.rd {w : World} {lo : Nat} {v : Value} {bs : List Br} (h : RowB w lo v bs) : ∃ a cap, v = .slice a bs.length cap ∧ RdB w a bs := by
  rcases h.2 with ⟨rfl, h2⟩ | ⟨g, cap, cur, rfl, _⟩
  · exact ⟨none, 0, by rw [h2], fun k hk => by omega⟩
  · refine ⟨_, cap, rfl, fun k hk => ⟨g, 0, rfl, ?_, ?_, ?_⟩⟩
    · rw [World.ownsRow.cellAt h _ (by omega)]; simpa using (brCells_get bs k hk).1
    · rw [World.ownsRow.cellAt h _ (by omega)]; simpa using (brCells_get bs k hk).2.1
    · rw [World.ownsRow.cellAt h _ (by omega)]; simpa using (brCells_get bs k hk).2.2
theorem RowB.nil (w : World) (lo : Nat) : RowB w lo (.slice none 0 0) [] := World.ownsRow_nil _ _ _ _
theorem RowB.lt {w : World} {lo q : Nat} {v : Value} {bs : List Br} (h : RowB w lo v bs) (hq : v.ownBlock = some q) : lo ≤ q := (World.ownsRow.lt h q hq).1

/-- The cells of a rack. -/
def K.rkF (m n : Int) (bv : Value) (i : Nat) : Value := if i = 0 then .int .i64 m else if i = 1 then .int .i64 n else bv
/-- A rack in a variable of one's own, with braces in a row of one's own. -/
structure K.RV (w0 w : World) (gv : Nat) (m n : Int) (bv : Value) (bs : List Br) : Prop where
  var : w.rowIs gv 24 3 (K.rkF m n bv)
  row : RowB w (gv + 1) bv bs
  below : Below w0.heap.size w0 w
  o : w0.heap.size ≤ gv
variable {w0 w : World} {gv : Nat} {m n : Int} {bv : Value} {bs : List Br}
theorem K.RV.c0 (h : K.RV w0 w gv m n bv bs) : w.cell? ⟨gv, 0, none⟩ = some (.int .i64 m) := h.var.cell (i := 0) (by omega)
theorem K.RV.c1 (h : K.RV w0 w gv m n bv bs) : w.cell? ⟨gv, 1, none⟩ = some (.int .i64 n) := h.var.cell (i := 1) (by omega)
theorem K.RV.c2 (h : K.RV w0 w gv m n bv bs) : w.cell? ⟨gv, 2, none⟩ = some bv := h.var.cell (i := 2) (by omega)
theorem K.RV.start {W : World} (hb : Below w0.heap.size w0 W) : K.RV w0 (W.alloc (.cells #[.int .i64 m, .int .i64 n, .slice none 0 0] 24)) W.heap.size m n (.slice none 0 0) [] :=
  ⟨World.rowIs_alloc W #[.int .i64 m, .int .i64 n, .slice none 0 0] 24 _ (fun i hi => by
    have h : i < 3 := hi
    have h2 : i = 0 ∨ i = 1 ∨ i = 2 := by omega
    rcases h2 with rfl | rfl | rfl <;> rfl), RowB.nil _ _, hb.alloc hb.size _, hb.size⟩
theorem K.RV.grown {w' : World} (h : K.RV w0 w gv m n bv bs) (hb : Below w.heap.size w w') : K.RV w0 w' gv m n bv bs :=
  ⟨row_grown h.var (grown_below hb) (fun e => by cases e), World.ownsRow.kept h.row (grown_below hb) (Classical.em _), h.below.trans (hb.mono h.below.size), h.o⟩
theorem K.RV.push {w' : World} {v' : Value} {b : Br} {bs' : List Br} (h : K.RV w0 w gv m n bv bs) (hB : bs' = bs ++ [b]) (ho : w'.ownsRow (gv + 1) 63 3 v' (bs.length + 1) (brCells bs ++ [.int .i64 b.1, .int .i64 b.2.1, .int .i64 b.2.2])) (hg : w.grownBy w' bv.ownBlock) :
    ∃ g' cap', v' = .slice (some ⟨g', 0, none⟩) (bs.length + 1) cap' ∧ w'.cell? ⟨gv, 2, none⟩ = some bv ∧ w'.frozen? ⟨gv, 2, none⟩ = false ∧ w'.cell? ⟨gv, 1, none⟩ = some (.int .i64 n) ∧
      Hid (K.RV w0 (w'.setCell ⟨gv, 2, none⟩ (.slice (some ⟨g', 0, none⟩) (bs.length + 1) cap')) gv m n (.slice (some ⟨g', 0, none⟩) (bs.length + 1) cap') bs') := by
  obtain ⟨g', cap', rfl⟩ := own_form ho
  subst hB
  have hv := row_grown h.var hg (fun e => by have := h.row.lt e; omega)
  have hs := grown_set (w := w') gv 2 (.slice (some ⟨g', 0, none⟩) (bs.length + 1) cap')
  have ho' : RowB w' (gv + 1) (.slice (some ⟨g', 0, none⟩) (bs.length + 1) cap') (bs ++ [b]) := by unfold RowB; rw [List.length_append, brCells_snoc]; exact ho
  have hbel : Below w0.heap.size w0 w' := h.below.grown hg h.below.size (fun k hk => by have := h.row.lt hk; have := h.o; omega)
  have hl := ho'.lt (q := g') rfl
  refine ⟨g', cap', rfl, hv.cell (i := 2) (by omega), hv.frozen 2, hv.cell (i := 1) (by omega), hid ⟨(hv.set 2 _).congr (fun i _ => ?_), World.ownsRow.kept ho' hs (.inr (fun e => by simp only [Value.ownBlock, Option.some.injEq] at e; omega)), hbel.setCell h.o _, h.o⟩⟩
  unfold K.rkF
  by_cases e : i = 2
  · subst e; simp
  · by_cases e0 : i = 0
    · subst e0; simp
    · by_cases e1 : i = 1
      · subst e1; simp
      · rename_i hi; omega
end Go.Proofs.Ytmbfpekcfeeifaa
