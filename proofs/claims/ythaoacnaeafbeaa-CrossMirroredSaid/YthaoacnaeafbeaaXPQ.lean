/- Two rows of the call's own that grow beside each other; lists of pairs. -/
import Derived.Test.YthaoacnaeafbeaaXRef
import Derived.OwnWalk
import Derived.Deep.OwnRows
import Derived.BigRegion
import Derived.RegionTactic
import Derived.Deep.RegionHeld3
namespace Go.Proofs.Ythaoacnaeafbeaa
open Go.RowKit

/-- Two rows of one's own, of two types. -/
structure X.Q2 (base : Nat) (t1 t2 : TypeId) (s1 s2 : Nat) (W : World) (v : Value) (n : Nat) (xs : List Value) (u : Value) (m : Nat) (ys : List Value) : Prop where
  p : W.ownsRow base t1 s1 v n xs
  q : W.ownsRow base t2 s2 u m ys
section
variable {base : Nat} {t1 t2 : TypeId} {s1 s2 : Nat} {W W2 : World} {v u v' : Value} {n m n' : Nat} {xs ys xs' : List Value}
theorem X.own_apart (ht : t1 ≠ t2) (h1 : W.ownsRow base t1 s1 v n xs) (h2 : W.ownsRow base t2 s2 u m ys) : v.ownBlock = none ∨ v.ownBlock ≠ u.ownBlock := by
  rcases h1.2 with ⟨rfl, _⟩ | ⟨g, cap, cur, rfl, _, hg, _⟩
  · exact .inl rfl
  · right
    rcases h2.2 with ⟨rfl, _⟩ | ⟨g', cap', cur', rfl, _, hg', _⟩
    · simp [Value.ownBlock]
    · intro e
      simp [Value.ownBlock] at e
      subst e
      rw [hg] at hg'
      simp at hg'
      exact ht hg'.2
theorem X.Q2.alloc (h : X.Q2 base t1 t2 s1 s2 W v n xs u m ys) (o : Obj) : X.Q2 base t1 t2 s1 s2 (W.alloc o) v n xs u m ys := ⟨h.p.alloc o, h.q.alloc o⟩
theorem X.Q2.drew (h : X.Q2 base t1 t2 s1 s2 W v n xs u m ys) : X.Q2 base t1 t2 s1 s2 W.drew v n xs u m ys := ⟨h.p, h.q⟩
theorem X.Q2.push1 (ht : t1 ≠ t2) (h : X.Q2 base t1 t2 s1 s2 W v n xs u m ys) (ho : W2.ownsRow base t1 s1 v' n' xs') (hg : W.grownBy W2 v.ownBlock) : X.Q2 base t1 t2 s1 s2 W2 v' n' xs' u m ys :=
  ⟨ho, h.q.kept hg (X.own_apart (fun e => ht e.symm) h.q h.p)⟩
theorem X.Q2.push2 (ht : t1 ≠ t2) (h : X.Q2 base t1 t2 s1 s2 W v n xs u m ys) (ho : W2.ownsRow base t2 s2 v' n' xs') (hg : W.grownBy W2 u.ownBlock) : X.Q2 base t1 t2 s1 s2 W2 v n xs v' n' xs' :=
  ⟨h.p.kept hg (X.own_apart ht h.p h.q), ho⟩
theorem X.Q2.stays (h : X.Q2 base t1 t2 s1 s2 W v n xs u m ys) (hb : Below W.heap.size W W2) : X.Q2 base t1 t2 s1 s2 W2 v n xs u m ys :=
  have hg : W.grownBy W2 none := ⟨hb.os, hb.tape, hb.output, hb.size, fun k hk _ => hb.block k hk⟩
  ⟨h.p.kept hg (Classical.em _), h.q.kept hg (Classical.em _)⟩
end
/-- A literal lies in a block. -/
def X.Lit (W : World) (B : Nat) (cs : List Value) : Prop := ∀ j u, cs[j]? = some u → W.cell? ((⟨B, 0, none⟩ : Addr).add j) = some u
theorem X.Lit.two (W : World) (u v : Value) (t : TypeId) : X.Lit (W.alloc (.cells #[u, v] t)) W.heap.size [u, v] := by
  intro j x hj
  match j, hj with
  | 0, hj => simp at hj; subst hj; simp [Addr.add]
  | 1, hj => simp at hj; subst hj; simp [Addr.add]
theorem X.Lit.one (W : World) (u : Value) (t : TypeId) : X.Lit (W.alloc (.cells #[u] t)) W.heap.size [u] := by
  intro j x hj
  match j, hj with
  | 0, hj => simp at hj; subst hj; simp [Addr.add]
theorem X.Lit.two' (W : World) (u v : Value) (t : TypeId) (n : Nat) (hn : W.heap.size = n) : X.Lit (W.alloc (.cells #[u, v] t)) n [u, v] := hn ▸ X.Lit.two W u v t
theorem X.Lit.one' (W : World) (u : Value) (t : TypeId) (n : Nat) (hn : W.heap.size = n) : X.Lit (W.alloc (.cells #[u] t)) n [u] := hn ▸ X.Lit.one W u t
theorem X.Lit.drew {W : World} {B : Nat} {cs : List Value} (h : X.Lit W B cs) : X.Lit W.drew B cs := h
theorem X.Lit.alloc {W : World} {B : Nat} {cs : List Value} (h : X.Lit W B cs) (o : Obj) : X.Lit (W.alloc o) B cs := fun j u hj =>
  cell_stays ((Below.refl _ _).alloc (Nat.le_refl _) _) (Nat.le_refl _) (h j u hj)
theorem X.Lit.kept {W W2 : World} {B : Nat} {cs : List Value} {row : Option Nat} (h : X.Lit W B cs) (hg : W.grownBy W2 row) (hr : ∀ g, row = some g → g < B) : X.Lit W2 B cs := fun j u hj =>
  hg.cell (h j u hj) (fun e => Nat.lt_irrefl _ (hr B (by rw [← e]; unfold Addr.add; split <;> rfl)))

theorem X.step_append {P : Program} {w : World} {ops : Array Oper} {o : Oper} {a : Act} {K : Act → World → Prop} {Q : Exit → Act → World → Prop} {E : Prop} (hgd : o.guard = none) (s x : Operand) (t : TypeId)
    (ho : o.op = .call { callee := .builtin .append, args := #[s, x], argTypes := #[t, t] })
    (base : Nat) (e : TypeId) (i : TypeInfo) (z : Value) (size bytes : Nat) (ht : P.underlying t = some (.slice e)) (hi : P.info? e = some i) (hz : i.zero = some z)
    (hsize : i.size = size) (hby : i.bytes = bytes) (hzs : z.cells.size = size) (hsz : 0 < size)
    (v : Value) (n : Nat) (xs : List Value) (hs : a.eval s = v) (hown : w.ownsRow base e size v n xs)
    (B m c : Nat) (news : List Value) (hx : a.eval x = .slice (some ⟨B, 0, none⟩) m c) (hl : news.length = m * size) (hnews : X.Lit w B news) (h1 : ∀ u ∈ news, u.oneCell' = true)
    (h63 : n + m ≤ maxLen) (hbytes : (n + m) * bytes ≤ 140737488355328) (hbase : base ≤ w.heap.size)
    (h : ∀ v' w', w'.ownsRow base e size v' (n + m) (xs ++ news) → w.grownBy w' v.ownBlock → K (a.put o.dst v') w') :
    if Region.wanted o (yielded ops a.tmps) = true then Oper.wp P o a w K Q else E := by
  have hw : Region.wanted o (yielded ops a.tmps) = true := by simp [Region.wanted, hgd]
  rw [if_pos hw]
  exact wp_append_own w s x t ho base e i z size bytes ht hi hz hsize hby hzs hsz v n xs hs hown _ m c news hx hl hnews h1 h63 hbytes hbase fun v' w' h2 h3 _ => h v' w' h2 h3

theorem X.one2 (p q : Int) : ∀ u ∈ [Value.int .i64 p, Value.int .i64 q], u.oneCell' = true := by
  intro u hu
  simp at hu
  rcases hu with rfl | rfl <;> rfl
theorem X.one1 (p : Int) : ∀ u ∈ [Value.int .i64 p], u.oneCell' = true := by
  intro u hu
  simp at hu
  rcases hu with rfl; rfl
/-- The cells of pairs. -/
def X.pc (ps : List (Nat × Nat)) : List Value := ps.flatMap fun p => [.int .i64 (p.1 : Nat), .int .i64 (p.2 : Nat)]
theorem X.pc_len (ps : List (Nat × Nat)) : (X.pc ps).length = ps.length * 2 := by
  induction ps with
  | nil => rfl
  | cons x xs ih => simp [X.pc] at *; omega
theorem X.pc_get (ps : List (Nat × Nat)) : ∀ k (h : k < ps.length), (X.pc ps)[k * 2]? = some (.int .i64 (ps[k].1 : Nat)) ∧ (X.pc ps)[k * 2 + 1]? = some (.int .i64 (ps[k].2 : Nat)) := by
  induction ps with
  | nil => intro k h; exact absurd h (Nat.not_lt_zero _)
  | cons x xs ih =>
    intro k h
    cases k with
    | zero => exact ⟨rfl, rfl⟩
    | succ k =>
      have := ih k (by simpa using h)
      rw [Nat.succ_mul]
      exact this
theorem X.pc_snoc (ps : List (Nat × Nat)) (p : Nat × Nat) : X.pc (ps ++ [p]) = X.pc ps ++ [.int .i64 (p.1 : Nat), .int .i64 (p.2 : Nat)] := by simp [X.pc]
/-- The slice with this address reads as these pairs. -/
def X.RdQ (w : World) (a : Option Addr) (ps : List (Nat × Nat)) : Prop :=
  ∀ k (h : k < ps.length), ∃ b off, a = some ⟨b, off, none⟩ ∧ w.cell? ⟨b, off + k * 2, none⟩ = some (.int .i64 (ps[k].1 : Nat)) ∧ w.cell? ⟨b, off + k * 2 + 1, none⟩ = some (.int .i64 (ps[k].2 : Nat))
theorem X.RdQ.stays {w w' : World} {a : Option Addr} {ps : List (Nat × Nat)} (h : X.RdQ w a ps) (hb : Below w.heap.size w w') : X.RdQ w' a ps := fun k hk => by
  obtain ⟨b, off, ha, h1, h2⟩ := h k hk
  exact ⟨b, off, ha, cell_stays hb (Nat.le_refl _) h1, cell_stays hb (Nat.le_refl _) h2⟩
theorem X.RdQ.of_row {w : World} {base : Nat} {e : TypeId} {v : Value} {n : Nat} {ps : List (Nat × Nat)} (h : w.ownsRow base e 2 v n (X.pc ps)) :
    ∃ a cap, v = .slice a ps.length cap ∧ X.RdQ w a ps := by
  have hl : ps.length = n := by have := h.1; rw [X.pc_len] at this; omega
  subst hl
  rcases h.2 with ⟨rfl, h2⟩ | ⟨g, cap, cur, rfl, _⟩
  · exact ⟨none, 0, by rw [h2], fun k hk => by omega⟩
  · refine ⟨_, cap, rfl, fun k hk => ⟨g, 0, rfl, ?_, ?_⟩⟩
    · rw [World.ownsRow.cellAt h _ (by omega)]
      simpa using (X.pc_get ps k hk).1
    · rw [World.ownsRow.cellAt h _ (by omega)]
      simpa using (X.pc_get ps k hk).2
/-- The numbers of pairs. -/
def X.ds (D : Nat × Nat → Nat) (ps : List (Nat × Nat)) : List Int := ps.map fun p => (D p : Int)
def X.dc (D : Nat × Nat → Nat) (ps : List (Nat × Nat)) : List Value := (X.ds D ps).map (Value.int .i64)
theorem X.dc_snoc (D : Nat × Nat → Nat) (ps : List (Nat × Nat)) (p : Nat × Nat) : X.dc D (ps ++ [p]) = X.dc D ps ++ [.int .i64 (D p : Nat)] := by simp [X.dc, X.ds]
theorem X.rd_row {w : World} {base : Nat} {e : TypeId} {v : Value} {n : Nat} {xs : List Int} (h : w.ownsRow base e 1 v n (xs.map (Value.int .i64))) :
    ∃ a cap, v = .slice a xs.length cap ∧ RdI w a xs := by
  have hl : xs.length = n := by have := h.1; simp at this; omega
  subst hl
  rcases h.2 with ⟨rfl, h2⟩ | ⟨g, cap, cur, rfl, _⟩
  · exact ⟨none, 0, by rw [h2], fun k hk => by omega⟩
  · refine ⟨_, cap, rfl, fun k hk => ⟨g, 0, rfl, ?_⟩⟩
    have := World.ownsRow.cellAt h k (by omega)
    rw [Nat.zero_add, this]
    simp [hk]

/-- Two cells that stay. -/
abbrev X.C2 (p q : Addr) (x y : Value) (W : World) : Prop := W.cell? p = some x ∧ W.cell? q = some y
theorem X.C2.alloc {p q : Addr} {x y : Value} {W : World} (h : X.C2 p q x y W) (o : Obj) : X.C2 p q x y (W.alloc o) :=
  ⟨cell_stays ((Below.refl _ _).alloc (Nat.le_refl _) _) (Nat.le_refl _) h.1, cell_stays ((Below.refl _ _).alloc (Nat.le_refl _) _) (Nat.le_refl _) h.2⟩
theorem X.C2.drew {p q : Addr} {x y : Value} {W : World} (h : X.C2 p q x y W) : X.C2 p q x y W.drew := h
theorem X.C2.kept {p q : Addr} {x y : Value} {W W2 : World} {B : Nat} {row : Option Nat} (h : X.C2 p q x y W) (hg : W.grownBy W2 row) (hr : ∀ g, row = some g → B ≤ g) (hp : p.block < B) (hq : q.block < B) : X.C2 p q x y W2 :=
  ⟨hg.cell h.1 (fun e => by have := hr _ e.symm; omega), hg.cell h.2 (fun e => by have := hr _ e.symm; omega)⟩
/-- Pairs with first i, second below k; all pairs with first below i. -/
def X.sg (ok : Nat → Nat → Bool) (i k : Nat) : List (Nat × Nat) := ((List.range k).filter (ok i)).map fun k => (i, k)
def X.fr (ok : Nat → Nat → Bool) (n i : Nat) : List (Nat × Nat) := (List.range i).flatMap fun j => X.sg ok j n
theorem X.sg_yes {ok : Nat → Nat → Bool} {i k : Nat} (h : ok i k = true) : X.sg ok i (k + 1) = X.sg ok i k ++ [(i, k)] := by
  unfold X.sg
  rw [List.range_succ, List.filter_append, List.map_append, List.filter_cons, if_pos h]; rfl
theorem X.sg_no {ok : Nat → Nat → Bool} {i k : Nat} (h : ok i k = false) : X.sg ok i (k + 1) = X.sg ok i k := by
  unfold X.sg
  rw [List.range_succ, List.filter_append, List.map_append, List.filter_cons, if_neg (by rw [h]; simp)]; simp
theorem X.sg_low (i : Nat) : X.sg X.up i (i + 1) = [] := by
  unfold X.sg
  rw [List.filter_eq_nil_iff.2]
  · rfl
  · intro k hk
    have := List.mem_range.1 hk
    unfold X.up; simp; omega
theorem X.fr_succ (ok : Nat → Nat → Bool) (n i : Nat) : X.fr ok n (i + 1) = X.fr ok n i ++ X.sg ok i n := by
  unfold X.fr
  rw [List.range_succ, List.flatMap_append]; simp
theorem X.seg_eq {ok : Nat → Nat → Bool} {n i : Nat} : ∀ f k, X.seg ok n i f k = ((List.range' k f).filter (ok i)).map fun k => (i, k)
  | 0, _ => rfl
  | f + 1, k => by
    unfold X.seg
    rw [List.range'_succ, List.filter_cons, X.seg_eq f (k + 1)]
    by_cases h : ok i k = true
    · rw [if_pos h, if_pos h]; rfl
    · rw [if_neg h, if_neg h]
theorem X.from_eq {ok : Nat → Nat → Bool} {n : Nat} : ∀ f i, X.from ok n f i = (List.range' i f).flatMap fun j => X.sg ok j n
  | 0, _ => rfl
  | f + 1, i => by
    unfold X.from
    rw [List.range'_succ, List.flatMap_cons, X.from_eq f (i + 1), X.seg_eq]
    unfold X.sg
    rw [List.range_eq_range']
theorem X.fr_from (ok : Nat → Nat → Bool) (n : Nat) : X.fr ok n n = X.from ok n n 0 := by
  rw [X.from_eq]
  unfold X.fr
  rw [List.range_eq_range']
theorem X.sg_len (ok : Nat → Nat → Bool) (i k : Nat) : (X.sg ok i k).length ≤ k := by
  unfold X.sg
  rw [List.length_map]
  exact Nat.le_trans (List.length_filter_le _ _) (by simp)
theorem X.fr_len (ok : Nat → Nat → Bool) (n : Nat) : ∀ i, (X.fr ok n i).length ≤ i * n
  | 0 => by simp [X.fr]
  | i + 1 => by
    rw [X.fr_succ, List.length_append, Nat.succ_mul]
    have := X.fr_len ok n i
    have := X.sg_len ok i n
    omega
end Go.Proofs.Ythaoacnaeafbeaa
