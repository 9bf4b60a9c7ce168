/- append onto a row of one's own that stays to be read: its old cells remain, whether it grows or not; two rows of one type. -/
import Derived.Test.YthaoacnaeafbeaaXPQ
import Derived.Test.YthaoacnaeafbeaaXRow
import Derived.ArgAppend
import Derived.Deep.DeepAppendRoom
import Derived.Maps.AppendAt
namespace Go.Proofs.Ythaoacnaeafbeaa
open Go.RowKit

theorem X.step_append_old {P : Program} {w : World} {ops : Array Oper} {o : Oper} {a : Act} {K : Act → World → Prop} {Q : Exit → Act → World → Prop} {E : Prop} (hgd : o.guard = none) (s x : Operand) (t : TypeId)
    (ho : o.op = .call { callee := .builtin .append, args := #[s, x], argTypes := #[t, t] })
    (base : Nat) (e : TypeId) (i : TypeInfo) (z : Value) (size bytes : Nat) (ht : P.underlying t = some (.slice e)) (hi : P.info? e = some i) (hz : i.zero = some z)
    (hsize : i.size = size) (hby : i.bytes = bytes) (hzs : z.cells.size = size) (hsz : 0 < size)
    (g n cap : Nat) (xs : List Value) (hs : a.eval s = .slice (some ⟨g, 0, none⟩) n cap) (hown : w.ownsRow base e size (.slice (some ⟨g, 0, none⟩) n cap) n xs)
    (B m c : Nat) (news : List Value) (hx : a.eval x = .slice (some ⟨B, 0, none⟩) m c) (hl : news.length = m * size) (hnews : X.Lit w B news) (h1 : ∀ u ∈ news, u.oneCell' = true)
    (h63 : n + m ≤ maxLen) (hbytes : (n + m) * bytes ≤ 140737488355328) (hbase : base ≤ w.heap.size)
    (h : ∀ v' w', w'.ownsRow base e size v' (n + m) (xs ++ news) → w.grownBy w' (some g) → (∀ j u, xs[j]? = some u → w'.cell? ⟨g, j, none⟩ = some u) → K (a.put o.dst v') w') :
    if Region.wanted o (yielded ops a.tmps) = true then Oper.wp P o a w K Q else E := by
  have hw : Region.wanted o (yielded ops a.tmps) = true := by simp [Region.wanted, hgd]
  rw [if_pos hw]
  have hxs := hown.1
  have hcell : ∀ j u, xs[j]? = some u → w.cell? ⟨g, j, none⟩ = some u := fun j u hj => by
    have hlt := (List.getElem?_eq_some_iff.1 hj).1
    rw [World.ownsRow.cellAt hown j (by omega)]
    exact hj
  by_cases hroom : n + m ≤ cap
  · obtain ⟨w', hr, h2, h3⟩ := run_append_own_spare (P := P) w base t o.type e i size ht hi hsize g n cap xs hown ⟨B, 0, none⟩ m c news hl hnews h1 hroom
    unfold Oper.wp execOp
    simp only [ho, resolve, invoke, builtin, Sem.run_bind, Sem.run_pure, Result.andThen_ok, List.map_toArray, List.map_cons, List.map_nil, hs, hx, hr]
    refine h _ w' h2 h3 fun j u hj => ?_
    have hlt := (List.getElem?_eq_some_iff.1 hj).1
    rw [World.ownsRow.cellAt h2 j (by rw [Nat.add_mul]; omega), List.getElem?_append_left hlt]
    exact hj
  · have holds : ∀ j u, xs[j]? = some u → w.cell? ((⟨g, 0, none⟩ : Addr).add j) = some u := fun j u hj => by
      have : (⟨g, 0, none⟩ : Addr).add j = ⟨g, j, none⟩ := by unfold Addr.add; split <;> simp_all
      rw [this]
      exact hcell j u hj
    obtain ⟨v', w', hr, h2, h3⟩ := run_append_arg_grows (P := P) w t o.type e i z size bytes ht hi hz hsize hby hzs hsz ⟨g, 0, none⟩ n cap xs hxs holds ⟨B, 0, none⟩ m c news hl hnews (by omega) h63 hbytes
    unfold Oper.wp execOp
    simp only [ho, resolve, invoke, builtin, Sem.run_bind, Sem.run_pure, Result.andThen_ok, List.map_toArray, List.map_cons, List.map_nil, hs, hx, hr]
    exact h v' w' ⟨h2.1, h2.2.imp id fun ⟨g, cap, cur, e, hg, r⟩ => ⟨g, cap, cur, e, Nat.le_trans hbase hg, r⟩⟩ ⟨h3.os, h3.tape, h3.output, h3.size, fun k hk _ => h3.block k hk (by simp)⟩
      (fun j u hj => h3.cell (hcell j u hj) (by simp))

/-- The row's slice begins at its block. -/
theorem RowI.blk {w : World} {lo : Nat} {a : Option Addr} {n c : Nat} {xs : List Int} (h : RowI w lo (.slice a n c) xs) (h0 : 0 < xs.length) : ∃ g, a = some ⟨g, 0, none⟩ := by
  rcases h.2 with ⟨_, h2⟩ | ⟨g, cap, cur, h1, _⟩
  · omega
  · simp only [Value.slice.injEq] at h1
    exact ⟨g, h1.1⟩

/-- append onto one of two rows of one type: whose block the new slice lies in. -/
theorem X.step_append_ap {P : Program} {w : World} {ops : Array Oper} {o : Oper} {a : Act} {K : Act → World → Prop} {Q : Exit → Act → World → Prop} {E : Prop} (hgd : o.guard = none) (s x : Operand) (t : TypeId)
    (ho : o.op = .call { callee := .builtin .append, args := #[s, x], argTypes := #[t, t] })
    (base : Nat) (e : TypeId) (i : TypeInfo) (z : Value) (size bytes : Nat) (ht : P.underlying t = some (.slice e)) (hi : P.info? e = some i) (hz : i.zero = some z)
    (hsize : i.size = size) (hby : i.bytes = bytes) (hzs : z.cells.size = size) (hsz : 0 < size)
    (v : Value) (n : Nat) (xs : List Value) (hs : a.eval s = v) (hown : w.ownsRow base e size v n xs)
    (B m c : Nat) (news : List Value) (hx : a.eval x = .slice (some ⟨B, 0, none⟩) m c) (hl : news.length = m * size) (hnews : X.Lit w B news) (h1 : ∀ u ∈ news, u.oneCell' = true)
    (h63 : n + m ≤ maxLen) (hbytes : (n + m) * bytes ≤ 140737488355328) (hbase : base ≤ w.heap.size)
    (h : ∀ v' w', w'.ownsRow base e size v' (n + m) (xs ++ news) → w.grownBy w' v.ownBlock → (v'.ownBlock = v.ownBlock ∨ v'.ownBlock = some w.heap.size) → K (a.put o.dst v') w') :
    if Region.wanted o (yielded ops a.tmps) = true then Oper.wp P o a w K Q else E := by
  have hw : Region.wanted o (yielded ops a.tmps) = true := by simp [Region.wanted, hgd]
  rw [if_pos hw]
  obtain ⟨v', w', hr, h2, h3, _, h5⟩ := run_append_own_at (P := P) w base t o.type e i z size bytes ht hi hz hsize hby hzs hsz v n xs hown ⟨B, 0, none⟩ m c news hl hnews h1 h63 hbytes hbase
  unfold Oper.wp execOp
  simp only [ho, resolve, invoke, builtin, Sem.run_bind, Sem.run_pure, Result.andThen_ok, List.map_toArray, List.map_cons, List.map_nil, hs, hx, hr]
  exact h v' w' h2 h3 h5

/-- Two rows of numbers of one's own, apart. -/
structure X.Q3 (base : Nat) (W : World) (v u : Value) (n m : Nat) (A B : List Value) : Prop where
  p : W.ownsRow base 3 1 v n A
  q : W.ownsRow base 3 1 u m B
  ap : ∀ k, v.ownBlock = some k → u.ownBlock = some k → False
section
variable {base : Nat} {W W2 : World} {v u v' : Value} {n m n' : Nat} {A B A' : List Value}
theorem X.Q3.none (base : Nat) (W : World) : X.Q3 base W (.slice .none 0 0) (.slice .none 0 0) 0 0 [] [] := ⟨World.ownsRow_nil _ _ _ _, World.ownsRow_nil _ _ _ _, fun k h => by simp [Value.ownBlock] at h⟩
theorem X.Q3.alloc (h : X.Q3 base W v u n m A B) (o : Obj) : X.Q3 base (W.alloc o) v u n m A B := ⟨h.p.alloc o, h.q.alloc o, h.ap⟩
theorem X.Q3.drew (h : X.Q3 base W v u n m A B) : X.Q3 base W.drew v u n m A B := ⟨h.p, h.q, h.ap⟩
theorem X.Q3.push1 (h : X.Q3 base W v u n m A B) (ho : W2.ownsRow base 3 1 v' n' A') (hg : W.grownBy W2 v.ownBlock) (ha : v'.ownBlock = v.ownBlock ∨ v'.ownBlock = some W.heap.size) : X.Q3 base W2 v' u n' m A' B :=
  ⟨ho, h.q.kept hg (by
    cases hu : u.ownBlock with
    | none => exact .inl rfl
    | some k => exact .inr fun e => h.ap k e.symm hu), fun k h1 h2 => by
    rcases ha with ha | ha
    · exact h.ap k (by rw [← ha]; exact h1) h2
    · rw [ha] at h1
      have := (World.ownsRow.lt h.q k h2).2
      have := Option.some.inj h1
      omega⟩
theorem X.Q3.push2 (h : X.Q3 base W v u n m A B) (ho : W2.ownsRow base 3 1 v' n' A') (hg : W.grownBy W2 u.ownBlock) (ha : v'.ownBlock = u.ownBlock ∨ v'.ownBlock = some W.heap.size) : X.Q3 base W2 v v' n n' A A' :=
  ⟨h.p.kept hg (by
    cases hu : v.ownBlock with
    | none => exact .inl rfl
    | some k => exact .inr fun e => h.ap k hu e.symm), ho, fun k h1 h2 => by
    rcases ha with ha | ha
    · exact h.ap k h1 (by rw [← ha]; exact h2)
    · rw [ha] at h2
      have := (World.ownsRow.lt h.p k h1).2
      have := Option.some.inj h2
      omega⟩
end
end Go.Proofs.Ythaoacnaeafbeaa
