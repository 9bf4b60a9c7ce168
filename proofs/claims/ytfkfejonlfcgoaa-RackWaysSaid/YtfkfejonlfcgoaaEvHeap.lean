import Derived.Test.YtfkfejonlfcgoaaEvRel
namespace Go.Proofs.Ytfkfejonlfcgoaa.Ev
open Go Go.RowKit

theorem get_lay (s : Nat) : ∀ (l : List AV) (q : Nat) (t : T (AV × Nat)) (k : Nat),
    (lay s l q t).get k = if q ≤ k ∧ k < q + l.length then (l[k - q]?).map (·, s) else t.get k
  | [], q, t, k => by simp only [lay, List.length_nil, Nat.add_zero]; rw [if_neg (by omega)]
  | v :: l, q, t, k => by
    simp only [lay]
    rw [get_lay s l (q + 1) _ k]
    by_cases h1 : q + 1 ≤ k ∧ k < q + 1 + l.length
    · rw [if_pos h1, if_pos (by simp; omega)]
      have e : k - q = (k - (q + 1)) + 1 := by omega
      rw [e, List.getElem?_cons_succ]
    · rw [if_neg h1]
      by_cases h2 : k = q
      · subst h2
        rw [T.get_put_same, if_pos (by simp)]; simp
      · rw [T.get_put_ne _ _ _ h2, if_neg (by simp; omega)]
theorem get_bump (s : Nat) : ∀ (r q : Nat) (t : T Nat) (k : Nat), (bump s r q t).get k = if q ≤ k ∧ k < q + r then some s else t.get k
  | 0, q, t, k => by simp only [bump]; rw [if_neg (by omega)]
  | r + 1, q, t, k => by
    simp only [bump]
    rw [get_bump s r (q + 1) _ k]
    by_cases h1 : q + 1 ≤ k ∧ k < q + 1 + r
    · rw [if_pos h1, if_pos (by omega)]
    · rw [if_neg h1]
      by_cases h2 : k = q
      · subst h2; rw [T.get_put_same, if_pos (by omega)]
      · rw [T.get_put_ne _ _ _ h2, if_neg (by omega)]

/-- What cell k of a class was stamped s with is still there. -/
def ValidIn (h : T AO) (cls k s : Nat) : Prop := ∃ c lo hi cl w, h.get cls = some (.cells c lo hi cl w) ∧ ∀ s', w.get k = some s' → s' ≤ s

def RelE (ρ : Rho) : List (Value × AV × Nat) → List MapEntry → Prop
  | [], es => es = []
  | (k, v, b) :: l, es => ∃ e es', RelV ρ v e.val ∧ e.key = k ∧ e.born = b ∧ RelE ρ l es' ∧ es = e :: es'

theorem RelE.mono {ρ ρ' : Rho} (hx : Ext ρ ρ') : ∀ {l : List (Value × AV × Nat)} {es : List MapEntry}, RelE ρ l es → RelE ρ' l es
  | [], _, h => h
  | (_, _, _) :: _, _, ⟨e, es', h1, h2, h3, h4, h5⟩ => ⟨e, es', h1.mono hx, h2, h3, RelE.mono hx h4, h5⟩

def RelO (ρ : Rho) (h : T AO) (w : World) (i : Nat) : AO → Prop
  | .cells c lo hi cls _ => ∃ b o e, ρ i = some (b, o, e) ∧ hi ≤ e ∧ ∀ k, lo ≤ k → k < e → ∃ n : Nat, (n : Int) = o + k ∧ w.frozen? ⟨b, n, none⟩ = false ∧
      ∃ x, w.cell? ⟨b, n, none⟩ = some x ∧ ∀ v s, k < hi → c.get k = some (v, s) → ValidIn h cls k s → RelV ρ v x
  | .map es clock => ∃ b, ρ i = some (b, 0, 0) ∧ ∃ es' : Array MapEntry, w.heap[b]? = some (.map es' clock) ∧ RelE ρ es es'.toList

def AO.cls? : AO → Option Nat
  | .cells _ _ _ cls _ => some cls
  | .map .. => none
/-- An object but for the writes of its class. -/
def AO.noW : AO → AO
  | .cells c lo hi cls _ => .cells c lo hi cls .leaf
  | m => m
theorem relO_noW {ρ : Rho} {h : T AO} {w : World} {i : Nat} {o o' : AO} (e : o.noW = o'.noW) (k : RelO ρ h w i o) : RelO ρ h w i o' := by
  cases o <;> cases o' <;> simp only [AO.noW, AO.cells.injEq, AO.map.injEq, reduceCtorEq] at e
  · obtain ⟨rfl, rfl, rfl, rfl, _⟩ := e; exact k
  · obtain ⟨rfl, rfl⟩ := e; exact k
theorem cls_noW {o o' : AO} (e : o.noW = o'.noW) : o.cls? = o'.cls? := by
  cases o <;> cases o' <;> simp only [AO.noW, AO.cells.injEq, AO.map.injEq, reduceCtorEq] at e
  · obtain ⟨rfl, rfl, rfl, rfl, _⟩ := e; rfl
  · rfl

structure RelH (ρ : Rho) (st : St) (w : World) : Prop where
  obj : ∀ i o, st.h.get i = some o → RelO ρ st.h w i o
  dom : ∀ i p, ρ i = some p → i < st.nx ∧ p.1 < w.heap.size
  sep : ∀ i j oi oj p q, st.h.get i = some oi → st.h.get j = some oj → i ≠ j → ρ i = some p → ρ j = some q → p.1 = q.1 →
    ∃ c, oi.cls? = some c ∧ oj.cls? = some c ∧ p.2.1 = q.2.1
  stamp : ∀ i c lo hi cls t, st.h.get i = some (.cells c lo hi cls t) →
    (∃ q, ρ cls = some q) ∧ (∀ k v s, c.get k = some (v, s) → s < st.nx) ∧ (∀ k s, t.get k = some s → s < st.nx)
  pos : 0 < st.nx

theorem RelO.at {ρ : Rho} {h : T AO} {w : World} {i : Nat} {o : AO} (k : RelO ρ h w i o) : ∃ p, ρ i = some p := by
  cases o with
  | cells c lo hi cls t => obtain ⟨b, o, e, h1, _⟩ := k; exact ⟨_, h1⟩
  | map es cl => obtain ⟨b, h1, _⟩ := k; exact ⟨_, h1⟩
theorem RelH.has {ρ : Rho} {st : St} {w : World} (H : RelH ρ st w) {i : Nat} {o : AO} (h : st.h.get i = some o) : i < st.nx := by
  obtain ⟨p, hp⟩ := (H.obj i o h).at
  exact (H.dom i p hp).1

/-- The blocks that the objects of a state stand for. -/
def Img (ρ : Rho) (h : T AO) (b : Nat) : Prop := ∃ j o q, h.get j = some o ∧ ρ j = some q ∧ q.1 = b

/-- What a piece of the run leaves as it was. -/
structure Fr (ρ : Rho) (st : St) (w : World) (ρ' : Rho) (st' : St) (w' : World) : Prop where
  nx : st.nx ≤ st'.nx
  old : ∀ i, i < st.nx → ρ' i = ρ i
  new : ∀ i p, st.nx ≤ i → ρ' i = some p → w.heap.size ≤ p.1 ∨ Img ρ st.h p.1
  ids : ∀ i o, st'.h.get i = some o → i < st.nx → ∃ o', st.h.get i = some o'
  size : w.heap.size ≤ w'.heap.size
  os : w'.os = w.os
  tape : w'.tape = w.tape
  output : w'.output = w.output
  keep : ∀ b, b < w.heap.size → ¬ Img ρ st.h b → w'.heap[b]? = w.heap[b]?
  cls : ∀ i o c, st'.h.get i = some o → o.cls? = some c → c < st.nx → ∃ j o', st.h.get j = some o' ∧ o'.cls? = some c

theorem Fr.refl (ρ : Rho) (st : St) (w : World) (H : RelH ρ st w) : Fr ρ st w ρ st w :=
  ⟨Nat.le_refl _, fun _ _ => rfl, fun i p h e => absurd (H.dom i p e).1 (by omega), fun _ o h _ => ⟨o, h⟩, Nat.le_refl _, rfl, rfl, rfl, fun _ _ _ => rfl, fun i o _ h hc _ => ⟨i, o, h, hc⟩⟩
theorem Fr.drew {ρ : Rho} {st : St} {w : World} {ρ' : Rho} {st' : St} {w' : World} (h : Fr ρ st w.drew ρ' st' w') : Fr ρ st w ρ' st' w' :=
  ⟨h.nx, h.old, h.new, h.ids, h.size, h.os, h.tape, h.output, h.keep, h.cls⟩
theorem Fr.trans {ρ : Rho} {st : St} {w : World} {ρ' : Rho} {st' : St} {w' : World} {ρ'' : Rho} {st'' : St} {w'' : World}
    (h : Fr ρ st w ρ' st' w') (k : Fr ρ' st' w' ρ'' st'' w'') : Fr ρ st w ρ'' st'' w'' := by
  have img : ∀ b, b < w.heap.size → Img ρ' st'.h b → Img ρ st.h b := by
    rintro b hb ⟨j, o, q, h1, h2, rfl⟩
    by_cases hj : j < st.nx
    · obtain ⟨o', ho'⟩ := h.ids j o h1 hj
      exact ⟨j, o', q, ho', by rw [← h.old j hj]; exact h2, rfl⟩
    · rcases h.new j q (by omega) h2 with h3 | h3
      · omega
      · exact h3
  refine ⟨Nat.le_trans h.nx k.nx, fun i hi => by rw [k.old i (by have := h.nx; omega), h.old i hi], fun i p hi hp => ?_, fun i o ho hi => ?_, Nat.le_trans h.size k.size, k.os.trans h.os, k.tape.trans h.tape, k.output.trans h.output, fun b hb hn => ?_, fun i o c ho hc hlt => ?_⟩
  · by_cases hi' : i < st'.nx
    · rw [k.old i hi'] at hp
      exact h.new i p hi hp
    · by_cases hb : p.1 < w.heap.size
      · rcases k.new i p (by omega) hp with h3 | h3
        · have := h.size; omega
        · exact .inr (img _ hb h3)
      · exact .inl (by omega)
  · obtain ⟨o', ho'⟩ := k.ids i o ho (by have := h.nx; omega)
    exact h.ids i o' ho' hi
  · rw [k.keep b (by have := h.size; omega) (fun hi => hn (img b hb hi)), h.keep b hb hn]
  · obtain ⟨j, o', h1, h2⟩ := k.cls i o c ho hc (by have := h.nx; omega)
    exact h.cls j o' c h1 h2 hlt

theorem Fr.ext {ρ : Rho} {st : St} {w : World} {ρ' : Rho} {st' : St} {w' : World} (h : Fr ρ st w ρ' st' w') (H : RelH ρ st w) : Ext ρ ρ' :=
  fun i p e => by rw [h.old i (H.dom i p e).1]; exact e

theorem RelH.drew {ρ : Rho} {st : St} {w : World} (H : RelH ρ st w) : RelH ρ st w.drew := ⟨H.obj, H.dom, H.sep, H.stamp, H.pos⟩

/-- A cell that is read. -/
theorem RelH.rd {ρ : Rho} {st : St} {w : World} (H : RelH ρ st w) {i k : Nat} {v : AV} (e : rdCell st.h i k = some v) {a : Addr} (ha : At ρ i k a) :
    ∃ x, w.cell? a = some x ∧ RelV ρ v x := by
  unfold rdCell at e
  split at e
  case h_2 => cases e
  rename_i c lo hi cls t hg
  obtain ⟨b, o, en, h1, hen, h2⟩ := H.obj i _ hg
  cases hb : (lo.ble k && k.blt hi) with
  | false => rw [hb] at e; cases e
  | true =>
    rw [hb] at e
    simp only [cond_true] at e
    simp only [Bool.and_eq_true, Nat.ble_eq, Nat.blt_eq] at hb
    obtain ⟨n, hn, _, x, hx, hv⟩ := h2 k hb.1 (by omega)
    obtain ⟨b', o', e', h1', hb', hs', ho'⟩ := ha
    rw [h1] at h1'; cases h1'
    have ea : a = ⟨b, n, none⟩ := by
      cases a; simp only at hb' hs' ho'; subst hb'; subst hs'
      congr 1; omega
    refine ⟨x, by rw [ea]; exact hx, ?_⟩
    split at e
    case h_2 => cases e
    rename_i u s hc
    split at e
    case h_2 => cases e
    rename_i c' lo' hi' cl' t' hg'
    split at e
    · rename_i hw; cases e
      exact hv _ _ hb.2 hc ⟨_, _, _, _, _, hg', fun s' h => by rw [hw] at h; cases h⟩
    · rename_i s' hw
      cases hle : s'.ble s with
      | false => rw [hle] at e; cases e
      | true =>
        rw [hle] at e; simp only [cond_true, Option.some.injEq] at e; subst e
        exact hv _ _ hb.2 hc ⟨_, _, _, _, _, hg', fun s'' h => by rw [hw] at h; cases h; exact Nat.le_of_ble_eq_true hle⟩

theorem At.addr {ρ : Rho} {i k : Nat} {a : Addr} (h : At ρ i k a) (j : Nat) : At ρ i (k + j) (a.add j) := by
  obtain ⟨b, o, e, h1, h2, h3, h4⟩ := h
  unfold Addr.add
  by_cases hj : j = 0
  · rw [if_pos hj]; exact ⟨b, o, e, h1, h2, h3, by omega⟩
  · rw [if_neg hj]; exact ⟨b, o, e, h1, h2, rfl, by simp only; omega⟩

theorem RelH.rds {ρ : Rho} {st : St} {w : World} (H : RelH ρ st w) {i : Nat} : ∀ {n k : Nat} {l : List AV}, rdCells st.h i k n = some l → ∀ {a : Addr}, At ρ i k a →
    ∃ xs : List Value, RelL ρ l xs ∧ xs.length = n ∧ ∀ j x, xs[j]? = some x → w.cell? (a.add j) = some x
  | 0, k, l, e, a, _ => by simp only [rdCells, Option.some.injEq] at e; subst e; exact ⟨[], RelL.nil_iff.2 rfl, rfl, fun j x h => by simp at h⟩
  | n + 1, k, l, e, a, ha => by
    simp only [rdCells] at e
    split at e
    case h_2 => cases e
    rename_i v hv
    split at e
    case h_2 => cases e
    rename_i l' hl
    cases e
    obtain ⟨x, hx, hr⟩ := H.rd hv ha
    obtain ⟨xs, h1, h2, h3⟩ := H.rds hl (ha.addr 1)
    refine ⟨x :: xs, RelL.cons hr h1, by simp [h2], fun j y hj => ?_⟩
    cases j with
    | zero => simp at hj; subst hj; simpa [Addr.add] using hx
    | succ j =>
      have := h3 j y (by simpa using hj)
      have e2 : (a.add 1).add j = a.add (j + 1) := by
        unfold Addr.add
        by_cases hj0 : j = 0
        · subst hj0; simp
        · simp [hj0]; omega
      rw [e2] at this; exact this
end Go.Proofs.Ytfkfejonlfcgoaa.Ev
