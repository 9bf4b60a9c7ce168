import Derived.Test.YtfkfejonlfcgoaaEvWr
namespace Go.Proofs.Ytfkfejonlfcgoaa.Ev
open Go Go.RowKit

def upd (ρ : Rho) (i : Nat) (p : Nat × Int × Nat) : Rho := fun j => if j = i then some p else ρ j
theorem upd_same (ρ : Rho) (i : Nat) (p : Nat × Int × Nat) : upd ρ i p i = some p := if_pos rfl
theorem upd_ne (ρ : Rho) {i j : Nat} (p : Nat × Int × Nat) (h : j ≠ i) : upd ρ i p j = ρ j := if_neg h
theorem ext_upd {ρ : Rho} {i : Nat} (p : Nat × Int × Nat) (h : ρ i = none) : Ext ρ (upd ρ i p) := fun j q e => by
  by_cases hj : j = i
  · subst hj; rw [h] at e; cases e
  · rw [upd_ne _ _ hj]; exact e

/-- A relation stays where the map is larger, the world is larger, and validity has not grown. -/
theorem RelO.mono {ρ ρ' : Rho} {h h' : T AO} {w w' : World} {i : Nat} {o : AO} (K : RelO ρ h w i o) (hx : Ext ρ ρ')
    (hb : ∀ p, ρ i = some p → w'.heap[p.1]? = w.heap[p.1]?) (hv : ∀ cl k s, o.cls? = some cl → ValidIn h' cl k s → ValidIn h cl k s) : RelO ρ' h' w' i o := by
  cases o with
  | map es clock =>
    obtain ⟨b, h1, es', h2, h3⟩ := K
    exact ⟨b, hx _ _ h1, es', by rw [← h2]; exact hb _ h1, h3.mono hx⟩
  | cells c lo hi cls t =>
    obtain ⟨b, o, e, h1, he, h2⟩ := K
    refine ⟨b, o, e, hx _ _ h1, he, fun k k1 k2 => ?_⟩
    obtain ⟨n, hn, hf, x, hxx, hvv⟩ := h2 k k1 k2
    refine ⟨n, hn, ?_, x, ?_, fun v s hh hc hval => RelV.mono hx _ _ (hvv v s hh hc (hv cls k s rfl hval))⟩
    · rw [World.frozen?_of_block (w := w) (hb _ h1)]; exact hf
    · rw [World.cell?_of_block (w := w) (hb _ h1)]; exact hxx

/-- An object laid anew, number i. -/
theorem RelH.new {ρ : Rho} {st : St} {w w' : World} (H : RelH ρ st w) {i n' : Nat} (hnone : ρ i = none) (hin : i < n') (hnn : st.nx ≤ n') {ao : AO} {p : Nat × Int × Nat}
    (B : Below w.heap.size w w') (hp : w.heap.size ≤ p.1) (hp' : p.1 < w'.heap.size)
    (hself : RelO (upd ρ i p) (st.h.put i ao) w' i ao)
    (hst : ∀ c lo hi cls t, ao = .cells c lo hi cls t → (cls = i ∨ ∃ q, ρ cls = some q) ∧ (∀ k v s, c.get k = some (v, s) → s < n') ∧ (∀ k s, t.get k = some s → s < n')) :
    RelH (upd ρ i p) ⟨st.h.put i ao, n'⟩ w' := by
  have hx : Ext ρ (upd ρ i p) := ext_upd p hnone
  have get : ∀ j o, j ≠ i → (st.h.put i ao).get j = some o → st.h.get j = some o := fun j o hj h => by rw [T.get_put_ne _ _ _ hj] at h; exact h
  refine ⟨fun j o hg => ?_, fun j q hq => ?_, fun j k oj ok q r hj hk hjk h1 h2 h3 => ?_, fun j c lo hi cls t hg => ?_, Nat.lt_of_lt_of_le H.pos hnn⟩
  · by_cases hj : j = i
    · subst hj; simp only [T.get_put_same, Option.some.injEq] at hg; subst hg; exact hself
    · have hg' := get j o hj hg
      refine (H.obj j o hg').mono hx (fun q hq => B.block _ (H.dom _ _ hq).2) (fun cl k s hcl => ?_)
      rintro ⟨d, l2, h2, k2, r, hr, hrs⟩
      have : cl ≠ i := by
        rintro rfl
        cases o with
        | map _ _ => simp [AO.cls?] at hcl
        | cells c lo hi cls t =>
          simp only [AO.cls?, Option.some.injEq] at hcl
          obtain ⟨q, hq⟩ := (H.stamp _ _ _ _ _ _ hg').1
          rw [hcl, hnone] at hq; cases hq
      exact ⟨d, l2, h2, k2, r, get cl _ this hr, hrs⟩
  · by_cases hj : j = i
    · subst hj; rw [upd_same] at hq; cases hq; exact ⟨hin, hp'⟩
    · rw [upd_ne _ _ hj] at hq
      have := H.dom j q hq
      exact ⟨Nat.lt_of_lt_of_le this.1 hnn, Nat.lt_of_lt_of_le this.2 B.size⟩
  · have low : ∀ m om s, m ≠ i → upd ρ i p m = some s → (st.h.put i ao).get m = some om → ρ m = some s ∧ st.h.get m = some om ∧ s.1 < w.heap.size := by
      intro m om s hm hs hg
      rw [upd_ne _ _ hm] at hs
      exact ⟨hs, get m om hm hg, (H.dom _ _ hs).2⟩
    by_cases hj' : j = i
    · subst hj'
      rw [upd_same] at h1; cases h1
      have := (low k ok r (fun e => hjk e.symm) h2 hk).2.2
      omega
    · obtain ⟨a1, a2, a3⟩ := low j oj q hj' h1 hj
      by_cases hk' : k = i
      · subst hk'
        rw [upd_same] at h2; cases h2
        omega
      · obtain ⟨b1, b2, b3⟩ := low k ok r hk' h2 hk
        exact H.sep j k oj ok q r a2 b2 hjk a1 b1 h3
  · by_cases hj : j = i
    · subst hj; simp only [T.get_put_same, Option.some.injEq] at hg
      obtain ⟨h1, h2, h3⟩ := hst _ _ _ _ _ hg
      rcases h1 with h1 | ⟨q, hq⟩
      · exact ⟨⟨p, by rw [h1]; exact upd_same _ _ _⟩, h2, h3⟩
      · exact ⟨⟨q, hx _ _ hq⟩, h2, h3⟩
    · have S := H.stamp _ _ _ _ _ _ (get j _ hj hg)
      obtain ⟨q, hq⟩ := S.1
      exact ⟨⟨q, hx _ _ hq⟩, fun k v s h => Nat.lt_of_lt_of_le (S.2.1 k v s h) hnn, fun k s h => Nat.lt_of_lt_of_le (S.2.2 k s h) hnn⟩

theorem Fr.fresh {ρ0 : Rho} {st0 : St} {w0 : World} {ρ : Rho} {st : St} {w w' : World} (F : Fr ρ0 st0 w0 ρ st w) {i n' : Nat} (hi : st0.nx ≤ i) (hnn : st.nx ≤ n') (ao : AO) (hcl : ∀ c, ao.cls? = some c → c = i) {p : Nat × Int × Nat}
    (B : Below w.heap.size w w') (hp : w.heap.size ≤ p.1) : Fr ρ0 st0 w0 (upd ρ i p) ⟨st.h.put i ao, n'⟩ w' := by
  refine ⟨Nat.le_trans F.nx hnn, fun j hj => by rw [upd_ne _ _ (by omega)]; exact F.old j hj, fun j q hj hq => ?_, fun j o hg hj => ?_, Nat.le_trans F.size B.size, B.os.trans F.os, B.tape.trans F.tape, B.output.trans F.output,
    fun b hb hn => by rw [B.block b (Nat.lt_of_lt_of_le hb F.size)]; exact F.keep b hb hn, fun j o c hg hc hlt => ?_⟩
  · by_cases hji : j = i
    · subst hji; rw [upd_same] at hq; cases hq; exact .inl (Nat.le_trans F.size hp)
    · rw [upd_ne _ _ hji] at hq; exact F.new j q hj hq
  · have hji : j ≠ i := by omega
    simp only [T.get_put_ne _ _ _ hji] at hg
    exact F.ids j o hg hj
  · by_cases hji : j = i
    · subst hji
      simp only [T.get_put_same, Option.some.injEq] at hg; subst hg
      have := hcl c hc
      omega
    · simp only [T.get_put_ne _ _ _ hji] at hg
      exact F.cls j o c hg hc hlt

theorem RelH.none_nx {ρ : Rho} {st : St} {w : World} (H : RelH ρ st w) {i : Nat} (hi : st.nx ≤ i) : ρ i = none := by
  cases h : ρ i with
  | none => rfl
  | some q => have := (H.dom _ _ h).1; omega

theorem allOne_get : ∀ {l : List AV}, allOne l = true → ∀ (i : Nat) (v : AV), l[i]? = some v → v.one = true
  | [], _, i, v, h => by simp at h
  | u :: l, e, i, v, h => by
    simp only [allOne, Bool.and_eq_true] at e
    cases i with
    | zero => simp at h; subst h; exact e.1
    | succ i => exact allOne_get e.2 i v (by simpa using h)

theorem rowOf_cls {i : Nat} {l : List AV} {ao : AO} (e : rowOf i l = some ao) : ∀ c, ao.cls? = some c → c = i := by
  unfold rowOf at e
  cases ho : allOne l with
  | false => rw [ho] at e; cases e
  | true =>
    rw [ho] at e; simp only [cond_true, Option.some.injEq] at e
    subst e
    intro c hc
    simp only [AO.cls?, Option.some.injEq] at hc
    exact hc.symm

/-- A new row of cells. -/
theorem RelH.row {ρ : Rho} {st : St} {w : World} (H : RelH ρ st w) {i n' : Nat} (hnone : ρ i = none) (hin : i < n') (hnn : st.nx ≤ n') {l : List AV} {ao : AO} (e : rowOf i l = some ao) {xs : List Value} (hl : RelL ρ l xs)
    (more : List Value) (t : TypeId) : RelH (upd ρ i (w.heap.size, 0, (xs ++ more).length)) ⟨st.h.put i ao, n'⟩ (w.alloc (.cells (xs ++ more).toArray t)) := by
  unfold rowOf at e
  cases ho : allOne l with
  | false => rw [ho] at e; cases e
  | true =>
    rw [ho] at e; simp only [cond_true, Option.some.injEq] at e
    have hx : Ext ρ (upd ρ i (w.heap.size, (0 : Int), (xs ++ more).length)) := ext_upd _ hnone
    refine H.new hnone hin hnn ((Below.refl _ _).alloc (Nat.le_refl _) _) (Nat.le_refl _) (by simp) ?_ ?_
    · subst e
      have hlen := hl.length
      refine ⟨w.heap.size, 0, (xs ++ more).length, upd_same _ _ _, by simp; omega, fun k _ hk => ?_⟩
      refine ⟨k, by omega, by simp, (xs ++ more)[k], ?_, fun v s hh hc _ => ?_⟩
      · rw [World.cell?_alloc_new]; simp
      · have hk' : k < xs.length := by omega
        rw [get_lay] at hc
        rw [if_pos ⟨Nat.zero_le _, by omega⟩] at hc
        simp only [Nat.sub_zero, Option.map_eq_some_iff] at hc
        obtain ⟨u, hu, huv⟩ := hc
        cases huv
        obtain ⟨x, hx1, hx2⟩ := hl.get k _ hu
        rw [List.getElem?_eq_getElem hk'] at hx1
        cases hx1
        rw [List.getElem_append_left hk']
        exact RelV.mono hx _ _ hx2
    · intro c lo hi cls t' hao
      subst e
      simp only [AO.cells.injEq] at hao
      obtain ⟨rfl, rfl, rfl, rfl, rfl⟩ := hao
      refine ⟨.inl rfl, fun k v s hc => ?_, fun k s hc => by simp [T.get_leaf] at hc⟩
      rw [get_lay] at hc
      split at hc
      · simp only [Option.map_eq_some_iff] at hc
        obtain ⟨u, hu, huv⟩ := hc; cases huv; omega
      · simp [T.get_leaf] at hc

/-- Many cells are written. -/
theorem RelH.wrs {ρ : Rho} : ∀ {l : List AV} {st st' : St} {w : World} (_ : RelH ρ st w) {i k : Nat} (_ : wrCells st i k l = some st') {a : Addr} (_ : At ρ i k a) {xs : List Value} (_ : RelL ρ l xs) (P : Program) (j : Nat) (a0 : Addr) (_ : a = a0.add j),
    ∃ w', (storeCells a0 xs j).run P w = .ok () w' ∧ RelH ρ st' w' ∧ Fr ρ st w ρ st' w'
  | [], st, st', w, H, i, k, e, a, ha, xs, hl, P, j, a0, _ => by
    simp only [wrCells, Option.some.injEq] at e; subst e
    rw [RelL.nil_iff.1 hl]
    exact ⟨w, rfl, H, Fr.refl _ _ _ H⟩
  | v :: l, st, st', w, H, i, k, e, a, ha, xs, hl, P, j, a0, hj => by
    simp only [wrCells] at e
    split at e
    case h_2 => cases e
    rename_i st1 h1
    obtain ⟨x, ys, hv, hys, rfl⟩ := hl.cons_inv
    obtain ⟨⟨y, hy⟩, hf, hone, H1, F1⟩ := H.wr h1 ha hv
    have ha' : At ρ i (k + 1) (a0.add (j + 1)) := by
      have := ha.addr 1
      rw [hj] at this
      have e2 : (a0.add j).add 1 = a0.add (j + 1) := by
        unfold Addr.add
        by_cases hj0 : j = 0
        · subst hj0; simp
        · simp [hj0]; omega
      rw [e2] at this; exact this
    obtain ⟨w', hr, H2, F2⟩ := RelH.wrs H1 e ha' hys P (j + 1) a0 rfl
    refine ⟨w', ?_, H2, F1.trans F2⟩
    have hp := hv.one hone
    have hone' : x.oneCell' = true := by cases x <;> first | rfl | exact hp.elim
    unfold storeCells
    rw [Sem.run_bind, run_store P w _ _ _ hone', ← hj, hy]
    simp only [hf, Bool.false_eq_true, if_false, Result.andThen_ok]
    exact hr
end Go.Proofs.Ytfkfejonlfcgoaa.Ev
