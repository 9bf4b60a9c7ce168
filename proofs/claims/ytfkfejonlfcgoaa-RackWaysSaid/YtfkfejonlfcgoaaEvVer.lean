import Derived.Test.YtfkfejonlfcgoaaEvF
namespace Go.Proofs.Ytfkfejonlfcgoaa.Ev
open Go Go.RowKit

/-- A state as it stands once some cells of a class may have been written by way of object i. -/
theorem RelH.bump {ρ : Rho} {st : St} {w w' : World} (H : RelH ρ st w) {i cls : Nat} {cs : T (AV × Nat)} {lo hi : Nat} {t : T Nat} (hg : st.h.get i = some (.cells cs lo hi cls t))
    {c' : T (AV × Nat)} {lo' hi' cl' : Nat} {u : T Nat} (hroot : st.h.get cls = some (.cells c' lo' hi' cl' u)) {b : Nat} {o : Int} {en : Nat} (hp : ρ i = some (b, o, en)) (q0 r : Nat)
    (hsize : w'.heap.size = w.heap.size) (hblock : ∀ b', b' ≠ b → w'.heap[b']? = w.heap[b']?) (hfroz : ∀ a, w'.frozen? a = w.frozen? a)
    (hcell : ∀ (n k : Nat), (n : Int) = o + k → ¬ (q0 ≤ k ∧ k < q0 + r) → w'.cell? ⟨b, n, none⟩ = w.cell? ⟨b, n, none⟩)
    (hsome : ∀ (n : Nat), (w.cell? ⟨b, n, none⟩).isSome → (w'.cell? ⟨b, n, none⟩).isSome) :
    RelH ρ ⟨st.h.put cls (.cells c' lo' hi' cl' (Ev.bump st.nx r q0 u)), st.nx + 1⟩ w' := by
  have hval : ∀ cl q s, ValidIn (st.h.put cls (.cells c' lo' hi' cl' (Ev.bump st.nx r q0 u))) cl q s → ValidIn st.h cl q s := by
    rintro cl q s ⟨d, l2, h2, k2, v, hr, hrs⟩
    by_cases hcl : cl = cls
    · subst hcl
      rw [T.get_put_same] at hr; cases hr
      refine ⟨_, _, _, _, _, hroot, fun s' hs' => ?_⟩
      by_cases hq : q0 ≤ q ∧ q < q0 + r
      · have h1 := hrs st.nx (by rw [get_bump, if_pos hq])
        have h2 := (H.stamp _ _ _ _ _ _ hroot).2.2 _ _ hs'
        omega
      · exact hrs s' (by rw [get_bump, if_neg hq]; exact hs')
    · rw [T.get_put_ne _ _ _ hcl] at hr
      exact ⟨d, l2, h2, k2, v, hr, hrs⟩
  have hcl : ∀ q s, (q0 ≤ q ∧ q < q0 + r) → ValidIn (st.h.put cls (.cells c' lo' hi' cl' (Ev.bump st.nx r q0 u))) cls q s → st.nx ≤ s := by
    rintro q s hq ⟨d, l2, h2, k2, v, hr, hrs⟩
    rw [T.get_put_same] at hr; cases hr
    exact hrs _ (by rw [get_bump, if_pos hq])
  obtain ⟨b1, o1, e1, hp1, hen, hcells⟩ := H.obj i _ hg
  rw [hp] at hp1; cases hp1
  have hself0 : ∀ cs2 t2, cs2 = cs → RelO ρ (st.h.put cls (.cells c' lo' hi' cl' (Ev.bump st.nx r q0 u))) w' i (.cells cs2 lo hi cls t2) := by
    rintro cs2 t2 rfl
    refine ⟨b, o, en, hp, hen, fun k k1 k2 => ?_⟩
    obtain ⟨n, hn, hf, x, hx, hv⟩ := hcells k k1 k2
    refine ⟨n, hn, by rw [hfroz]; exact hf, ?_⟩
    by_cases hq : q0 ≤ k ∧ k < q0 + r
    · obtain ⟨y, hy⟩ := Option.isSome_iff_exists.1 (hsome n (by rw [hx]; rfl))
      refine ⟨y, hy, fun v s _ hc hvl => ?_⟩
      have := hcl k s hq hvl
      have := (H.stamp _ _ _ _ _ _ hg).2.1 _ _ _ hc
      omega
    · exact ⟨x, by rw [hcell n k hn hq]; exact hx, fun v s hh hc hvl => hv v s hh hc (hval _ _ _ hvl)⟩
  have hst : ∀ j c2 lo2 hi2 cl2 t2, (st.h.put cls (.cells c' lo' hi' cl' (Ev.bump st.nx r q0 u))).get j = some (.cells c2 lo2 hi2 cl2 t2) →
      (∃ q, ρ cl2 = some q) ∧ (∀ k v s, c2.get k = some (v, s) → s < st.nx + 1) ∧ (∀ k s, t2.get k = some s → s < st.nx + 1) := by
    intro j c2 lo2 hi2 cl2 t2 hj
    by_cases hjc : j = cls
    · subst hjc
      rw [T.get_put_same] at hj; cases hj
      have S := H.stamp _ _ _ _ _ _ hroot
      refine ⟨S.1, fun k v s h => Nat.lt_succ_of_lt (S.2.1 k v s h), fun k s h => ?_⟩
      rw [get_bump] at h
      split at h
      · cases h; exact Nat.lt_succ_self _
      · exact Nat.lt_succ_of_lt (S.2.2 k s h)
    · rw [T.get_put_ne _ _ _ hjc] at hj
      have S := H.stamp _ _ _ _ _ _ hj
      exact ⟨S.1, fun k v s h => Nat.lt_succ_of_lt (S.2.1 k v s h), fun k s h => Nat.lt_succ_of_lt (S.2.2 k s h)⟩
  have hoth : ∀ j ob', j ≠ i → (st.h.put cls (.cells c' lo' hi' cl' (Ev.bump st.nx r q0 u))).get j = some ob' → ∃ ob, st.h.get j = some ob ∧ ob.noW = ob'.noW := by
    intro j ob' _ hj
    by_cases hjc : j = cls
    · subst hjc
      rw [T.get_put_same] at hj; cases hj
      exact ⟨_, hroot, rfl⟩
    · rw [T.get_put_ne _ _ _ hjc] at hj
      exact ⟨_, hj, rfl⟩
  by_cases hic : i = cls
  · subst hic
    rw [hg] at hroot; cases hroot
    exact H.written (hit := fun q => q0 ≤ q ∧ q < q0 + r) hg hp hoth hst hcl hval hsize hblock hfroz hcell hsome (T.get_put_same _ _ _) rfl (hself0 _ _ rfl)
  · exact H.written (hit := fun q => q0 ≤ q ∧ q < q0 + r) hg hp hoth hst hcl hval hsize hblock hfroz hcell hsome (by rw [T.get_put_ne _ _ _ hic]; exact hg) rfl (hself0 _ _ rfl)

/-- A version of an object is added to a class. -/
theorem RelH.add {ρ : Rho} {st : St} {w : World} (H : RelH ρ st w) {i n' : Nat} (hnone : ρ i = none) (hin : i < n') (hnn : st.nx ≤ n') {c : T (AV × Nat)} {lo hi cls : Nat} {p : Nat × Int × Nat}
    (hp' : p.1 < w.heap.size) (hself : RelO (upd ρ i p) (st.h.put i (.cells c lo hi cls .leaf)) w i (.cells c lo hi cls .leaf)) (hcls : ∃ q, ρ cls = some q)
    (hst : ∀ k v s, c.get k = some (v, s) → s < n')
    (hsep : ∀ j o q, st.h.get j = some o → ρ j = some q → q.1 = p.1 → o.cls? = some cls ∧ q.2.1 = p.2.1) :
    RelH (upd ρ i p) ⟨st.h.put i (.cells c lo hi cls .leaf), n'⟩ w := by
  have hx : Ext ρ (upd ρ i p) := ext_upd p hnone
  have get : ∀ j o, j ≠ i → (st.h.put i (.cells c lo hi cls .leaf)).get j = some o → st.h.get j = some o := fun j o hj h => by rw [T.get_put_ne _ _ _ hj] at h; exact h
  refine ⟨fun j o hg => ?_, fun j q hq => ?_, fun j k oj ok q r hj hk hjk h1 h2 h3 => ?_, fun j c2 lo2 hi2 cls2 t2 hg => ?_, Nat.lt_of_lt_of_le H.pos hnn⟩
  · by_cases hj : j = i
    · subst hj; simp only [T.get_put_same, Option.some.injEq] at hg; subst hg; exact hself
    · have hg' := get j o hj hg
      refine (H.obj j o hg').mono hx (fun q _ => rfl) (fun cl k s hcl => ?_)
      rintro ⟨d, l2, h2, k2, r, hr, hrs⟩
      have : cl ≠ i := by
        rintro rfl
        cases o with
        | map _ _ => simp [AO.cls?] at hcl
        | cells c lo hi cls t =>
          simp only [AO.cls?, Option.some.injEq] at hcl
          obtain ⟨q, hq⟩ := (H.stamp _ _ _ _ _ _ hg').1
          rw [hcl, hnone] at hq; cases hq
      exact ⟨d, l2, h2, k2, r, get cl _ this hr, hrs⟩
  · by_cases hj : j = i
    · subst hj; rw [upd_same] at hq; cases hq; exact ⟨hin, hp'⟩
    · rw [upd_ne _ _ hj] at hq
      have := H.dom j q hq
      exact ⟨Nat.lt_of_lt_of_le this.1 hnn, this.2⟩
  · by_cases hj' : j = i
    · subst hj'
      rw [upd_same] at h1; cases h1
      have hkj : k ≠ j := fun e => hjk e.symm
      rw [upd_ne _ _ hkj] at h2
      obtain ⟨a1, a2⟩ := hsep k ok r (get k ok hkj hk) h2 h3.symm
      simp only [T.get_put_same, Option.some.injEq] at hj
      subst hj
      exact ⟨cls, rfl, a1, a2.symm⟩
    · by_cases hk' : k = i
      · subst hk'
        rw [upd_same] at h2; cases h2
        rw [upd_ne _ _ hj'] at h1
        obtain ⟨a1, a2⟩ := hsep j oj q (get j oj hj' hj) h1 h3
        simp only [T.get_put_same, Option.some.injEq] at hk
        subst hk
        exact ⟨cls, a1, rfl, a2⟩
      · rw [upd_ne _ _ hj'] at h1
        rw [upd_ne _ _ hk'] at h2
        exact H.sep j k oj ok q r (get j oj hj' hj) (get k ok hk' hk) hjk h1 h2 h3
  · by_cases hj : j = i
    · subst hj; simp only [T.get_put_same, Option.some.injEq] at hg
      cases hg
      obtain ⟨q, hq⟩ := hcls
      exact ⟨⟨q, hx _ _ hq⟩, hst, fun k s h => by simp [T.get_leaf] at h⟩
    · have S := H.stamp _ _ _ _ _ _ (get j _ hj hg)
      obtain ⟨q, hq⟩ := S.1
      exact ⟨⟨q, hx _ _ hq⟩, fun k v s h => Nat.lt_of_lt_of_le (S.2.1 k v s h) hnn, fun k s h => Nat.lt_of_lt_of_le (S.2.2 k s h) hnn⟩

/-- Cells that are stored one behind the other: the world behind it. -/
theorem run_storeCells_desc (P : Program) {b n0 : Nat} : ∀ {xs : List Value} {j : Nat} {w : World} (a0 : Addr), a0.block = b → a0.spot = none → a0.off + j = n0 → (∀ x ∈ xs, x.oneCell' = true) →
    (∀ q, q < xs.length → (∃ y, w.cell? ⟨b, n0 + q, none⟩ = some y) ∧ w.frozen? ⟨b, n0 + q, none⟩ = false) →
    ∃ w', (storeCells a0 xs j).run P w = .ok () w' ∧ w'.heap.size = w.heap.size ∧ (∀ b', b' ≠ b → w'.heap[b']? = w.heap[b']?) ∧ (∀ a, w'.frozen? a = w.frozen? a) ∧
      (∀ n, ¬ (n0 ≤ n ∧ n < n0 + xs.length) → w'.cell? ⟨b, n, none⟩ = w.cell? ⟨b, n, none⟩) ∧ (∀ q x, xs[q]? = some x → w'.cell? ⟨b, n0 + q, none⟩ = some x) ∧
      w'.os = w.os ∧ w'.tape = w.tape ∧ w'.output = w.output
  | [], j, w, a0, _, _, _, _, _ => ⟨w, rfl, rfl, fun _ _ => rfl, fun _ => rfl, fun _ _ => rfl, fun q x h => by simp at h, rfl, rfl, rfl⟩
  | x :: xs, j, w, a0, hb, hs, ho, hone, hex => by
    have ea : a0.add j = ⟨b, n0, none⟩ := by
      unfold Addr.add
      by_cases hj : j = 0
      · rw [if_pos hj]; cases a0; simp only at hb hs ho; subst hb; subst hs; subst hj; congr 1
      · rw [if_neg hj, hb, ho]
    obtain ⟨⟨y, hy⟩, hf⟩ := hex 0 (by simp)
    simp only [Nat.add_zero] at hy hf
    obtain ⟨w', r1, r2, r3, r4, r5, r6, r7⟩ := run_storeCells_desc P (b := b) (n0 := n0 + 1) (xs := xs) (j := j + 1) (w := w.setCell ⟨b, n0, none⟩ x) a0 hb hs (by omega) (fun z hz => hone z (List.mem_cons_of_mem _ hz))
      (fun q hq => by
        obtain ⟨⟨z, hz⟩, hf2⟩ := hex (q + 1) (by simp; omega)
        rw [show n0 + 1 + q = n0 + (q + 1) by omega]
        exact ⟨⟨z, by rw [World.cell?_setCell_other _ _ _ _ (off_ne (by omega))]; exact hz⟩, by simpa using hf2⟩)
    refine ⟨w', ?_, by rw [r2]; simp, fun b' hb' => by rw [r3 b' hb', Below.heap_setCell _ _ _ _ hb'], fun a => by rw [r4]; simp, fun n hn => ?_, fun q z hq => ?_, r7.1, r7.2.1, r7.2.2⟩
    · unfold storeCells
      rw [Sem.run_bind, ea, run_store P w _ _ _ (hone x (by simp)), hy]
      simp only [hf, Bool.false_eq_true, if_false, Result.andThen_ok]
      exact r1
    · rw [r5 n (by simp at hn ⊢; omega), World.cell?_setCell_other _ _ _ _ (off_ne (by simp at hn; omega))]
    · cases q with
      | zero =>
        simp at hq; subst hq
        rw [Nat.add_zero, r5 n0 (by omega), World.cell?_setCell_same _ _ _ hy]
      | succ q => rw [show n0 + (q + 1) = n0 + 1 + q by omega]; exact r6 q z (by simpa using hq)
end Go.Proofs.Ytfkfejonlfcgoaa.Ev
