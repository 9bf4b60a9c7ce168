import Derived.Test.YtfkfejonlfcgoaaEvHeap
namespace Go.Proofs.Ytfkfejonlfcgoaa.Ev
open Go Go.RowKit

theorem off_ne {b n m : Nat} (h : n ≠ m) : (⟨b, n, none⟩ : Addr) ≠ ⟨b, m, none⟩ := fun e => h (congrArg Addr.off e)

/-- The world's cells stand as they stood, but those of the class 'cls' at the places that 'hit' names: a state behind a write. -/
theorem RelH.written {ρ : Rho} {st : St} {w : World} (H : RelH ρ st w) {h' : T AO} {w' : World} {i cls : Nat} {hit : Nat → Prop}
    {c : T (AV × Nat)} {lo hi : Nat} {t : T Nat} (hi0 : st.h.get i = some (.cells c lo hi cls t)) {b : Nat} {o : Int} {en : Nat} (hp : ρ i = some (b, o, en))
    -- the objects, but for i: as they were
    (hoth : ∀ j ob', j ≠ i → h'.get j = some ob' → ∃ ob, st.h.get j = some ob ∧ ob.noW = ob'.noW)
    (hstamp : ∀ j c' lo' hi' cl' t', h'.get j = some (.cells c' lo' hi' cl' t') → (∃ q, ρ cl' = some q) ∧ (∀ k v s, c'.get k = some (v, s) → s < st.nx + 1) ∧ (∀ k s, t'.get k = some s → s < st.nx + 1))
    (hclass : ∀ k s, hit k → ValidIn h' cls k s → st.nx ≤ s)
    (hvalid : ∀ cl k s, ValidIn h' cl k s → ValidIn st.h cl k s)
    -- the world
    (hsize : w'.heap.size = w.heap.size)
    (hblock : ∀ b', b' ≠ b → w'.heap[b']? = w.heap[b']?)
    (hfroz : ∀ a, w'.frozen? a = w.frozen? a)
    (hcell : ∀ (n k : Nat), (n : Int) = o + k → ¬ hit k → w'.cell? ⟨b, n, none⟩ = w.cell? ⟨b, n, none⟩)
    (hsome : ∀ (n : Nat), (w.cell? ⟨b, n, none⟩).isSome → (w'.cell? ⟨b, n, none⟩).isSome)
    -- the object i
    {ob' : AO} (hob : h'.get i = some ob') (hcls : ob'.cls? = some cls) (hself : RelO ρ h' w' i ob') :
    RelH ρ ⟨h', st.nx + 1⟩ w' := by
  have keep : ∀ j ob, j ≠ i → st.h.get j = some ob → RelO ρ h' w' j ob := by
    intro j ob hj hg
    have K := H.obj j ob hg
    cases ob with
    | map es clock =>
      obtain ⟨b2, h1, es', h2, h3⟩ := K
      refine ⟨b2, h1, es', ?_, h3⟩
      by_cases hb : b2 = b
      · obtain ⟨c', hc', _⟩ := H.sep j i _ _ _ _ hg hi0 hj h1 hp hb
        simp [AO.cls?] at hc'
      · rw [hblock _ hb]; exact h2
    | cells c2 lo2 hi2 cls2 t2 =>
      obtain ⟨b2, o2, e2, h1, he2, h2⟩ := K
      refine ⟨b2, o2, e2, h1, he2, fun k hk1 hk2 => ?_⟩
      obtain ⟨n, hn, hf, x, hx, hv⟩ := h2 k hk1 hk2
      refine ⟨n, hn, by rw [hfroz]; exact hf, ?_⟩
      by_cases hb : b2 = b
      · subst hb
        obtain ⟨c', hc1, hc2, ho⟩ := H.sep j i _ _ _ _ hg hi0 hj h1 hp rfl
        simp only [AO.cls?, Option.some.injEq] at hc1 hc2
        have ho' : o2 = o := ho
        subst ho'; subst hc1; subst hc2
        by_cases hk : hit k
        · obtain ⟨y, hy⟩ := Option.isSome_iff_exists.1 (hsome n (by rw [hx]; rfl))
          refine ⟨y, hy, fun v s _ hc hval => ?_⟩
          have := hclass k s hk hval
          have := (H.stamp j _ _ _ _ _ hg).2.1 k v s hc
          omega
        · exact ⟨x, by rw [hcell n k hn hk]; exact hx, fun v s hh hc hval => hv v s hh hc (hvalid _ _ _ hval)⟩
      · refine ⟨x, ?_, fun v s hh hc hval => hv v s hh hc (hvalid _ _ _ hval)⟩
        rw [World.cell?_of_block (w := w) (hblock b2 hb)]; exact hx
  refine ⟨fun j ob hg => ?_, fun j p hjp => ?_, fun j k oj ok p q hj hk hne h1 h2 h3 => ?_, hstamp, Nat.succ_pos _⟩
  · by_cases hj : j = i
    · subst hj; rw [hob] at hg; cases hg; exact hself
    · obtain ⟨ob0, hg0, he⟩ := hoth j ob hj hg
      exact relO_noW he (keep j ob0 hj hg0)
  · have := H.dom j p hjp; rw [hsize]; exact ⟨Nat.lt_succ_of_lt this.1, this.2⟩
  · have get : ∀ m om, h'.get m = some om → ∃ om0, st.h.get m = some om0 ∧ om0.cls? = om.cls? := by
      intro m om hm
      by_cases hmi : m = i
      · subst hmi; rw [hob] at hm; cases hm; exact ⟨_, hi0, hcls.symm⟩
      · obtain ⟨ob0, hg0, he⟩ := hoth m om hmi hm
        exact ⟨ob0, hg0, cls_noW he⟩
    obtain ⟨oj0, hj0, ej⟩ := get j oj hj
    obtain ⟨ok0, hk0, ek⟩ := get k ok hk
    obtain ⟨c', hc1, hc2, ho⟩ := H.sep j k _ _ _ _ hj0 hk0 hne h1 h2 h3
    exact ⟨c', by rw [← ej]; exact hc1, by rw [← ek]; exact hc2, ho⟩

theorem wrCell_spec {st st' : St} {i k : Nat} {v : AV} (e : wrCell st i k v = some st') :
    ∃ c lo hi cls t, st.h.get i = some (.cells c lo hi cls t) ∧ lo ≤ k ∧ k < hi ∧ v.one = true ∧ st'.nx = st.nx + 1 ∧
      (∃ t', st'.h.get i = some (.cells (c.put k (v, st.nx)) lo hi cls t') ∧ (t' = t ∨ t' = t.put k st.nx)) ∧
      (∃ c' lo' hi' cl' u, st.h.get cls = some (.cells c' lo' hi' cl' u) ∧ ∃ c2 lo2 hi2 cl2, st'.h.get cls = some (.cells c2 lo2 hi2 cl2 (u.put k st.nx)) ∧
        (cls ≠ i → c2 = c' ∧ lo2 = lo' ∧ hi2 = hi' ∧ cl2 = cl')) ∧
      (∀ j, j ≠ i → j ≠ cls → st'.h.get j = st.h.get j) := by
  unfold wrCell at e
  split at e
  case h_2 => cases e
  rename_i c lo hi cls t hg
  cases hb : (lo.ble k && k.blt hi && v.one) with
  | false => rw [hb] at e; cases e
  | true =>
    rw [hb] at e; simp only [cond_true] at e
    simp only [Bool.and_eq_true, Nat.ble_eq, Nat.blt_eq] at hb
    refine ⟨c, lo, hi, cls, t, hg, hb.1.1, hb.1.2, hb.2, ?_⟩
    cases hc : cls.beq i with
    | true =>
      rw [hc] at e; simp only [cond_true, Option.some.injEq] at e
      have hci : cls = i := Nat.eq_of_beq_eq_true hc
      subst hci; subst e
      exact ⟨rfl, ⟨_, T.get_put_same _ _ _, .inr rfl⟩, ⟨c, lo, hi, cls, t, hg, _, _, _, _, T.get_put_same _ _ _, fun h => absurd rfl h⟩, fun j h _ => T.get_put_ne _ _ _ h⟩
    | false =>
      rw [hc] at e; simp only [cond_false] at e
      have hci : cls ≠ i := Nat.ne_of_beq_eq_false hc
      split at e
      case h_2 => cases e
      rename_i c' lo' hi' cl' u hg'
      simp only [Option.some.injEq] at e
      subst e
      refine ⟨rfl, ⟨_, T.get_put_same _ _ _, .inl rfl⟩, ⟨c', lo', hi', cl', u, hg', c', lo', hi', cl', ?_, fun _ => ⟨rfl, rfl, rfl, rfl⟩⟩, fun j h1 h2 => ?_⟩
      · rw [T.get_put_ne _ _ _ hci, T.get_put_same]
      · rw [T.get_put_ne _ _ _ h1, T.get_put_ne _ _ _ h2]

/-- A cell that is written. -/
theorem RelH.wr {ρ : Rho} {st st' : St} {w : World} (H : RelH ρ st w) {i k : Nat} {v : AV} (e : wrCell st i k v = some st') {a : Addr} (ha : At ρ i k a)
    {x : Value} (hx : RelV ρ v x) : (∃ y, w.cell? a = some y) ∧ w.frozen? a = false ∧ v.one = true ∧ RelH ρ st' (w.setCell a x) ∧ Fr ρ st w ρ st' (w.setCell a x) := by
  obtain ⟨c, lo, hi, cls, t, hg, hlo, hhi, hone, hnx, ⟨t', hg', ht'⟩, ⟨c', lo', hi', cl', u, hroot, c2, lo2, hi2, cl2, hroot', hsame⟩, hoth⟩ := wrCell_spec e
  obtain ⟨b, o, en, hp, hen, hcells⟩ := H.obj i _ hg
  obtain ⟨b', o', en', hp', hb', hs', ho'⟩ := ha
  rw [hp] at hp'; cases hp'
  obtain ⟨n, hn, hf, y, hy, _⟩ := hcells k hlo (by omega)
  have ea : a = ⟨b, n, none⟩ := by
    cases a; simp only at hb' hs' ho'; subst hb'; subst hs'
    congr 1; omega
  subst ea
  have hst' : st' = ⟨st'.h, st.nx + 1⟩ := by cases st'; simp only at hnx; rw [hnx]
  have hval : ∀ cl q s, ValidIn st'.h cl q s → ValidIn st.h cl q s := by
    rintro cl q s ⟨d, l2, h2, k2, r, hr, hrs⟩
    by_cases hcl : cl = cls
    · subst hcl
      rw [hroot'] at hr; cases hr
      refine ⟨_, _, _, _, _, hroot, fun s' hs' => ?_⟩
      by_cases hq : q = k
      · subst hq
        have h1 := hrs st.nx (T.get_put_same _ _ _)
        have h2 := (H.stamp _ _ _ _ _ _ hroot).2.2 _ _ hs'
        omega
      · exact hrs s' (by rw [T.get_put_ne _ _ _ hq]; exact hs')
    · by_cases hci : cl = i
      · subst hci
        rw [hg'] at hr; cases hr
        refine ⟨_, _, _, _, _, hg, fun s' hs' => ?_⟩
        rcases ht' with rfl | rfl
        · exact hrs s' hs'
        · by_cases hq : q = k
          · subst hq
            have h1 := hrs st.nx (T.get_put_same _ _ _)
            have h2 := (H.stamp _ _ _ _ _ _ hg).2.2 _ _ hs'
            omega
          · exact hrs s' (by rw [T.get_put_ne _ _ _ hq]; exact hs')
      · exact ⟨d, l2, h2, k2, r, by rw [← hoth cl hci hcl]; exact hr, hrs⟩
  have hcl : ∀ q s, q = k → ValidIn st'.h cls q s → st.nx ≤ s := by
    rintro q s rfl ⟨d, l2, h2, k2, r, hr, hrs⟩
    rw [hroot'] at hr; cases hr
    exact hrs _ (T.get_put_same _ _ _)
  refine ⟨⟨y, hy⟩, hf, hone, ?_, ?_⟩
  · rw [hst']
    refine H.written (hit := fun q => q = k) hg hp (fun j ob hj hgj => ?_) (fun j d l2 h2 k2 r hgj => ?_) hcl hval (by simp) (fun b2 hb2 => Below.heap_setCell _ _ _ _ hb2) (fun _ => by simp)
      (fun m q hm hq => World.cell?_setCell_other _ _ _ _ (off_ne (by omega))) (fun m hm => ?_) hg' rfl ?_
    · by_cases hjc : j = cls
      · subst hjc
        rw [hroot'] at hgj; cases hgj
        obtain ⟨e1, e2, e3, e4⟩ := hsame hj
        exact ⟨_, hroot, by subst e1; subst e2; subst e3; subst e4; rfl⟩
      · exact ⟨ob, by rw [← hoth j hj hjc]; exact hgj, rfl⟩
    · have base : ∀ (d : T (AV × Nat)), (d = c.put k (v, st.nx) ∨ ∀ q v s, d.get q = some (v, s) → s < st.nx) → ∀ q v s, d.get q = some (v, s) → s < st.nx + 1 := by
        rintro d hd q v2 s hs
        rcases hd with rfl | hd
        · by_cases hq : q = k
          · subst hq; rw [T.get_put_same] at hs; cases hs; omega
          · rw [T.get_put_ne _ _ _ hq] at hs; have := (H.stamp _ _ _ _ _ _ hg).2.1 _ _ _ hs; omega
        · have := hd q v2 s hs; omega
      have baseT : ∀ (r0 r : T Nat), (∀ q s, r0.get q = some s → s < st.nx) → (r = r0 ∨ r = r0.put k st.nx) → ∀ q s, r.get q = some s → s < st.nx + 1 := by
        rintro r0 r h0 (rfl | rfl) q s hs
        · have := h0 q s hs; omega
        · by_cases hq : q = k
          · subst hq; rw [T.get_put_same] at hs; cases hs; omega
          · rw [T.get_put_ne _ _ _ hq] at hs; have := h0 _ _ hs; omega
      by_cases hj : j = i
      · subst hj
        rw [hg'] at hgj; cases hgj
        have S := H.stamp _ _ _ _ _ _ hg
        exact ⟨S.1, base _ (.inl rfl), baseT _ _ S.2.2 ht'⟩
      · by_cases hjc : j = cls
        · subst hjc
          rw [hroot'] at hgj; cases hgj
          obtain ⟨e1, e2, e3, e4⟩ := hsame hj
          subst e1; subst e2; subst e3; subst e4
          have S := H.stamp _ _ _ _ _ _ hroot
          exact ⟨S.1, base _ (.inr S.2.1), baseT _ _ S.2.2 (.inr rfl)⟩
        · rw [hoth j hj hjc] at hgj
          have S := H.stamp _ _ _ _ _ _ hgj
          exact ⟨S.1, base _ (.inr S.2.1), baseT _ _ S.2.2 (.inl rfl)⟩
    · by_cases hmn : m = n
      · subst hmn; rw [World.cell?_setCell_same _ _ _ hy]; rfl
      · rw [World.cell?_setCell_other _ _ _ _ (off_ne (by omega))]; exact hm
    · refine ⟨b, o, en, hp, hen, fun q hq1 hq2 => ?_⟩
      obtain ⟨m, hm, hmf, z, hz, hzv⟩ := hcells q hq1 hq2
      refine ⟨m, hm, by simpa using hmf, ?_⟩
      by_cases hq : q = k
      · subst hq
        have : m = n := by omega
        subst this
        refine ⟨x, World.cell?_setCell_same _ _ _ hy, fun v2 s _ hs _ => ?_⟩
        rw [T.get_put_same] at hs; cases hs; exact hx
      · refine ⟨z, by rw [World.cell?_setCell_other _ _ _ _ (off_ne (by omega))]; exact hz, fun v2 s hh hs hvl => ?_⟩
        rw [T.get_put_ne _ _ _ hq] at hs
        exact hzv v2 s hh hs (hval _ _ _ hvl)
  · refine ⟨by omega, fun _ _ => rfl, fun j p h1 h2 => absurd (H.dom j p h2).1 (by omega), fun j ob hgj _ => ?_, by simp, rfl, rfl, rfl, fun b2 _ hb2 => Below.heap_setCell _ _ _ _ (fun e2 => hb2 ⟨i, _, _, hg, hp, e2.symm⟩), fun j ob c2 hgj hc2 _ => ?_⟩
    · by_cases hj : j = i
      · subst hj; exact ⟨_, hg⟩
      · by_cases hjc : j = cls
        · subst hjc; exact ⟨_, hroot⟩
        · exact ⟨ob, by rw [← hoth j hj hjc]; exact hgj⟩
    · by_cases hj : j = i
      · subst hj; rw [hg'] at hgj; cases hgj; exact ⟨j, _, hg, hc2⟩
      · by_cases hjc : j = cls
        · subst hjc
          rw [hroot'] at hgj; cases hgj
          obtain ⟨e1, e2, e3, e4⟩ := hsame hj
          subst e4
          exact ⟨j, _, hroot, hc2⟩
        · exact ⟨j, ob, by rw [← hoth j hj hjc]; exact hgj, hc2⟩
end Go.Proofs.Ytfkfejonlfcgoaa.Ev
