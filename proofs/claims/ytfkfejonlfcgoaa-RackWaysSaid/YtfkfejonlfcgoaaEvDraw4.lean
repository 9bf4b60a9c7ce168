import Derived.Test.YtfkfejonlfcgoaaEvDraw3
namespace Go.Proofs.Ytfkfejonlfcgoaa.Ev
open Go Go.RowKit

section
variable {P : Program} {D : List Deferred} {A : Array Oper} {wr : T Nat} {n : Nat} {tm : T AV} {call : FuncId → List AV → St → Option (AV × St)}

/-- Is an operation done? -/
def isL (listed : Array Bool) (j : Nat) : Bool := listed.getD j false

/-- How the run stands in a region that draws, in one phase. -/
structure InvR (D : List Deferred) (A : Array Oper) (tm : T AV) (n : Nat) (xsAll xs : List Nat) (ρ0 : Rho) (st0 : St) (w0 : World) (ph : Ph) (listed : Array Bool) (ρ : Rho) (a : Act) (w : World) : Prop where
  size : listed.size = A.size
  closed : ∀ j o, isL listed j = true → A[j]? = some o → ∀ e ∈ preds o, isL listed e = true
  done : ∀ i, ph.done.testBit i = true ↔ (isL listed i = true ∧ i ∈ xsAll)
  rem : ∀ i, i ∈ xs ↔ (i ∈ xsAll ∧ isL listed i = false)
  gone : ∀ i, ph.gone.testBit i = true → isL listed i = true
  asize : a.tmps.size = n
  defers : a.defers = D
  slots : ∀ t v, tm.get t = some v → (∀ j o, isL listed j = true → A[j]? = some o → o.dst ≠ some t) → t < n ∧ RelV ρ v (a.tmps.getD t undef)
  vals : ∀ j o, isL listed j = true → A[j]? = some o → ∃ v, ph.vals.get j = some v ∧ ∀ t, o.dst = some t → RelV ρ v (a.tmps.getD t undef)
  heap : RelH ρ ⟨viewP (isL listed) ph.pend ph.st.h, ph.st.nx⟩ w
  fr : Fr ρ0 st0 w0 ρ ⟨viewP (isL listed) ph.pend ph.st.h, ph.st.nx⟩ w
  pnone : ∀ e ∈ ph.pend, ph.st.h.get e.2.1 = none
  pge : ∀ e ∈ ph.pend, st0.nx ≤ e.2.1
  pfree : ∀ e ∈ ph.pend, isL listed e.1 = false → ρ e.2.1 = none
  pcls : ∀ e ∈ ph.pend, ∀ j o, ph.st.h.get j = some o → o.cls? ≠ some e.2.1
  pown : ∀ e ∈ ph.pend, isL listed e.1 = true → OwnCls e.2.1 e.2.2

theorem isL_set {listed : Array Bool} {i : Nat} (hi : i < listed.size) (j : Nat) : isL (listed.setIfInBounds i true) j = (isL listed j || decide (j = i)) := by
  unfold isL
  by_cases hj : j = i
  · subst hj; simp [hi]
  · have : decide (j = i) = false := decide_eq_false hj
    rw [this, Bool.or_false]
    exact getD_set_ne false (fun e => hj e.symm)

section static
variable {xsAll xs : List Nat} {ρ0 : Rho} {st0 : St} {w0 : World} {ph : Ph} {listed : Array Bool} {ρ : Rho} {a : Act} {w : World}

theorem InvR.anc (I : InvR D A tm n xsAll xs ρ0 st0 w0 ph listed ρ a w) {i : Nat} {o : Oper} (ho : A[i]? = some o) (hpre : ∀ e ∈ preds o, isL listed e = true) {j : Nat} (hj : (an (ancs A.toList 0 .leaf) i).testBit j = true) : isL listed j = true := by
  have S := (ancs_spec A.toList 0 .leaf (fun i _ => T.get_leaf i)).2 i o (by simpa using ho)
  obtain ⟨t', g1, g2, g3⟩ := S
  rw [Nat.zero_add] at g1 g2 g3
  unfold an at hj
  rw [g1] at hj
  simp only [Option.getD_some] at hj
  obtain ⟨e, he, hej⟩ := orP_bit hj
  rcases hej with rfl | hej
  · exact hpre _ he
  · by_cases hlt : e < i
    · rw [g2 e hlt] at hej
      exact closed_anc (L := fun k => isL listed k = true) (j := e) (fun k o hk hL hok => I.closed k o hL (by simpa using hok)) e (Nat.le_refl _) (hpre _ he) j hej
    · rw [g3 e (by omega)] at hej; simp at hej

theorem InvR.anc_listed (I : InvR D A tm n xsAll xs ρ0 st0 w0 ph listed ρ a w) {k : Nat} (hk : isL listed k = true) {j : Nat} (hj : (an (ancs A.toList 0 .leaf) k).testBit j = true) : isL listed j = true :=
  closed_anc (L := fun k => isL listed k = true) (j := k) (fun k o hk hL hok => I.closed k o hL (by simpa using hok)) k (Nat.le_refl _) hk j hj

/-- What a slot is known to hold, it holds. -/
theorem InvR.slot (I : InvR D A tm n xsAll xs ρ0 st0 w0 ph listed ρ a w) (hwr : wrs A.toList 0 .leaf = some wr) (hn : ∀ (j : Nat) (o : Oper) (d : Nat), A[j]? = some o → o.dst = some d → d < n) {i : Nat} (hi : isL listed i = false)
    (hanc : ∀ j, (an (ancs A.toList 0 .leaf) i).testBit j = true → isL listed j = true) {vals' : T AV} (hv : Vle vals' ph.vals) :
    ∀ d v, slotG wr (ancs A.toList 0 .leaf) tm vals' i d = some v → d < a.tmps.size ∧ RelV ρ v (a.tmps.getD d undef) := by
  intro d v e
  obtain ⟨_, W2, W3⟩ := wrs_spec hwr
  rw [I.asize]
  unfold slotG at e
  split at e
  · rename_i hwd
    refine I.slots d v e (fun j o _ ho hd => ?_)
    have := W2 j o d (by simpa using ho) hd
    rw [hwd] at this; cases this
  · rename_i j hwd
    obtain ⟨o, hjo, hjd⟩ : ∃ o, A[j]? = some o ∧ o.dst = some d := by
      rcases W3 d j hwd with h | ⟨k, o, h1, h2, h3⟩
      · simp [T.get_leaf] at h
      · rw [Nat.zero_add] at h1; subst h1; exact ⟨o, by simpa using h2, h3⟩
    cases hb : (an (ancs A.toList 0 .leaf) i).testBit j with
    | true =>
      rw [hb] at e; simp only [cond_true] at e
      obtain ⟨v2, h1, h2⟩ := I.vals j o (hanc j hb) hjo
      have := hv _ _ e
      rw [h1] at this; cases this
      exact ⟨hn j o d hjo hjd, h2 d hjd⟩
    | false =>
      rw [hb] at e; simp only [cond_false] at e
      cases hb2 : (j.beq i || (an (ancs A.toList 0 .leaf) j).testBit i) with
      | false => rw [hb2] at e; cases e
      | true =>
        rw [hb2] at e; simp only [cond_true] at e
        have hjL : isL listed j = false := by
          cases hL : isL listed j with
          | false => rfl
          | true =>
            exfalso
            rcases Bool.or_eq_true_iff.1 hb2 with h | h
            · rw [Nat.eq_of_beq_eq_true h, hi] at hL; cases hL
            · have := I.anc_listed hL h; rw [hi] at this; cases this
        refine I.slots d v e (fun j' o' hj' ho' hd' => ?_)
        have := W2 j' o' d (by simpa using ho') hd'
        rw [Nat.zero_add, hwd] at this
        cases this
        rw [hjL] at hj'; cases hj'

theorem InvR.env (I : InvR D A tm n xsAll xs ρ0 st0 w0 ph listed ρ a w) (hwr : wrs A.toList 0 .leaf = some wr) (hn : ∀ (j : Nat) (o : Oper) (d : Nat), A[j]? = some o → o.dst = some d → d < n) {i : Nat} (hi : isL listed i = false)
    (hanc : ∀ j, (an (ancs A.toList 0 .leaf) i).testBit j = true → isL listed j = true) {vals' : T AV} (hv : Vle vals' ph.vals) : EvOk ρ (envG wr (ancs A.toList 0 .leaf) tm vals' i) a.eval := by
  intro x v e
  cases x with
  | tmp t => exact (I.slot hwr hn hi hanc hv t v e).2
  | const u => simp only [envG, Option.some.injEq] at e; subst e; exact RelV.sc _
  | global g => simp [envG] at e
  | func f => simp only [envG, Option.some.injEq] at e; subst e; exact RelV.sc _

/-- The slots behind one more operation. -/
theorem InvR.slots_next (I : InvR D A tm n xsAll xs ρ0 st0 w0 ph listed ρ a w) (hwr : wrs A.toList 0 .leaf = some wr) (hn : ∀ (j : Nat) (o : Oper) (d : Nat), A[j]? = some o → o.dst = some d → d < n) {i : Nat} {o : Oper} (ho : A[i]? = some o) (hi : isL listed i = false)
    {ρ' : Rho} (hx : Ext ρ ρ') {u : AV} {y : Value} (hy : RelV ρ' u y) {vals' : T AV} (hv : Vle ph.vals vals') (hu : vals'.get i = some u) :
    (∀ t v, tm.get t = some v → (∀ j o, isL (listed.setIfInBounds i true) j = true → A[j]? = some o → o.dst ≠ some t) → t < n ∧ RelV ρ' v ((a.put o.dst y).tmps.getD t undef)) ∧
    (∀ j o', isL (listed.setIfInBounds i true) j = true → A[j]? = some o' → ∃ v, vals'.get j = some v ∧ ∀ t, o'.dst = some t → RelV ρ' v ((a.put o.dst y).tmps.getD t undef)) := by
  have hlt : i < listed.size := by rw [I.size]; exact (Array.getElem?_eq_some_iff.1 ho).1
  obtain ⟨_, W2, _⟩ := wrs_spec hwr
  have keep : ∀ t, o.dst ≠ some t → (a.put o.dst y).tmps.getD t undef = a.tmps.getD t undef := by
    intro t ht
    cases hd : o.dst with
    | none => rfl
    | some d =>
      have : d ≠ t := by rintro rfl; exact ht hd
      simp [Act.put, Array.getD_eq_getD_getElem?, Array.getElem?_setIfInBounds_ne this]
  constructor
  · intro t v ht hw
    have h1 : o.dst ≠ some t := hw i o (by rw [isL_set hlt]; simp) ho
    obtain ⟨g1, g2⟩ := I.slots t v ht (fun j o' hj => hw j o' (by rw [isL_set hlt, hj]; rfl))
    exact ⟨g1, by rw [keep t h1]; exact RelV.mono hx _ _ g2⟩
  · intro j o' hj ho'
    by_cases hji : j = i
    · subst hji
      rw [ho] at ho'; cases ho'
      refine ⟨u, hu, fun t ht => ?_⟩
      rw [ht]
      have := hn j o t ho ht
      simp [Act.put, I.asize, this]; exact hy
    · rw [isL_set hlt, decide_eq_false hji, Bool.or_false] at hj
      obtain ⟨v, h1, h2⟩ := I.vals j o' hj ho'
      refine ⟨v, hv _ _ h1, fun t ht => ?_⟩
      have hne : o.dst ≠ some t := by
        intro hd
        have e1 := W2 i o t (by simpa using ho) hd
        have e2 := W2 j o' t (by simpa using ho') ht
        rw [e1] at e2
        simp only [Nat.zero_add, Option.some.injEq] at e2
        exact hji e2.symm
      rw [keep t hne]
      exact RelV.mono hx _ _ (h2 t ht)

theorem InvR.closed_next (I : InvR D A tm n xsAll xs ρ0 st0 w0 ph listed ρ a w) {i : Nat} {o : Oper} (ho : A[i]? = some o) (hpre : ∀ e ∈ preds o, isL listed e = true) :
    ∀ j o', isL (listed.setIfInBounds i true) j = true → A[j]? = some o' → ∀ e ∈ preds o', isL (listed.setIfInBounds i true) e = true := by
  have hlt : i < listed.size := by rw [I.size]; exact (Array.getElem?_eq_some_iff.1 ho).1
  intro j o' hj ho' e he
  rw [isL_set hlt] at hj ⊢
  by_cases hji : j = i
  · subst hji
    rw [ho] at ho'; cases ho'
    rw [hpre e he]; rfl
  · rw [decide_eq_false hji, Bool.or_false] at hj
    rw [I.closed j o' hj ho' e he]; rfl

/-- One operation that is no step of the chain. -/
theorem stepQF (I : InvR D A tm n xsAll xs ρ0 st0 w0 ph listed ρ a w) (hxs : xsAll = xsOf A.toList 0) (hwr : wrs A.toList 0 .leaf = some wr) (hn : ∀ (j : Nat) (o : Oper) (d : Nat), A[j]? = some o → o.dst = some d → d < n)
    (hok : PhOk P A.toList (ancs A.toList 0 .leaf) wr tm ph) (hpass : ∀ j, PassOk P A.toList (ancs A.toList 0 .leaf) wr (maskOf xsAll) tm ph j)
    {i : Nat} {o : Oper} (ho : A[i]? = some o) (hi : isL listed i = false) (hpre : ∀ e ∈ preds o, isL listed e = true) (hk : kindOf o.op ≠ .x) {Q : Exit → Act → World → Prop} {KK : Act → World → Prop}
    (hK : ∀ ρ' a' w', InvR D A tm n xsAll xs ρ0 st0 w0 ph (listed.setIfInBounds i true) ρ' a' w' → KK a' w') : wpOp P A Q i KK a w := by
  have hlt : i < listed.size := by rw [I.size]; exact (Array.getElem?_eq_some_iff.1 ho).1
  have hanc : ∀ j, (an (ancs A.toList 0 .leaf) i).testBit j = true → isL listed j = true := fun j hj => I.anc ho hpre hj
  have hoL : A.toList[i]? = some o := by simpa using ho
  have hix : i ∉ xsAll := by
    rw [hxs, xsOf_spec]
    rintro ⟨k, o', h1, h2, h3⟩
    rw [Nat.zero_add] at h1; subst h1
    rw [hoL] at h2; cases h2; exact hk h3
  have hgone : ph.gone.testBit i = false := by
    cases h : ph.gone.testBit i with
    | false => rfl
    | true => have := I.gone i h; rw [hi] at this; cases this
  have hpos : possible (ancs A.toList 0 .leaf) (maskOf xsAll) i ph = true := by
    unfold possible
    rw [hgone]
    simp only [Bool.not_false, Bool.and_true, Nat.beq_eq]
    refine Nat.eq_of_testBit_eq fun j => ?_
    rw [testBit_land]
    cases h : (an (ancs A.toList 0 .leaf) i &&& maskOf xsAll).testBit j with
    | false => rfl
    | true =>
      rw [testBit_land, Bool.and_eq_true] at h
      rw [Bool.true_and]
      exact (I.done j).2 ⟨hanc j h.1, maskOf_bit.1 h.2⟩
  obtain ⟨u, hu, hheap⟩ := hpass i o hoL hk hpos
  obtain ⟨vals', hv', hcase⟩ := hok.vals i u o hoL hk hu
  have hwant : ∀ {vals2 : T AV} {b : Bool}, Vle vals2 ph.vals → wantedA A.toList (slotG wr (ancs A.toList 0 .leaf) tm vals2 i) o = some b → Region.wanted o (yielded A a.tmps) = b :=
    fun hv h => wantedA_sound (I.slot hwr hn hi hanc hv) h
  -- behind it
  have fin : ∀ ρ' y w', Ext ρ ρ' → RelV ρ' u y → RelH ρ' ⟨viewP (isL (listed.setIfInBounds i true)) ph.pend ph.st.h, ph.st.nx⟩ w' → Fr ρ0 st0 w0 ρ' ⟨viewP (isL (listed.setIfInBounds i true)) ph.pend ph.st.h, ph.st.nx⟩ w' →
      (∀ e ∈ ph.pend, isL listed e.1 = false → e.1 ≠ i → ρ' e.2.1 = none) → (∀ e ∈ ph.pend, e.1 = i → OwnCls e.2.1 e.2.2) → KK (a.put o.dst y) w' := by
    intro ρ' y w' hx hy hH hF hfree hown
    obtain ⟨s1, s2⟩ := I.slots_next hwr hn ho hi hx hy (Vle.refl _) hu
    refine hK ρ' _ w' ⟨by simp [I.size], I.closed_next ho hpre, fun j => ?_, fun j => ?_, fun j hj => ?_, ?_, ?_, s1, s2, hH, hF, I.pnone, I.pge, fun e he hL => ?_, I.pcls, fun e he hL => ?_⟩
    · rw [I.done j, isL_set hlt]
      by_cases hji : j = i
      · subst hji; simp [hix]
      · simp [hji]
    · rw [I.rem j, isL_set hlt]
      by_cases hji : j = i
      · subst hji; simp [hix]
      · simp [hji]
    · rw [isL_set hlt, I.gone j hj]; rfl
    · cases hd : o.dst <;> simp [Act.put, I.asize]
    · cases hd : o.dst <;> simp [Act.put, I.defers]
    · rw [isL_set hlt, Bool.or_eq_false_iff, decide_eq_false_iff_not] at hL
      exact hfree e he hL.1 hL.2
    · rw [isL_set hlt, Bool.or_eq_true, decide_eq_true_eq] at hL
      rcases hL with h | h
      · exact I.pown e he h
      · exact hown e he h
  -- where no object is made
  have noEntry : (∀ e ∈ ph.pend, e.1 ≠ i) → ∀ y, RelV ρ u y → KK (a.put o.dst y) w := by
    intro hne y hy
    have hview : ∀ k ob, (viewP (isL (listed.setIfInBounds i true)) ph.pend ph.st.h).get k = some ob → (viewP (isL listed) ph.pend ph.st.h).get k = some ob := fun k ob hg =>
      viewP_sub hok.apart hok.apart (fun e he hp => ⟨he, by rw [isL_set hlt, decide_eq_false (hne e he), Bool.or_false] at hp; exact hp⟩) I.pnone hg
    exact fin ρ y w (Ext.refl _) hy (I.heap.sub hview) (I.fr.congr hview (Nat.le_refl _)) (fun e he hL _ => I.pfree e he hL) (fun e he h => absurd h (hne e he))
  unfold wpOp
  rw [ho]
  simp only
  rcases hcase with ⟨hw, rfl⟩ | ⟨hw, hkind⟩
  · rw [hwant hv' hw]
    simp only [Bool.false_eq_true, if_false]
    refine noEntry (fun e he hei => ?_) undef (RelV.sc _)
    obtain ⟨o', v2, u', g1, g2, g3, g4, g5, g6⟩ := hok.pend e he
    rw [hei] at g1 g4
    rw [hoL] at g1; cases g1
    have e1 := wantedA_mono (fun d v hd => slotG_mono hv' hd) hw
    have e2 := wantedA_mono (fun d v hd => slotG_mono g3 hd) g4
    rw [e1] at e2; simp at e2
  · rw [hwant hv' hw]
    simp only [if_true]
    rcases hkind with ⟨hkq, h', hev⟩ | ⟨hkf, id, ao, hev, hpend⟩
    · have hne : ∀ e ∈ ph.pend, e.1 ≠ i := by
        intro e he hei
        obtain ⟨o', v2, u', g1, g2, g3, g4, g5, g6⟩ := hok.pend e he
        rw [hei] at g1
        rw [hoL] at g1; cases g1
        rw [hkq] at g2; cases g2
      have run : ∃ y, (execOp a.eval o).run P w = .ok (.value y) w ∧ RelV ρ u y := by
        cases hh : heapOp o.op with
        | false =>
          rw [evQ_heap (h' := .leaf) hh] at hev
          exact evQ_sound (st := ⟨.leaf, ph.st.nx⟩) (I.heap.sub (fun k ob h => by rw [T.get_leaf] at h; cases h)) (I.env hwr hn hi hanc hv') hev
        | true =>
          obtain ⟨_, hev2⟩ := hheap hh
          obtain ⟨v2, pend', g1, g2, g3, g4⟩ := hev2 (wantedA_mono (fun d v hd => slotG_mono hv' hd) hw)
          refine evQ_sound (st := ⟨viewP (an (ancs A.toList 0 .leaf) i).testBit pend' ph.st.h, ph.st.nx⟩) (I.heap.sub (fun k ob h => ?_)) (I.env hwr hn hi hanc g1) g4
          exact viewP_sub g3 hok.apart (fun e he hp => ⟨g2 e he, hanc _ hp⟩) I.pnone h
      obtain ⟨y, h1, h2⟩ := run
      refine .inl ?_
      unfold Oper.wp; rw [h1]
      exact noEntry hne y h2
    · have hin := hpend hgone
      have hidlt := hok.lt _ hin
      have hfree := I.pfree _ hin hi
      obtain ⟨y, w', p, h1, h2, h3, h4, h5, h6⟩ := evF_sound (P := P) I.heap (I.env hwr hn hi hanc hv') hfree hidlt (Nat.le_refl _) hev
      refine .inl ?_
      unfold Oper.wp; rw [h1]
      have hview : ∀ k ob, (viewP (isL (listed.setIfInBounds i true)) ph.pend ph.st.h).get k = some ob → ((viewP (isL listed) ph.pend ph.st.h).put id ao).get k = some ob := by
        intro k ob hg
        rcases viewP_inv hok.apart hg with ⟨e, he, hp, rfl, rfl⟩ | ⟨hnone, hg⟩
        · by_cases hei : e.1 = i
          · have : e = (i, id, ao) := Apart.uniq1 hok.apart he hin hei
            subst this
            exact T.get_put_same _ _ _
          · rw [isL_set hlt, decide_eq_false hei, Bool.or_false] at hp
            have hid : e.2.1 ≠ id := fun hid => hei (by rw [Apart.uniq2 hok.apart he hin hid])
            rw [T.get_put_ne _ _ _ hid]
            exact viewP_mem hok.apart e he hp
        · have hk : k ≠ id := by
            rintro rfl
            exact hnone _ hin (by rw [isL_set hlt]; simp) rfl
          rw [T.get_put_ne _ _ _ hk]
          rw [viewP_other (fun e he hp => hnone e he (by rw [isL_set hlt, hp]; rfl))]; exact hg
      refine fin (upd ρ id p) y w' (ext_upd p hfree) h2 (h3.sub hview) ((I.fr.fresh (I.pge _ hin) (Nat.le_refl _) ao h6 h5 h4).congr hview (Nat.le_refl _)) (fun e he hL hne => ?_) (fun e he hei => ?_)
      · have hid : e.2.1 ≠ id := fun hid => hne (by rw [Apart.uniq2 hok.apart he hin hid])
        rw [upd_ne _ _ hid]; exact I.pfree e he hL
      · have : e = (i, id, ao) := Apart.uniq1 hok.apart he hin hei
        subst this
        exact h6
end static
end
end Go.Proofs.Ytfkfejonlfcgoaa.Ev
