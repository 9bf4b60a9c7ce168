/- The evaluator, part 3: EvDraw4 EvDraw5 EvMain EvFast EvRes EvFst EvPan EvPan2. Made out of the texts of these names. -/
import Derived.Test.YthlcnklbeolhpaaEvAll2
import Derived.LoopN
import Derived.Test.YthlcnklbeolhpaaBase

/-! EvDraw4 -/
namespace Go.Proofs.Ythlcnklbeolhpaa.Ev
open Go Go.RowKit

section
variable {P : Program} {D : List Deferred} {A : Array Oper} {wr : T Nat} {n : Nat} {tm : T AV} {call : FuncId → List AV → St → Option (AV × St)}

/-- Is an operation done? -/
def isL (listed : Array Bool) (j : Nat) : Bool := listed.getD j false

/-- How the run stands in a region that draws, in one phase. -/
structure InvR (D : List Deferred) (A : Array Oper) (tm : T AV) (n : Nat) (xsAll xs : List Nat) (ρ0 : Rho) (st0 : St) (w0 : World) (ph : Ph) (listed : Array Bool) (ρ : Rho) (a : Act) (w : World) : Prop where
  size : listed.size = A.size
  closed : ∀ j o, isL listed j = true → A[j]? = some o → ∀ e ∈ preds o, isL listed e = true
  done : ∀ i, ph.done.testBit i = true ↔ (isL listed i = true ∧ i ∈ xsAll)
  rem : ∀ i, i ∈ xs ↔ (i ∈ xsAll ∧ isL listed i = false)
  gone : ∀ i, ph.gone.testBit i = true → isL listed i = true
  asize : a.tmps.size = n
  defers : a.defers = D
  slots : ∀ t v, tm.get t = some v → (∀ j o, isL listed j = true → A[j]? = some o → o.dst ≠ some t) → t < n ∧ RelV ρ v (a.tmps.getD t undef)
  vals : ∀ j o, isL listed j = true → A[j]? = some o → ∃ v, ph.vals.get j = some v ∧ ∀ t, o.dst = some t → RelV ρ v (a.tmps.getD t undef)
  heap : RelH ρ ⟨viewP (isL listed) ph.pend ph.st.h, ph.st.nx⟩ w
  fr : Fr ρ0 st0 w0 ρ ⟨viewP (isL listed) ph.pend ph.st.h, ph.st.nx⟩ w
  pnone : ∀ e ∈ ph.pend, ph.st.h.get e.2.1 = none
  pge : ∀ e ∈ ph.pend, st0.nx ≤ e.2.1
  pfree : ∀ e ∈ ph.pend, isL listed e.1 = false → ρ e.2.1 = none
  pcls : ∀ e ∈ ph.pend, ∀ j o, ph.st.h.get j = some o → o.cls? ≠ some e.2.1
  pown : ∀ e ∈ ph.pend, isL listed e.1 = true → OwnCls e.2.1 e.2.2

theorem isL_set {listed : Array Bool} {i : Nat} (hi : i < listed.size) (j : Nat) : isL (listed.setIfInBounds i true) j = (isL listed j || decide (j = i)) := by
  unfold isL
  by_cases hj : j = i
  · subst hj; simp [hi]
  · have : decide (j = i) = false := decide_eq_false hj
    rw [this, Bool.or_false]
    exact getD_set_ne false (fun e => hj e.symm)

section static
variable {xsAll xs : List Nat} {ρ0 : Rho} {st0 : St} {w0 : World} {ph : Ph} {listed : Array Bool} {ρ : Rho} {a : Act} {w : World}

theorem InvR.anc (I : InvR D A tm n xsAll xs ρ0 st0 w0 ph listed ρ a w) {i : Nat} {o : Oper} (ho : A[i]? = some o) (hpre : ∀ e ∈ preds o, isL listed e = true) {j : Nat} (hj : (an (ancs A.toList 0 .leaf) i).testBit j = true) : isL listed j = true := by
  have S := (ancs_spec A.toList 0 .leaf (fun i _ => T.get_leaf i)).2 i o (by simpa using ho)
  obtain ⟨t', g1, g2, g3⟩ := S
  rw [Nat.zero_add] at g1 g2 g3
  unfold an at hj
  rw [g1] at hj
  simp only [Option.getD_some] at hj
  obtain ⟨e, he, hej⟩ := orP_bit hj
  rcases hej with rfl | hej
  · exact hpre _ he
  · by_cases hlt : e < i
    · rw [g2 e hlt] at hej
      exact closed_anc (L := fun k => isL listed k = true) (j := e) (fun k o hk hL hok => I.closed k o hL (by simpa using hok)) e (Nat.le_refl _) (hpre _ he) j hej
    · rw [g3 e (by omega)] at hej; simp at hej

theorem InvR.anc_listed (I : InvR D A tm n xsAll xs ρ0 st0 w0 ph listed ρ a w) {k : Nat} (hk : isL listed k = true) {j : Nat} (hj : (an (ancs A.toList 0 .leaf) k).testBit j = true) : isL listed j = true :=
  closed_anc (L := fun k => isL listed k = true) (j := k) (fun k o hk hL hok => I.closed k o hL (by simpa using hok)) k (Nat.le_refl _) hk j hj

/-- What a slot is known to hold, it holds. -/
theorem InvR.slot (I : InvR D A tm n xsAll xs ρ0 st0 w0 ph listed ρ a w) (hwr : wrs A.toList 0 .leaf = some wr) (hn : ∀ (j : Nat) (o : Oper) (d : Nat), A[j]? = some o → o.dst = some d → d < n) {i : Nat} (hi : isL listed i = false)
    (hanc : ∀ j, (an (ancs A.toList 0 .leaf) i).testBit j = true → isL listed j = true) {vals' : T AV} (hv : Vle vals' ph.vals) :
    ∀ d v, slotG wr (ancs A.toList 0 .leaf) tm vals' i d = some v → d < a.tmps.size ∧ RelV ρ v (a.tmps.getD d undef) := by
  intro d v e
  obtain ⟨_, W2, W3⟩ := wrs_spec hwr
  rw [I.asize]
  unfold slotG at e
  split at e
  · rename_i hwd
    refine I.slots d v e (fun j o _ ho hd => ?_)
    have := W2 j o d (by simpa using ho) hd
    rw [hwd] at this; cases this
  · rename_i j hwd
    obtain ⟨o, hjo, hjd⟩ : ∃ o, A[j]? = some o ∧ o.dst = some d := by
      rcases W3 d j hwd with h | ⟨k, o, h1, h2, h3⟩
      · simp [T.get_leaf] at h
      · rw [Nat.zero_add] at h1; subst h1; exact ⟨o, by simpa using h2, h3⟩
    cases hb : (an (ancs A.toList 0 .leaf) i).testBit j with
    | true =>
      rw [hb] at e; simp only [cond_true] at e
      obtain ⟨v2, h1, h2⟩ := I.vals j o (hanc j hb) hjo
      have := hv _ _ e
      rw [h1] at this; cases this
      exact ⟨hn j o d hjo hjd, h2 d hjd⟩
    | false =>
      rw [hb] at e; simp only [cond_false] at e
      cases hb2 : (j.beq i || (an (ancs A.toList 0 .leaf) j).testBit i) with
      | false => rw [hb2] at e; cases e
      | true =>
        rw [hb2] at e; simp only [cond_true] at e
        have hjL : isL listed j = false := by
          cases hL : isL listed j with
          | false => rfl
          | true =>
            exfalso
            rcases Bool.or_eq_true_iff.1 hb2 with h | h
            · rw [Nat.eq_of_beq_eq_true h, hi] at hL; cases hL
            · have := I.anc_listed hL h; rw [hi] at this; cases this
        refine I.slots d v e (fun j' o' hj' ho' hd' => ?_)
        have := W2 j' o' d (by simpa using ho') hd'
        rw [Nat.zero_add, hwd] at this
        cases this
        rw [hjL] at hj'; cases hj'

theorem InvR.env (I : InvR D A tm n xsAll xs ρ0 st0 w0 ph listed ρ a w) (hwr : wrs A.toList 0 .leaf = some wr) (hn : ∀ (j : Nat) (o : Oper) (d : Nat), A[j]? = some o → o.dst = some d → d < n) {i : Nat} (hi : isL listed i = false)
    (hanc : ∀ j, (an (ancs A.toList 0 .leaf) i).testBit j = true → isL listed j = true) {vals' : T AV} (hv : Vle vals' ph.vals) : EvOk ρ (envG wr (ancs A.toList 0 .leaf) tm vals' i) a.eval := by
  intro x v e
  cases x with
  | tmp t => exact (I.slot hwr hn hi hanc hv t v e).2
  | const u => simp only [envG, Option.some.injEq] at e; subst e; exact RelV.sc _
  | global g => simp [envG] at e
  | func f => simp only [envG, Option.some.injEq] at e; subst e; exact RelV.sc _

/-- The slots behind one more operation. -/
theorem InvR.slots_next (I : InvR D A tm n xsAll xs ρ0 st0 w0 ph listed ρ a w) (hwr : wrs A.toList 0 .leaf = some wr) (hn : ∀ (j : Nat) (o : Oper) (d : Nat), A[j]? = some o → o.dst = some d → d < n) {i : Nat} {o : Oper} (ho : A[i]? = some o) (hi : isL listed i = false)
    {ρ' : Rho} (hx : Ext ρ ρ') {u : AV} {y : Value} (hy : RelV ρ' u y) {vals' : T AV} (hv : Vle ph.vals vals') (hu : vals'.get i = some u) :
    (∀ t v, tm.get t = some v → (∀ j o, isL (listed.setIfInBounds i true) j = true → A[j]? = some o → o.dst ≠ some t) → t < n ∧ RelV ρ' v ((a.put o.dst y).tmps.getD t undef)) ∧
    (∀ j o', isL (listed.setIfInBounds i true) j = true → A[j]? = some o' → ∃ v, vals'.get j = some v ∧ ∀ t, o'.dst = some t → RelV ρ' v ((a.put o.dst y).tmps.getD t undef)) := by
  have hlt : i < listed.size := by rw [I.size]; exact (Array.getElem?_eq_some_iff.1 ho).1
  obtain ⟨_, W2, _⟩ := wrs_spec hwr
  have keep : ∀ t, o.dst ≠ some t → (a.put o.dst y).tmps.getD t undef = a.tmps.getD t undef := by
    intro t ht
    cases hd : o.dst with
    | none => rfl
    | some d =>
      have : d ≠ t := by rintro rfl; exact ht hd
      simp [Act.put, Array.getD_eq_getD_getElem?, Array.getElem?_setIfInBounds_ne this]
  constructor
  · intro t v ht hw
    have h1 : o.dst ≠ some t := hw i o (by rw [isL_set hlt]; simp) ho
    obtain ⟨g1, g2⟩ := I.slots t v ht (fun j o' hj => hw j o' (by rw [isL_set hlt, hj]; rfl))
    exact ⟨g1, by rw [keep t h1]; exact RelV.mono hx _ _ g2⟩
  · intro j o' hj ho'
    by_cases hji : j = i
    · subst hji
      rw [ho] at ho'; cases ho'
      refine ⟨u, hu, fun t ht => ?_⟩
      rw [ht]
      have := hn j o t ho ht
      simp [Act.put, I.asize, this]; exact hy
    · rw [isL_set hlt, decide_eq_false hji, Bool.or_false] at hj
      obtain ⟨v, h1, h2⟩ := I.vals j o' hj ho'
      refine ⟨v, hv _ _ h1, fun t ht => ?_⟩
      have hne : o.dst ≠ some t := by
        intro hd
        have e1 := W2 i o t (by simpa using ho) hd
        have e2 := W2 j o' t (by simpa using ho') ht
        rw [e1] at e2
        simp only [Nat.zero_add, Option.some.injEq] at e2
        exact hji e2.symm
      rw [keep t hne]
      exact RelV.mono hx _ _ (h2 t ht)

theorem InvR.closed_next (I : InvR D A tm n xsAll xs ρ0 st0 w0 ph listed ρ a w) {i : Nat} {o : Oper} (ho : A[i]? = some o) (hpre : ∀ e ∈ preds o, isL listed e = true) :
    ∀ j o', isL (listed.setIfInBounds i true) j = true → A[j]? = some o' → ∀ e ∈ preds o', isL (listed.setIfInBounds i true) e = true := by
  have hlt : i < listed.size := by rw [I.size]; exact (Array.getElem?_eq_some_iff.1 ho).1
  intro j o' hj ho' e he
  rw [isL_set hlt] at hj ⊢
  by_cases hji : j = i
  · subst hji
    rw [ho] at ho'; cases ho'
    rw [hpre e he]; rfl
  · rw [decide_eq_false hji, Bool.or_false] at hj
    rw [I.closed j o' hj ho' e he]; rfl

/-- One operation that is no step of the chain. -/
theorem stepQF (I : InvR D A tm n xsAll xs ρ0 st0 w0 ph listed ρ a w) (hxs : xsAll = xsOf A.toList 0) (hwr : wrs A.toList 0 .leaf = some wr) (hn : ∀ (j : Nat) (o : Oper) (d : Nat), A[j]? = some o → o.dst = some d → d < n)
    (hok : PhOk P A.toList (ancs A.toList 0 .leaf) wr tm ph) (hpass : ∀ j, PassOk P A.toList (ancs A.toList 0 .leaf) wr (maskOf xsAll) tm ph j)
    {i : Nat} {o : Oper} (ho : A[i]? = some o) (hi : isL listed i = false) (hpre : ∀ e ∈ preds o, isL listed e = true) (hk : kindOf o.op ≠ .x) {Q : Exit → Act → World → Prop} {KK : Act → World → Prop}
    (hK : ∀ ρ' a' w', InvR D A tm n xsAll xs ρ0 st0 w0 ph (listed.setIfInBounds i true) ρ' a' w' → KK a' w') : wpOp P A Q i KK a w := by
  have hlt : i < listed.size := by rw [I.size]; exact (Array.getElem?_eq_some_iff.1 ho).1
  have hanc : ∀ j, (an (ancs A.toList 0 .leaf) i).testBit j = true → isL listed j = true := fun j hj => I.anc ho hpre hj
  have hoL : A.toList[i]? = some o := by simpa using ho
  have hix : i ∉ xsAll := by
    rw [hxs, xsOf_spec]
    rintro ⟨k, o', h1, h2, h3⟩
    rw [Nat.zero_add] at h1; subst h1
    rw [hoL] at h2; cases h2; exact hk h3
  have hgone : ph.gone.testBit i = false := by
    cases h : ph.gone.testBit i with
    | false => rfl
    | true => have := I.gone i h; rw [hi] at this; cases this
  have hpos : possible (ancs A.toList 0 .leaf) (maskOf xsAll) i ph = true := by
    unfold possible
    rw [hgone]
    simp only [Bool.not_false, Bool.and_true, Nat.beq_eq]
    refine Nat.eq_of_testBit_eq fun j => ?_
    rw [testBit_land]
    cases h : (an (ancs A.toList 0 .leaf) i &&& maskOf xsAll).testBit j with
    | false => rfl
    | true =>
      rw [testBit_land, Bool.and_eq_true] at h
      rw [Bool.true_and]
      exact (I.done j).2 ⟨hanc j h.1, maskOf_bit.1 h.2⟩
  obtain ⟨u, hu, hheap⟩ := hpass i o hoL hk hpos
  obtain ⟨vals', hv', hcase⟩ := hok.vals i u o hoL hk hu
  have hwant : ∀ {vals2 : T AV} {b : Bool}, Vle vals2 ph.vals → wantedA A.toList (slotG wr (ancs A.toList 0 .leaf) tm vals2 i) o = some b → Region.wanted o (yielded A a.tmps) = b :=
    fun hv h => wantedA_sound (I.slot hwr hn hi hanc hv) h
  -- behind it
  have fin : ∀ ρ' y w', Ext ρ ρ' → RelV ρ' u y → RelH ρ' ⟨viewP (isL (listed.setIfInBounds i true)) ph.pend ph.st.h, ph.st.nx⟩ w' → Fr ρ0 st0 w0 ρ' ⟨viewP (isL (listed.setIfInBounds i true)) ph.pend ph.st.h, ph.st.nx⟩ w' →
      (∀ e ∈ ph.pend, isL listed e.1 = false → e.1 ≠ i → ρ' e.2.1 = none) → (∀ e ∈ ph.pend, e.1 = i → OwnCls e.2.1 e.2.2) → KK (a.put o.dst y) w' := by
    intro ρ' y w' hx hy hH hF hfree hown
    obtain ⟨s1, s2⟩ := I.slots_next hwr hn ho hi hx hy (Vle.refl _) hu
    refine hK ρ' _ w' ⟨by simp [I.size], I.closed_next ho hpre, fun j => ?_, fun j => ?_, fun j hj => ?_, ?_, ?_, s1, s2, hH, hF, I.pnone, I.pge, fun e he hL => ?_, I.pcls, fun e he hL => ?_⟩
    · rw [I.done j, isL_set hlt]
      by_cases hji : j = i
      · subst hji; simp [hix]
      · simp [hji]
    · rw [I.rem j, isL_set hlt]
      by_cases hji : j = i
      · subst hji; simp [hix]
      · simp [hji]
    · rw [isL_set hlt, I.gone j hj]; rfl
    · cases hd : o.dst <;> simp [Act.put, I.asize]
    · cases hd : o.dst <;> simp [Act.put, I.defers]
    · rw [isL_set hlt, Bool.or_eq_false_iff, decide_eq_false_iff_not] at hL
      exact hfree e he hL.1 hL.2
    · rw [isL_set hlt, Bool.or_eq_true, decide_eq_true_eq] at hL
      rcases hL with h | h
      · exact I.pown e he h
      · exact hown e he h
  -- where no object is made
  have noEntry : (∀ e ∈ ph.pend, e.1 ≠ i) → ∀ y, RelV ρ u y → KK (a.put o.dst y) w := by
    intro hne y hy
    have hview : ∀ k ob, (viewP (isL (listed.setIfInBounds i true)) ph.pend ph.st.h).get k = some ob → (viewP (isL listed) ph.pend ph.st.h).get k = some ob := fun k ob hg =>
      viewP_sub hok.apart hok.apart (fun e he hp => ⟨he, by rw [isL_set hlt, decide_eq_false (hne e he), Bool.or_false] at hp; exact hp⟩) I.pnone hg
    exact fin ρ y w (Ext.refl _) hy (I.heap.sub hview) (I.fr.congr hview (Nat.le_refl _)) (fun e he hL _ => I.pfree e he hL) (fun e he h => absurd h (hne e he))
  unfold wpOp
  rw [ho]
  simp only
  rcases hcase with ⟨hw, rfl⟩ | ⟨hw, hkind⟩
  · rw [hwant hv' hw]
    simp only [Bool.false_eq_true, if_false]
    refine noEntry (fun e he hei => ?_) undef (RelV.sc _)
    obtain ⟨o', v2, u', g1, g2, g3, g4, g5, g6⟩ := hok.pend e he
    rw [hei] at g1 g4
    rw [hoL] at g1; cases g1
    have e1 := wantedA_mono (fun d v hd => slotG_mono hv' hd) hw
    have e2 := wantedA_mono (fun d v hd => slotG_mono g3 hd) g4
    rw [e1] at e2; simp at e2
  · rw [hwant hv' hw]
    simp only [if_true]
    rcases hkind with ⟨hkq, h', hev⟩ | ⟨hkf, id, ao, hev, hpend⟩
    · have hne : ∀ e ∈ ph.pend, e.1 ≠ i := by
        intro e he hei
        obtain ⟨o', v2, u', g1, g2, g3, g4, g5, g6⟩ := hok.pend e he
        rw [hei] at g1
        rw [hoL] at g1; cases g1
        rw [hkq] at g2; cases g2
      have run : ∃ y, (execOp a.eval o).run P w = .ok (.value y) w ∧ RelV ρ u y := by
        cases hh : heapOp o.op with
        | false =>
          rw [evQ_heap (h' := .leaf) hh] at hev
          exact evQ_sound (st := ⟨.leaf, ph.st.nx⟩) (I.heap.sub (fun k ob h => by rw [T.get_leaf] at h; cases h)) (I.env hwr hn hi hanc hv') hev
        | true =>
          obtain ⟨_, hev2⟩ := hheap hh
          obtain ⟨v2, pend', g1, g2, g3, g4⟩ := hev2 (wantedA_mono (fun d v hd => slotG_mono hv' hd) hw)
          refine evQ_sound (st := ⟨viewP (an (ancs A.toList 0 .leaf) i).testBit pend' ph.st.h, ph.st.nx⟩) (I.heap.sub (fun k ob h => ?_)) (I.env hwr hn hi hanc g1) g4
          exact viewP_sub g3 hok.apart (fun e he hp => ⟨g2 e he, hanc _ hp⟩) I.pnone h
      obtain ⟨y, h1, h2⟩ := run
      refine .inl ?_
      unfold Oper.wp; rw [h1]
      exact noEntry hne y h2
    · have hin := hpend hgone
      have hidlt := hok.lt _ hin
      have hfree := I.pfree _ hin hi
      obtain ⟨y, w', p, h1, h2, h3, h4, h5, h6⟩ := evF_sound (P := P) I.heap (I.env hwr hn hi hanc hv') hfree hidlt (Nat.le_refl _) hev
      refine .inl ?_
      unfold Oper.wp; rw [h1]
      have hview : ∀ k ob, (viewP (isL (listed.setIfInBounds i true)) ph.pend ph.st.h).get k = some ob → ((viewP (isL listed) ph.pend ph.st.h).put id ao).get k = some ob := by
        intro k ob hg
        rcases viewP_inv hok.apart hg with ⟨e, he, hp, rfl, rfl⟩ | ⟨hnone, hg⟩
        · by_cases hei : e.1 = i
          · have : e = (i, id, ao) := Apart.uniq1 hok.apart he hin hei
            subst this
            exact T.get_put_same _ _ _
          · rw [isL_set hlt, decide_eq_false hei, Bool.or_false] at hp
            have hid : e.2.1 ≠ id := fun hid => hei (by rw [Apart.uniq2 hok.apart he hin hid])
            rw [T.get_put_ne _ _ _ hid]
            exact viewP_mem hok.apart e he hp
        · have hk : k ≠ id := by
            rintro rfl
            exact hnone _ hin (by rw [isL_set hlt]; simp) rfl
          rw [T.get_put_ne _ _ _ hk]
          rw [viewP_other (fun e he hp => hnone e he (by rw [isL_set hlt, hp]; rfl))]; exact hg
      refine fin (upd ρ id p) y w' (ext_upd p hfree) h2 (h3.sub hview) ((I.fr.fresh (I.pge _ hin) (Nat.le_refl _) ao h6 h5 h4).congr hview (Nat.le_refl _)) (fun e he hL hne => ?_) (fun e he hei => ?_)
      · have hid : e.2.1 ≠ id := fun hid => hne (by rw [Apart.uniq2 hok.apart he hin hid])
        rw [upd_ne _ _ hid]; exact I.pfree e he hL
      · have : e = (i, id, ao) := Apart.uniq1 hok.apart he hin hei
        subst this
        exact h6
end static
end
end Go.Proofs.Ythlcnklbeolhpaa.Ev

/-! EvDraw5 -/
namespace Go.Proofs.Ythlcnklbeolhpaa.Ev
open Go Go.RowKit

section
variable {P : Program} {D : List Deferred} {A : Array Oper} {wr : T Nat} {n : Nat} {tm : T AV} {call : FuncId → List AV → St → Option (AV × St)}
variable {xsAll xs : List Nat} {ρ0 : Rho} {st0 : St} {w0 : World} {ph : Ph} {listed : Array Bool} {ρ : Rho} {a : Act} {w : World}

theorem mem_restG {m : Nat} {l : Pend} {e : Nat × Nat × AO} : e ∈ restG m l ↔ e ∈ l ∧ m.testBit e.1 = false := by
  unfold restG; rw [List.mem_filter]; simp

theorem bif_some {c : Bool} {p q : Ph} (h : (bif c then some p else none) = some q) : p = q := by cases c <;> simp_all
theorem passG_done {anc : T Nat} {xm : Nat} {ops : List Oper} : ∀ (os : List Oper) (i : Nat) (p p' : Ph), passG P ops anc wr xm tm os i p = some p' → p'.done = p.done := by
  intro os
  induction os with
  | nil => intro i p p' h; simp only [passG, Option.some.injEq] at h; rw [h]
  | cons o os iho =>
    intro i p p' h
    simp only [passG] at h
    split at h
    · exact iho _ _ _ h
    · cases hpos : possible anc xm i p with
      | false => rw [hpos] at h; simp only [cond_false] at h; exact iho _ _ _ h
      | true =>
        rw [hpos] at h; simp only [cond_true] at h
        split at h
        case h_2 => cases h
        rename_i p1 hp1
        rw [iho _ _ _ h]
        unfold oneG at hp1
        split at hp1
        · cases hh : heapOp o.op with
          | false => rw [hh] at hp1; simp only [cond_false, Option.some.injEq] at hp1; rw [hp1]
          | true =>
            rw [hh] at hp1; simp only [cond_true] at hp1
            split at hp1
            · cases hp1
            · simp only [Option.some.injEq] at hp1; rw [hp1]
            · split at hp1
              case h_2 => cases hp1
              rw [bif_some hp1]
        · split at hp1
          · cases hp1
          · simp only [Option.some.injEq] at hp1; subst hp1; rfl
          · split at hp1
            · split at hp1
              case h_2 => cases hp1
              simp only [Option.some.injEq] at hp1; subst hp1; rfl
            · split at hp1
              case h_2 => cases hp1
              simp only [Option.some.injEq] at hp1; subst hp1; rfl
            · cases hp1

/-- Behind a step of the chain and the pass behind it. -/
theorem stepX_inv {x : Nat} (I : InvR D A tm n xsAll (x :: xs) ρ0 st0 w0 ph listed ρ a w) (_hxs : xsAll = xsOf A.toList 0) (hwr : wrs A.toList 0 .leaf = some wr) (hn : ∀ (j : Nat) (o : Oper) (d : Nat), A[j]? = some o → o.dst = some d → d < n)
    (hok : PhOk P A.toList (ancs A.toList 0 .leaf) wr tm ph) (hnd : (x :: xs).Pairwise (· < ·)) {o : Oper} (ho : A[x]? = some o) (hi : isL listed x = false) (hpre : ∀ e ∈ preds o, isL listed e = true) (hkx : kindOf o.op = .x) (hnone : ph.vals.get x = none)
    {ρ' : Rho} {v : AV} {y : Value} {st' : St} {w' : World} (hy : RelV ρ' v y) (H' : RelH ρ' st' w') (F : Fr ρ ⟨viewP (an (ancs A.toList 0 .leaf) x).testBit ph.pend ph.st.h, ph.st.nx⟩ w ρ' st' w')
    {ph1 : Ph} (hpass : passG P A.toList (ancs A.toList 0 .leaf) wr (maskOf xsAll) tm A.toList 0
      ⟨ph.vals.put x v, st', restG (an (ancs A.toList 0 .leaf) x) ph.pend, ph.done ||| 2 ^ x, ph.gone ||| an (ancs A.toList 0 .leaf) x⟩ = some ph1) :
    InvR D A tm n xsAll xs ρ0 st0 w0 ph1 (listed.setIfInBounds x true) ρ' (a.put o.dst y) w' ∧ PhOk P A.toList (ancs A.toList 0 .leaf) wr tm ph1 ∧ (∀ j, PassOk P A.toList (ancs A.toList 0 .leaf) wr (maskOf xsAll) tm ph1 j) := by
  have hlt : x < listed.size := by rw [I.size]; exact (Array.getElem?_eq_some_iff.1 ho).1
  have hanc : ∀ j, (an (ancs A.toList 0 .leaf) x).testBit j = true → isL listed j = true := fun j hj => I.anc ho hpre hj
  have hoL : A.toList[x]? = some o := by simpa using ho
  have hput := Vle.put (a := ph.vals) hnone v
  have hnx : ph.st.nx ≤ st'.nx := F.nx
  -- no pending object is the chain's
  have hpx : ∀ e ∈ ph.pend, e.1 ≠ x := by
    intro e he hex
    obtain ⟨o', v2, u', g1, g2, g3, g4, g5, g6⟩ := hok.pend e he
    rw [hex, hoL] at g1; cases g1
    rw [hkx] at g2; cases g2
  have hok0 : PhOk P A.toList (ancs A.toList 0 .leaf) wr tm ⟨ph.vals.put x v, st', restG (an (ancs A.toList 0 .leaf) x) ph.pend, ph.done ||| 2 ^ x, ph.gone ||| an (ancs A.toList 0 .leaf) x⟩ := by
    refine ⟨fun i u o' ho' hk hu => ?_, fun e he => ?_, ?_, fun e he => Nat.lt_of_lt_of_le (hok.lt e (mem_restG.1 he).1) hnx⟩
    · have hix : i ≠ x := by rintro rfl; rw [hoL] at ho'; cases ho'; exact hk hkx
      simp only [T.get_put_ne _ _ _ hix] at hu
      obtain ⟨v2, g1, g2⟩ := hok.vals i u o' ho' hk hu
      refine ⟨v2, g1.trans hput, ?_⟩
      rcases g2 with g | ⟨g, g' | ⟨g', id, ao, g3, g4⟩⟩
      · exact .inl g
      · exact .inr ⟨g, .inl g'⟩
      · refine .inr ⟨g, .inr ⟨g', id, ao, g3, fun hg => ?_⟩⟩
        simp only [testBit_lor, Bool.or_eq_false_iff] at hg
        exact mem_restG.2 ⟨g4 hg.1, hg.2⟩
    · obtain ⟨o', v2, u', g1, g2, g3, g4, g5, g6⟩ := hok.pend e (mem_restG.1 he).1
      exact ⟨o', v2, u', g1, g2, g3.trans hput, g4, g5, hput _ _ g6⟩
    · show List.Pairwise _ (restG (an (ancs A.toList 0 .leaf) x) ph.pend)
      unfold restG
      exact List.Pairwise.sublist (List.filter_sublist) hok.apart
  obtain ⟨hle, hok1, hp1⟩ := passG_ok A.toList 0 rfl hok0 (fun j hj => absurd hj (Nat.not_lt_zero _)) hpass
  have hheap1 : ph1.st.h = st'.h := hle.heap
  have hnx1 : st'.nx ≤ ph1.st.nx := hle.nx
  -- which pending objects of the new phase are done
  have hdoneP : ∀ e ∈ ph1.pend, isL (listed.setIfInBounds x true) e.1 = true → e ∈ ph.pend ∧ (an (ancs A.toList 0 .leaf) x).testBit e.1 = false ∧ isL listed e.1 = true := by
    intro e he hL
    rw [isL_set hlt, Bool.or_eq_true, decide_eq_true_eq] at hL
    have hL' : isL listed e.1 = true := by
      rcases hL with h | h
      · exact h
      · obtain ⟨o', v2, u', g1, g2, g3, g4, g5, g6⟩ := hok1.pend e he
        rw [h, hoL] at g1; cases g1
        rw [hkx] at g2; cases g2
    rcases hle.newp e he with h | ⟨_, h⟩
    · have := mem_restG.1 h
      exact ⟨this.1, this.2, hL'⟩
    · exfalso
      obtain ⟨o', v2, u', g1, g2, g3, g4, g5, g6⟩ := hok1.pend e he
      obtain ⟨u2, h2, _⟩ := I.vals e.1 o' hL' (by simpa using g1)
      have hex : e.1 ≠ x := by intro hh; rw [hh, hoL] at g1; cases g1; rw [hkx] at g2; cases g2
      simp only [T.get_put_ne _ _ _ hex] at h
      rw [h] at h2; cases h2
  -- the part's heap and the whole
  have hsub : ∀ k ob, (viewP (an (ancs A.toList 0 .leaf) x).testBit ph.pend ph.st.h).get k = some ob → (viewP (isL listed) ph.pend ph.st.h).get k = some ob := fun k ob hg =>
    viewP_sub hok.apart hok.apart (fun e he hp => ⟨he, hanc _ hp⟩) I.pnone hg
  -- a pending object that the step does not take is not in its part
  have hout : ∀ e ∈ ph.pend, (an (ancs A.toList 0 .leaf) x).testBit e.1 = false → (viewP (an (ancs A.toList 0 .leaf) x).testBit ph.pend ph.st.h).get e.2.1 = none := by
    intro e he hne
    rw [viewP_other (fun e' he' hp' hid => by
      have := Apart.uniq2 hok.apart he' he hid
      subst this; rw [hne] at hp'; cases hp')]
    exact I.pnone e he
  have houtc : ∀ e ∈ ph.pend, (an (ancs A.toList 0 .leaf) x).testBit e.1 = false → ∀ j oj, (viewP (an (ancs A.toList 0 .leaf) x).testBit ph.pend ph.st.h).get j = some oj → oj.cls? ≠ some e.2.1 := by
    intro e he hne j oj hj hc
    rcases viewP_inv hok.apart hj with ⟨e', he', hp', rfl, rfl⟩ | ⟨_, hj⟩
    · have := I.pown e' he' (hanc _ hp') _ hc
      have := Apart.uniq2 hok.apart he he' this
      subst this; rw [hne] at hp'; cases hp'
    · exact I.pcls e he j oj hj hc
  have hnew : ∀ e ∈ ph.pend, (an (ancs A.toList 0 .leaf) x).testBit e.1 = false → st'.h.get e.2.1 = none := by
    intro e he hne
    cases hg : st'.h.get e.2.1 with
    | none => rfl
    | some ob =>
      obtain ⟨o', ho'⟩ := F.ids _ ob hg (hok.lt e he)
      have := hout e he hne
      simp only at ho'
      rw [this] at ho'; cases ho'
  have hframe := RelH.frame I.heap hsub H' F (hN := viewP (isL (listed.setIfInBounds x true)) ph1.pend st'.h) (fun k ob hg => by
      rcases viewP_inv hok1.apart hg with ⟨e, he, hp, rfl, rfl⟩ | ⟨_, hg⟩
      · obtain ⟨h1, h2, h3⟩ := hdoneP e he hp
        exact .inr ⟨hout e h1 h2, viewP_mem hok.apart e h1 h3, I.pown e h1 h3, houtc e h1 h2⟩
      · exact .inl hg) (fun k ob hg => by
      rw [viewP_other (fun e he hp hid => by
        obtain ⟨h1, h2, _⟩ := hdoneP e he hp
        have := hnew e h1 h2
        rw [hid, hg] at this; cases this)]
      exact hg)
  obtain ⟨s1, s2⟩ := I.slots_next hwr hn ho hi (F.ext (I.heap.sub hsub)) hy (hput.trans hle.vals) (hle.vals _ _ (T.get_put_same _ _ _))
  have hxmem : x ∈ xsAll := ((I.rem x).1 (by simp)).1
  refine ⟨⟨by simp [I.size], I.closed_next ho hpre, fun j => ?_, fun j => ?_, fun j hj => ?_, ?_, ?_, s1, s2, ?_, ?_, fun e he => ?_, fun e he => ?_, fun e he hL => ?_, fun e he j ob hj hc => ?_, fun e he hL => ?_⟩, hok1, hp1⟩
  · rw [hle.done]
    simp only [testBit_lor, testBit_pow, Bool.or_eq_true, decide_eq_true_eq]
    rw [I.done j, isL_set hlt, Bool.or_eq_true, decide_eq_true_eq]
    constructor
    · rintro (⟨h1, h2⟩ | rfl)
      · exact ⟨.inl h1, h2⟩
      · exact ⟨.inr rfl, hxmem⟩
    · rintro ⟨h1 | h1, h2⟩
      · exact .inl ⟨h1, h2⟩
      · exact .inr h1.symm
  · rw [isL_set hlt, Bool.or_eq_false_iff, decide_eq_false_iff_not]
    have R := I.rem j
    have hxx : x ∉ xs := fun h => Nat.lt_irrefl _ ((List.pairwise_cons.1 hnd).1 x h)
    constructor
    · intro h
      have := R.1 (List.mem_cons_of_mem _ h)
      exact ⟨this.1, this.2, fun e => hxx (e ▸ h)⟩
    · rintro ⟨h1, h2, h3⟩
      rcases List.mem_cons.1 (R.2 ⟨h1, h2⟩) with h | h
      · exact absurd h h3
      · exact h
  · rw [hle.gone] at hj
    simp only [testBit_lor, Bool.or_eq_true] at hj
    rw [isL_set hlt]
    rcases hj with h | h
    · rw [I.gone j h]; rfl
    · rw [hanc j h]; rfl
  · cases hd : o.dst <;> simp [Act.put, I.asize]
  · cases hd : o.dst <;> simp [Act.put, I.defers]
  · rw [hheap1]; exact hframe.1.up hnx1
  · rw [hheap1]; exact (I.fr.trans hframe.2).congr (fun _ _ h => h) hnx1
  · rw [hheap1]
    rcases hle.newp e he with h | ⟨h, _⟩
    · have := mem_restG.1 h; exact hnew e this.1 this.2
    · cases hg : st'.h.get e.2.1 with
      | none => rfl
      | some ob => have := H'.has hg; simp only at h; omega
  · rcases hle.newp e he with h | ⟨h, _⟩
    · exact I.pge e (mem_restG.1 h).1
    · have := I.fr.nx; simp only at h this; omega
  · rw [isL_set hlt, Bool.or_eq_false_iff] at hL
    rcases hle.newp e he with h | ⟨h, _⟩
    · have hm := (mem_restG.1 h).1
      have := F.old e.2.1 (hok.lt e hm)
      rw [this]; exact I.pfree e hm hL.1
    · exact H'.none_nx h
  · rw [hheap1] at hj
    rcases hle.newp e he with h | ⟨h, _⟩
    · have hm := mem_restG.1 h
      obtain ⟨j', o', g1, g2⟩ := F.cls j ob _ hj hc (hok.lt e hm.1)
      exact houtc e hm.1 hm.2 j' o' g1 g2
    · cases ob with
      | map es cl => simp [AO.cls?] at hc
      | cells c lo hi cls t =>
        simp only [AO.cls?, Option.some.injEq] at hc
        obtain ⟨q, hq⟩ := (H'.stamp _ _ _ _ _ _ hj).1
        have := (H'.dom _ _ hq).1
        simp only at h; omega
  · obtain ⟨h1, _, h3⟩ := hdoneP e he hL
    exact I.pown e h1 h3

/-- THE REGION, IN WHATEVER ORDER. -/
theorem drawAny (hcall : CallOk P call) (hxs : xsAll = xsOf A.toList 0) (hwr : wrs A.toList 0 .leaf = some wr) (hn : ∀ (j : Nat) (o : Oper) (d : Nat), A[j]? = some o → o.dst = some d → d < n) (hpreds : predsOk A.toList 0 = true) {phF : Ph} {Q : Exit → Act → World → Prop}
    (hQ : ∀ listed ρ a w, InvR D A tm n xsAll [] ρ0 st0 w0 phF listed ρ a w → PhOk P A.toList (ancs A.toList 0 .leaf) wr tm phF → (∀ i, i < A.size → isL listed i = true) → Q .normal a w) :
    ∀ (xs : List Nat) (ph : Ph), xs.Pairwise (· < ·) → PhOk P A.toList (ancs A.toList 0 .leaf) wr tm ph → (∀ j, PassOk P A.toList (ancs A.toList 0 .leaf) wr (maskOf xsAll) tm ph j) → restX P A.toList (ancs A.toList 0 .leaf) wr (maskOf xsAll) tm call xs ph = some phF →
    ∀ (fuel : Nat) (l : List Nat) (listed : Array Bool) (ρ : Rho) (a : Act) (w : World), InvR D A tm n xsAll xs ρ0 st0 w0 ph listed ρ a w → l.length ≤ fuel → (∀ i, i < A.size → isL listed i = false → i ∈ l) → wpAny P .any A Q fuel listed a w := by
  intro xs
  induction xs with
  | nil =>
    intro ph hnd hok hpass hrest fuel
    simp only [restX, Option.some.injEq] at hrest; subst hrest
    induction fuel with
    | zero =>
      intro l listed ρ a w I hl hall
      have hl0 : l = [] := List.length_eq_zero_iff.1 (by omega)
      subst hl0
      have hL : ∀ i, i < A.size → isL listed i = true := fun i hi => by
        cases h : isL listed i with
        | true => rfl
        | false => have := hall i hi h; simp at this
      refine ⟨?_, hQ listed ρ a w I hok hL⟩
      rw [List.eq_nil_iff_forall_not_mem]
      intro i hi
      obtain ⟨h1, o, ho, _⟩ := mem_ready.1 hi
      have hlt : i < A.size := (Array.getElem?_eq_some_iff.1 ho).1
      have := hL i hlt
      unfold isL at this
      rw [Array.getD_eq_getD_getElem?, Array.getElem?_eq_getElem (by rw [I.size]; exact hlt)] at this h1
      simp at this h1
      rw [this] at h1; cases h1
    | succ fuel ih =>
      intro l listed ρ a w I hl hall
      have ready : ∀ i, isL listed i = false → i < A.size → (∀ o, A[i]? = some o → ∀ e ∈ preds o, isL listed e = true) → i ∈ Region.ready .any A listed := by
        intro i hi hlt hpre
        refine mem_ready.2 ⟨?_, A[i], Array.getElem?_eq_getElem hlt, fun e he hb => hpre _ (Array.getElem?_eq_getElem hlt) e.on ?_⟩
        · unfold isL at hi
          rw [Array.getD_eq_getD_getElem?, Array.getElem?_eq_getElem (by rw [I.size]; exact hlt)] at hi ⊢
          simpa using hi
        · unfold preds
          rw [List.mem_map]
          exact ⟨e, List.mem_filter.2 ⟨by simpa using he, hb⟩, rfl⟩
      refine ⟨fun hempty => hQ listed ρ a w I hok (fun i => ?_), fun i hi => ?_⟩
      · -- nothing is ready: all is done
        induction i using Nat.strongRecOn with
        | _ i ihh =>
          intro hlt
          cases h : isL listed i with
          | true => rfl
          | false =>
            exfalso
            have := ready i h hlt (fun o ho e he => by
              have hp := predsOk_spec hpreds i o (by simpa using ho) e he
              exact ihh e (by omega) (by omega))
            rw [hempty] at this; simp at this
      · obtain ⟨h1, o, ho, hpre⟩ := mem_ready.1 hi
        have hlt : i < A.size := (Array.getElem?_eq_some_iff.1 ho).1
        have hiL : isL listed i = false := by
          unfold isL
          rw [Array.getD_eq_getD_getElem?, Array.getElem?_eq_getElem (by rw [I.size]; exact hlt)] at h1 ⊢
          simpa using h1
        have hpre' : ∀ e ∈ preds o, isL listed e = true := by
          intro e he
          unfold preds at he
          rw [List.mem_map] at he
          obtain ⟨e', he', rfl⟩ := he
          have := List.mem_filter.1 he'
          exact hpre e' (by simpa using this.1) this.2
        have hkx : kindOf o.op ≠ .x := by
          intro hk
          have : i ∈ xsAll := by rw [hxs, xsOf_spec]; exact ⟨i, o, by omega, by simpa using ho, hk⟩
          have := (I.rem i).2 ⟨this, hiL⟩
          simp at this
        refine stepQF I hxs hwr hn hok hpass ho hiL hpre' hkx (fun ρ' a' w' I' => ih (l.erase i) _ ρ' a' w' I' ?_ ?_)
        · have := List.length_erase_of_mem (hall i hlt hiL); omega
        · intro j hj hjL
          rw [isL_set (by rw [I.size]; exact hlt), Bool.or_eq_false_iff, decide_eq_false_iff_not] at hjL
          exact (List.mem_erase_of_ne hjL.2).2 (hall j hj hjL.1)
  | cons x xs ihx =>
    intro ph hnd hok hpass hrest fuel
    simp only [restX] at hrest
    split at hrest
    case h_1 => cases hrest
    rename_i ph0 hstep
    split at hrest
    case h_1 => cases hrest
    rename_i ph1 hpass1
    -- what the step's success says
    unfold stepX at hstep
    split at hstep
    case h_1 => cases hstep
    rename_i ox hox
    cases hb : ((ph.done &&& an (ancs A.toList 0 .leaf) x).beq ph.done && (ph.vals.get x).isNone) with
    | false => rw [hb] at hstep; cases hstep
    | true =>
    rw [hb] at hstep; simp only [cond_true] at hstep
    simp only [Bool.and_eq_true, Option.isNone_iff_eq_none] at hb
    have hox' : A[x]? = some ox := by simpa using hox
    -- each later step has this one before it
    have hchain : ∀ (ys : List Nat) (p p' : Ph), restX P A.toList (ancs A.toList 0 .leaf) wr (maskOf xsAll) tm call ys p = some p' → ∀ z, p.done.testBit z = true → ∀ j ∈ ys, (an (ancs A.toList 0 .leaf) j).testBit z = true := by
      intro ys
      induction ys with
      | nil => intro p p' _ z _ j hj; simp at hj
      | cons y ys ihy =>
        intro p p' hr z hz j hj
        simp only [restX] at hr
        split at hr
        case h_1 => cases hr
        rename_i q0 hq0
        split at hr
        case h_1 => cases hr
        rename_i q1 hq1
        unfold stepX at hq0
        split at hq0
        case h_1 => cases hq0
        rename_i oy hoy
        cases hby : ((p.done &&& an (ancs A.toList 0 .leaf) y).beq p.done && (p.vals.get y).isNone) with
        | false => rw [hby] at hq0; cases hq0
        | true =>
        rw [hby] at hq0; simp only [cond_true] at hq0
        simp only [Bool.and_eq_true, Nat.beq_eq] at hby
        have hd0 : q0.done = p.done ||| 2 ^ y := by
          split at hq0
          · cases hq0
          · simp only [Option.some.injEq] at hq0; subst hq0; rfl
          · split at hq0
            case h_2 => cases hq0
            simp only [Option.some.injEq] at hq0; subst hq0; rfl
        rcases List.mem_cons.1 hj with rfl | hj
        · have := congrArg (·.testBit z) hby.1
          simp only [testBit_land, hz, Bool.true_and] at this
          exact this
        · refine ihy q1 p' hr z ?_ j hj
          rw [passG_done _ _ _ _ hq1, hd0, testBit_lor, hz]; rfl
    induction fuel with
    | zero =>
      intro l listed ρ a w I hl hall
      exfalso
      have hx := (I.rem x).1 (by simp)
      have hl0 : l = [] := List.length_eq_zero_iff.1 (by omega)
      subst hl0
      have := hall x (Array.getElem?_eq_some_iff.1 hox').1 hx.2
      simp at this
    | succ fuel ih =>
      intro l listed ρ a w I hl hall
      have hx := (I.rem x).1 (by simp)
      have ready : ∀ i, isL listed i = false → i < A.size → (∀ o, A[i]? = some o → ∀ e ∈ preds o, isL listed e = true) → i ∈ Region.ready .any A listed := by
        intro i hi hlt hpre
        refine mem_ready.2 ⟨?_, A[i], Array.getElem?_eq_getElem hlt, fun e he hb => hpre _ (Array.getElem?_eq_getElem hlt) e.on ?_⟩
        · unfold isL at hi
          rw [Array.getD_eq_getD_getElem?, Array.getElem?_eq_getElem (by rw [I.size]; exact hlt)] at hi ⊢
          simpa using hi
        · unfold preds
          rw [List.mem_map]
          exact ⟨e, List.mem_filter.2 ⟨by simpa using he, hb⟩, rfl⟩
      refine ⟨fun hempty => ?_, fun i hi => ?_⟩
      · exfalso
        have hAll : ∀ i, i < A.size → isL listed i = true := by
          intro i
          induction i using Nat.strongRecOn with
          | _ i ihh =>
            intro hlt
            cases h : isL listed i with
            | true => rfl
            | false =>
              exfalso
              have := ready i h hlt (fun o ho e he => by
                have hp := predsOk_spec hpreds i o (by simpa using ho) e he
                exact ihh e (by omega) (by omega))
              rw [hempty] at this; simp at this
        rw [hAll x (Array.getElem?_eq_some_iff.1 hox').1] at hx
        cases hx.2
      · obtain ⟨h1, o, ho, hpre⟩ := mem_ready.1 hi
        have hlt : i < A.size := (Array.getElem?_eq_some_iff.1 ho).1
        have hiL : isL listed i = false := by
          unfold isL
          rw [Array.getD_eq_getD_getElem?, Array.getElem?_eq_getElem (by rw [I.size]; exact hlt)] at h1 ⊢
          simpa using h1
        have hpre' : ∀ e ∈ preds o, isL listed e = true := by
          intro e he
          unfold preds at he
          rw [List.mem_map] at he
          obtain ⟨e', he', rfl⟩ := he
          have := List.mem_filter.1 he'
          exact hpre e' (by simpa using this.1) this.2
        have hlen : (l.erase i).length ≤ fuel := by have := List.length_erase_of_mem (hall i hlt hiL); omega
        have hall' : ∀ j, j < A.size → isL (listed.setIfInBounds i true) j = false → j ∈ l.erase i := by
          intro j hj hjL
          rw [isL_set (by rw [I.size]; exact hlt), Bool.or_eq_false_iff, decide_eq_false_iff_not] at hjL
          exact (List.mem_erase_of_ne hjL.2).2 (hall j hj hjL.1)
        by_cases hkx : kindOf o.op = .x
        · -- the next step of the chain
          have hix : i = x := by
            have hm : i ∈ xsAll := by rw [hxs, xsOf_spec]; exact ⟨i, o, by omega, by simpa using ho, hkx⟩
            rcases List.mem_cons.1 ((I.rem i).2 ⟨hm, hiL⟩) with h | h
            · exact h
            · exfalso
              have hd : ph1.done.testBit x = true := by
                have hpd : ph0.done.testBit x = true := by
                  split at hstep
                  · cases hstep
                  · simp only [Option.some.injEq] at hstep; subst hstep; simp
                  · split at hstep
                    case h_2 => cases hstep
                    simp only [Option.some.injEq] at hstep; subst hstep; simp
                rw [passG_done _ _ _ _ hpass1]; exact hpd
              have := I.anc ho hpre' (hchain xs ph1 phF hrest x hd i h)
              rw [hx.2] at this; cases this
          subst hix
          rw [hox'] at ho; cases ho
          have hanc : ∀ j, (an (ancs A.toList 0 .leaf) i).testBit j = true → isL listed j = true := fun j hj => I.anc hox' hpre' hj
          have hsub : ∀ k ob, (viewP (an (ancs A.toList 0 .leaf) i).testBit ph.pend ph.st.h).get k = some ob → (viewP (isL listed) ph.pend ph.st.h).get k = some ob := fun k ob hg =>
            viewP_sub hok.apart hok.apart (fun e he hp => ⟨he, hanc _ hp⟩) I.pnone hg
          have Hp := I.heap.sub hsub
          unfold wpOp
          rw [hox']
          simp only
          split at hstep
          · cases hstep
          · rename_i hw
            simp only [Option.some.injEq] at hstep; subst hstep
            rw [wantedA_sound (I.slot hwr hn hiL hanc (Vle.refl _)) hw]
            simp only [Bool.false_eq_true, if_false]
            obtain ⟨I1, k1, k2⟩ := stepX_inv I hxs hwr hn hok hnd hox' hiL hpre' hkx hb.2 (RelV.sc undef) Hp (Fr.refl _ _ _ Hp) hpass1
            exact ihx ph1 (List.pairwise_cons.1 hnd).2 k1 k2 hrest fuel _ _ _ _ _ I1 hlen hall'
          · rename_i hw
            split at hstep
            case h_2 => cases hstep
            rename_i v st' hev
            simp only [Option.some.injEq] at hstep; subst hstep
            rw [wantedA_sound (I.slot hwr hn hiL hanc (Vle.refl _)) hw]
            simp only [if_true]
            refine .inl (evW_sound hcall Hp (I.env hwr hn hiL hanc (Vle.refl _)) hev _ _ fun y ρ' w' h1 h2 h3 => ?_)
            obtain ⟨I1, k1, k2⟩ := stepX_inv I hxs hwr hn hok hnd hox' hiL hpre' hkx hb.2 h1 h2 h3 hpass1
            exact ihx ph1 (List.pairwise_cons.1 hnd).2 k1 k2 hrest fuel _ _ _ _ _ I1 hlen hall'
        · exact stepQF I hxs hwr hn hok hpass ho hiL hpre' hkx (fun ρ' a' w' I' => ih (l.erase i) _ ρ' a' w' I' hlen hall')
end
end Go.Proofs.Ythlcnklbeolhpaa.Ev

/-! EvMain -/
namespace Go.Proofs.Ythlcnklbeolhpaa.Ev
open Go Go.RowKit
section
variable {P : Program} {D : List Deferred}

theorem putAll_spec {n : Nat} {vals : T AV} : ∀ {os : List Oper} {i : Nat} {tm tm' : T AV}, putAll n vals os i tm = some tm' →
    (∀ (k : Nat) (o : Oper) (d : Nat), os[k]? = some o → o.dst = some d → d < n) ∧
    (∀ t v, tm'.get t = some v → (∃ (k : Nat) (o : Oper), os[k]? = some o ∧ o.dst = some t ∧ vals.get (i + k) = some v) ∨ (tm.get t = some v ∧ ∀ (k : Nat) (o : Oper), os[k]? = some o → o.dst ≠ some t))
  | [], i, tm, tm', e => by
    simp only [putAll, Option.some.injEq] at e; subst e
    exact ⟨fun k o d h => by simp at h, fun t v h => .inr ⟨h, fun k o h => by simp at h⟩⟩
  | o :: os, i, tm, tm', e => by
    simp only [putAll] at e
    split at e
    case h_1 => cases e
    rename_i v0 hv0
    split at e
    case h_2 => cases e
    rename_i tm1 hp
    obtain ⟨h1, h2⟩ := putAll_spec e
    unfold putA at hp
    refine ⟨fun k o' d hk hd => ?_, fun t v h => ?_⟩
    · cases k with
      | zero =>
        simp at hk; subst hk
        rw [hd] at hp
        simp only at hp
        cases hb : d.blt n with
        | false => rw [hb] at hp; cases hp
        | true => simpa [Nat.blt_eq] using hb
      | succ k => exact h1 k o' d (by simpa using hk) hd
    · rcases h2 t v h with ⟨k, o', g1, g2, g3⟩ | ⟨g1, g2⟩
      · exact .inl ⟨k + 1, o', by simpa using g1, g2, by rw [show i + (k + 1) = i + 1 + k by omega]; exact g3⟩
      · have step : ∀ k o', (o :: os)[k]? = some o' → (k = 0 ∧ o' = o) ∨ ∃ k', k = k' + 1 ∧ os[k']? = some o' := by
          intro k o' hk
          cases k with
          | zero => simp at hk; exact .inl ⟨rfl, hk.symm⟩
          | succ k => exact .inr ⟨k, rfl, by simpa using hk⟩
        cases hd : o.dst with
        | none =>
          rw [hd] at hp
          simp only [Option.some.injEq] at hp; subst hp
          refine .inr ⟨g1, fun k o' hk => ?_⟩
          rcases step k o' hk with ⟨_, rfl⟩ | ⟨k', _, hk'⟩
          · rw [hd]; simp
          · exact g2 k' o' hk'
        | some d =>
          rw [hd] at hp
          simp only at hp
          cases hb : d.blt n with
          | false => rw [hb] at hp; cases hp
          | true =>
            rw [hb] at hp; simp only [cond_true, Option.some.injEq] at hp; subst hp
            by_cases ht : t = d
            · subst ht
              rw [T.get_put_same] at g1; cases g1
              exact .inl ⟨0, o, rfl, hd, hv0⟩
            · rw [T.get_put_ne _ _ _ ht] at g1
              refine .inr ⟨g1, fun k o' hk => ?_⟩
              rcases step k o' hk with ⟨_, rfl⟩ | ⟨k', _, hk'⟩
              · rw [hd]; intro h; exact ht (Option.some.inj h).symm
              · exact g2 k' o' hk'

theorem evDraw_sound {call : FuncId → List AV → St → Option (AV × St)} (hcall : CallOk P call) (hm : P.follows .mixedOrders = true) {n id : Nat} {A : Array Oper} {tm tm' : T AV} {st st' : St} (e : evDraw P call n A.toList tm st = some (tm', st'))
    {ρ : Rho} {a : Act} {w : World} {Q : Exit → Act → World → Prop} (hA : RelA D ρ tm n a) (hH : RelH ρ st w) (hQ : ∀ ρ' a' w', RelA D ρ' tm' n a' → RelH ρ' st' w' → Fr ρ st w ρ' st' w' → Q .normal a' w') : (Code.region id A true).wp P Q a w := by
  unfold evDraw at e
  split at e
  case h_1 => cases e
  rename_i wr hwr
  cases hpo : predsOk A.toList 0 with
  | false => rw [hpo] at e; cases e
  | true =>
  rw [hpo] at e; simp only [cond_true] at e
  split at e
  case h_1 => cases e
  rename_i ph hpass
  split at e
  case h_1 => cases e
  rename_i phF hrest
  split at e
  case h_2 => cases e
  rename_i tm1 hput
  simp only [Option.some.injEq, Prod.mk.injEq] at e
  obtain ⟨rfl, rfl⟩ := e
  obtain ⟨hn0, hslots⟩ := putAll_spec hput
  have hn : ∀ (j : Nat) (o : Oper) (d : Nat), A[j]? = some o → o.dst = some d → d < n := fun j o d h1 h2 => hn0 j o d (by simpa using h1) h2
  obtain ⟨hle, hok, hp⟩ := passG_ok (P := P) (wr := wr) (xm := maskOf (xsOf A.toList 0)) (tm := tm) (anc := ancs A.toList 0 .leaf) A.toList 0 rfl (ph := ⟨.leaf, st, [], 0, 0⟩)
    ⟨fun i u o _ _ h => by simp [T.get_leaf] at h, fun e he => by simp at he, List.Pairwise.nil, fun e he => by simp at he⟩ (fun j hj => absurd hj (Nat.not_lt_zero _)) hpass
  have hnew : ∀ e ∈ ph.pend, st.nx ≤ e.2.1 := fun e he => by
    rcases hle.newp e he with h | h
    · simp at h
    · exact h.1
  have hh : ph.st.h = st.h := hle.heap
  refine wp_region_any hm ?_
  have hL0 : ∀ j, isL (Array.replicate A.size false) j = false := by
    intro j
    unfold isL
    rw [Array.getD_eq_getD_getElem?, Array.getElem?_replicate]
    split <;> rfl
  have hview : ∀ k o, (viewP (isL (Array.replicate A.size false)) ph.pend ph.st.h).get k = some o → st.h.get k = some o := by
    intro k o hg
    rw [viewP_other (fun e _ hp' => by rw [hL0] at hp'; cases hp'), hh] at hg; exact hg
  have hst : (⟨st.h, st.nx⟩ : St) = st := rfl
  have I : InvR D A tm n (xsOf A.toList 0) (xsOf A.toList 0) ρ st w ph (Array.replicate A.size false) ρ a { w with drawn := w.drawn + 1 } := by
    refine ⟨by simp, fun j o h => ?_, fun i => ?_, fun i => ?_, fun i h => ?_, hA.size, hA.defers, fun t v h _ => hA.rel t v h, fun j o h => ?_, (hH.drew.up hle.nx).sub hview, ?_, fun e he => ?_, hnew, fun e he _ => hH.none_nx (hnew e he), fun e he j o hj hc => ?_, fun e he h => ?_⟩
    · rw [hL0] at h; cases h
    · rw [hle.done, hL0]; simp
    · rw [hL0]; simp
    · rw [hle.gone] at h; simp at h
    · rw [hL0] at h; cases h
    · exact (show Fr ρ st w ρ ⟨st.h, st.nx⟩ w.drew from ⟨Nat.le_refl _, fun _ _ => rfl, fun i p h e => absurd (hH.dom i p e).1 (by omega), fun _ o h _ => ⟨o, h⟩, Nat.le_refl _, rfl, rfl, rfl, fun _ _ _ => rfl, fun i o _ h hc _ => ⟨i, o, h, hc⟩⟩).congr hview hle.nx
    · rw [hh]
      cases hg : st.h.get e.2.1 with
      | none => rfl
      | some o => have := hH.has hg; have := hnew e he; omega
    · rw [hh] at hj
      cases o with
      | map es cl => simp [AO.cls?] at hc
      | cells c lo hi cls t =>
        simp only [AO.cls?, Option.some.injEq] at hc
        obtain ⟨q, hq⟩ := (hH.stamp _ _ _ _ _ _ hj).1
        have := (hH.dom _ _ hq).1
        have := hnew e he
        omega
    · rw [hL0] at h; cases h
  refine drawAny hcall rfl hwr hn hpo (fun listed ρ' a' w' I' hokF hall => ?_) (xsOf A.toList 0) ph (xsOf_lt).1 hok hp hrest A.size (List.range A.size) (Array.replicate A.size false) ρ a _ I (by simp) (fun i hi _ => List.mem_range.2 hi)
  have hsub : ∀ k o, (viewP (fun _ => true) phF.pend phF.st.h).get k = some o → (viewP (isL listed) phF.pend phF.st.h).get k = some o := fun k o hg =>
    viewP_sub hokF.apart hokF.apart (fun e he _ => ⟨he, by
      obtain ⟨o', _, _, g1, _⟩ := hokF.pend e he
      exact hall e.1 (Array.getElem?_eq_some_iff.1 (by simpa using g1)).1⟩) I'.pnone hg
  refine hQ ρ' a' w' ⟨I'.asize, I'.defers, fun t v ht => ?_⟩ (I'.heap.sub hsub) (I'.fr.congr hsub (Nat.le_refl _))
  rcases hslots t v ht with ⟨k, o, g1, g2, g3⟩ | ⟨g1, g2⟩
  · rw [Nat.zero_add] at g3
    have g1' : A[k]? = some o := by simpa using g1
    obtain ⟨v2, k1, k2⟩ := I'.vals k o (hall k (Array.getElem?_eq_some_iff.1 g1').1) g1'
    rw [g3] at k1; cases k1
    exact ⟨hn k o t g1' g2, k2 t g2⟩
  · exact I'.slots t v g1 (fun j o _ ho => g2 j o (by simpa using ho))

/-- What an oracle says of a function is so. -/
def OrcOk (P : Program) (orc : Orc) : Prop :=
  ∀ g f vs v, orc g = some f → f vs = some v → ∀ w, Calls P g vs.toArray w fun e w' => e = .returned v ∧ Below w.heap.size w w'

def exOf : Ex → Exit
  | .normal => .normal
  | .exit id => .exit id
  | .ret => .ret

def resOne (tmps : Array Value) : ResultVar → Sem Value
  | .tmp t => pure (tmps.getD t undef)
  | .cell a t => do loadVar t (← asAddr (tmps.getD a undef))
theorem results_eq (fn : Func) (tmps : Array Value) : results fn tmps = fn.results.mapM (resOne tmps) >>= fun vs => pure (if h : vs.size = 1 then vs[0] else .tuple vs) := by
  unfold results
  congr 2

theorem evRes_sound {tm : T AV} {n : Nat} {a : Act} {ρ : Rho} {st : St} {w : World} (hA : RelA D ρ tm n a) (H : RelH ρ st w) : ∀ {rs : List ResultVar} {l : List AV}, evRes P tm st.h rs = some l →
    ∃ xs : List Value, RelL ρ l xs ∧ (rs.mapM (resOne a.tmps)).run P w = .ok xs w
  | [], l, e => by
    simp only [evRes, Option.some.injEq] at e; subst e
    exact ⟨[], RelL.nil_iff.2 rfl, rfl⟩
  | .tmp t :: rs, l, e => by
    simp only [evRes] at e
    split at e
    case h_1 => cases e
    rename_i v hv
    split at e
    case h_2 => cases e
    rename_i l' hl
    simp only [Option.some.injEq] at e; subst e
    obtain ⟨xs, h1, h2⟩ := evRes_sound hA H hl
    refine ⟨_ :: xs, RelL.cons (hA.rel t v hv).2 h1, ?_⟩
    rw [List.mapM_cons, Sem.run_bind]
    simp only [resOne, Sem.run_pure, Result.andThen_ok]
    rw [Sem.run_bind, h2]; rfl
  | .cell p t :: rs, l, e => by
    simp only [evRes] at e
    split at e
    case h_2 => cases e
    rename_i i k hp
    split at e
    case h_1 => cases e
    rename_i v hv
    split at e
    case h_2 => cases e
    rename_i l' hl
    simp only [Option.some.injEq] at e; subst e
    obtain ⟨xs, h1, h2⟩ := evRes_sound hA H hl
    obtain ⟨ad, had, hpt⟩ := relV_ptr.1 (hA.rel p _ hp).2
    obtain ⟨y, g1, g2⟩ := loadA_sound (P := P) H hv had
    refine ⟨y :: xs, RelL.cons g2 h1, ?_⟩
    rw [List.mapM_cons, Sem.run_bind]
    have : (resOne a.tmps (.cell p t)).run P w = .ok y w := by
      unfold resOne
      simp only
      rw [hpt, Sem.run_bind]; exact g1
    rw [this]; simp only [Result.andThen_ok]
    rw [Sem.run_bind, h2]; rfl

theorem oneOf_rel {ρ : Rho} {l : List AV} {xs : List Value} (h : RelL ρ l xs) : RelV ρ (oneOf l) (if h : xs.toArray.size = 1 then xs.toArray[0] else .tuple xs.toArray) := by
  cases l with
  | nil =>
    have := RelL.nil_iff.1 h
    subst this
    exact relV_tup.2 ⟨[], h, rfl⟩
  | cons u l =>
    obtain ⟨y, ys, h1, h2, rfl⟩ := h.cons_inv
    cases l with
    | nil =>
      have := RelL.nil_iff.1 h2
      subst this
      exact h1
    | cons u2 l =>
      obtain ⟨y2, ys2, h3, h4, rfl⟩ := h2.cons_inv
      exact relV_tup.2 ⟨y :: y2 :: ys2, h, rfl⟩

theorem enterT_get {ρ : Rho} : ∀ {args : List AV} {xs : List Value} (_ : RelL ρ args xs) (k : Nat) (t0 : T AV) (t : Nat) (v : AV), (enterT args k t0).get t = some v →
    (∃ x, xs[t - k]? = some x ∧ k ≤ t ∧ RelV ρ v x) ∨ t0.get t = some v
  | [], _, _, k, t0, t, v, e => .inr e
  | u :: l, _, h, k, t0, t, v, e => by
    obtain ⟨y, ys, h1, h2, rfl⟩ := h.cons_inv
    simp only [enterT] at e
    rcases enterT_get h2 (k + 1) _ t v e with ⟨x, g1, g2, g3⟩ | g
    · exact .inl ⟨x, by rw [show t - k = (t - (k + 1)) + 1 by omega, List.getElem?_cons_succ]; exact g1, by omega, g3⟩
    · by_cases ht : t = k
      · subst ht
        rw [T.get_put_same] at g; cases g
        exact .inl ⟨y, by simp, Nat.le_refl _, h1⟩
      · rw [T.get_put_ne _ _ _ ht] at g; exact .inr g

theorem list_mapM_toArray {α β : Type} (a : Array α) (g : α → Sem β) (w : World) (l : List β) (h : (a.toList.mapM g).run P w = .ok l w) : (a.mapM g).run P w = .ok l.toArray w := by
  rw [Array.mapM_eq_mapM_toList]
  rw [Sem.run_map, h]; rfl

theorem ev_sound (hm : P.follows .mixedOrders = true) {orc : Orc} (horc : OrcOk P orc) : ∀ f,
    (∀ (n : Nat) (c : Code) (tm : T AV) (st : St) (r : Ex × T AV × St), evC P orc f n c tm st = some r → ∀ (ρ : Rho) (a : Act) (w : World) (Q : Exit → Act → World → Prop), RelA [] ρ tm n a → RelH ρ st w →
      (∀ ρ' a' w', RelA [] ρ' r.2.1 n a' → RelH ρ' r.2.2 w' → Fr ρ st w ρ' r.2.2 w' → Q (exOf r.1) a' w') →
      (match c with | .loop c' => Code.rounds P c' Q f a w | c => c.wp P Q a w)) ∧ CallOk P (evCall P orc f) := by
  intro f
  induction f with
  | zero =>
    refine ⟨fun n c tm st r e => by simp [evC] at e, fun g args st v st' e => by simp [evCall] at e⟩
  | succ f ih =>
    obtain ⟨ihC, ihK⟩ := ih
    have ihW : ∀ (n : Nat) (c : Code) (tm : T AV) (st : St) (r : Ex × T AV × St), evC P orc f n c tm st = some r → ∀ (ρ : Rho) (a : Act) (w : World) (Q : Exit → Act → World → Prop), RelA [] ρ tm n a → RelH ρ st w →
      (∀ ρ' a' w', RelA [] ρ' r.2.1 n a' → RelH ρ' r.2.2 w' → Fr ρ st w ρ' r.2.2 w' → Q (exOf r.1) a' w') → c.wp P Q a w := by
      intro n c tm st r e ρ a w Q hA hH hQ
      have := ihC n c tm st r e ρ a w Q hA hH hQ
      cases c <;> first | exact this | exact wp_loop_rounds f this
    refine ⟨fun n c tm st r e ρ a w Q hA hH hQ => ?_, fun g args st v st' e ρ xs w hl hH => ?_⟩
    · cases c with
      | skip =>
        simp only [evC, Option.some.injEq] at e; subst e
        exact wp_skip (hQ ρ a w hA hH (Fr.refl _ _ _ hH))
      | label l =>
        simp only [evC, Option.some.injEq] at e; subst e
        exact wp_label (hQ ρ a w hA hH (Fr.refl _ _ _ hH))
      | exit id =>
        simp only [evC, Option.some.injEq] at e; subst e
        exact wp_exit (hQ ρ a w hA hH (Fr.refl _ _ _ hH))
      | ret =>
        simp only [evC, Option.some.injEq] at e; subst e
        exact wp_ret (hQ ρ a w hA hH (Fr.refl _ _ _ hH))
      | seq x y =>
        simp only [evC] at e
        refine wp_seq ?_
        split at e
        · rename_i tm1 st1 h1
          refine ihW n x tm st _ h1 ρ a w _ hA hH (fun ρ1 a1 w1 k1 k2 k3 => ?_)
          exact ihW n y tm1 st1 r e ρ1 a1 w1 Q k1 k2 (fun ρ2 a2 w2 q1 q2 q3 => hQ ρ2 a2 w2 q1 q2 (k3.trans q3))
        · rename_i hne
          refine ihW n x tm st r e ρ a w _ hA hH (fun ρ1 a1 w1 k1 k2 k3 => ?_)
          have hq := hQ ρ1 a1 w1 k1 k2 k3
          obtain ⟨ex, tm1, st1⟩ := r
          cases ex with
          | normal => exact absurd e (hne tm1 st1)
          | exit id => exact hq
          | ret => exact hq
      | cond x y z =>
        simp only [evC] at e
        split at e
        · rename_i hx
          exact wp_cond (relV_sc.1 (hA.ok x _ hx)) (ihW n y tm st r e ρ a w Q hA hH hQ)
        · rename_i hx
          exact wp_cond (relV_sc.1 (hA.ok x _ hx)) (ihW n z tm st r e ρ a w Q hA hH hQ)
        · cases e
      | block id c =>
        simp only [evC] at e
        refine wp_block ?_
        split at e
        · rename_i id' tm1 st1 h1
          refine ihW n c tm st _ h1 ρ a w _ hA hH (fun ρ1 a1 w1 k1 k2 k3 => ?_)
          show (if id' = id then Q .normal a1 w1 else Q (.exit id') a1 w1)
          cases hb : id'.beq id with
          | true =>
            rw [hb] at e; simp only [cond_true, Option.some.injEq] at e; subst e
            rw [if_pos (Nat.eq_of_beq_eq_true hb)]
            exact hQ ρ1 a1 w1 k1 k2 k3
          | false =>
            rw [hb] at e; simp only [cond_false, Option.some.injEq] at e; subst e
            rw [if_neg (Nat.ne_of_beq_eq_false hb)]
            exact hQ ρ1 a1 w1 k1 k2 k3
        · rename_i hne
          refine ihW n c tm st r e ρ a w _ hA hH (fun ρ1 a1 w1 k1 k2 k3 => ?_)
          have hq := hQ ρ1 a1 w1 k1 k2 k3
          obtain ⟨ex, tm1, st1⟩ := r
          cases ex with
          | normal => exact hq
          | exit id' => exact absurd e (hne id' tm1 st1)
          | ret => exact hq
      | loop c =>
        simp only [evC] at e
        show Code.rounds P c Q (f + 1) a w
        rw [rounds_succ]
        split at e
        · rename_i tm1 st1 h1
          refine ihW n c tm st _ h1 ρ a w _ hA hH (fun ρ1 a1 w1 k1 k2 k3 => ?_)
          exact ihC n (.loop c) tm1 st1 r e ρ1 a1 w1 Q k1 k2 (fun ρ2 a2 w2 q1 q2 q3 => hQ ρ2 a2 w2 q1 q2 (k3.trans q3))
        · rename_i hne
          refine ihW n c tm st r e ρ a w _ hA hH (fun ρ1 a1 w1 k1 k2 k3 => ?_)
          have hq := hQ ρ1 a1 w1 k1 k2 k3
          obtain ⟨ex, tm1, st1⟩ := r
          cases ex with
          | normal => exact absurd e (hne tm1 st1)
          | exit id => exact hq
          | ret => exact hq
      | scope c =>
        simp only [evC] at e
        refine wp_scope_straight ?_
        refine ihW n c tm st r e ρ a w _ hA hH (fun ρ1 a1 w1 k1 k2 k3 => ?_)
        have hq := hQ ρ1 a1 w1 k1 k2 k3
        obtain ⟨ex, tm1, st1⟩ := r
        cases ex <;> exact hq
      | region id ops draw =>
        cases draw with
        | false =>
          simp only [evC] at e
          split at e
          case h_2 => cases e
          rename_i tm1 st1 h1
          simp only [Option.some.injEq] at e; subst e
          refine wp_region ?_
          rw [List.range_eq_range']
          have := evSeq_sound ihK ops.toList 0 rfl h1 hA hH (Q := Q) (fun ρ1 a1 w1 k1 k2 k3 => hQ ρ1 a1 w1 k1 k2 k3)
          simpa using this
        | true =>
          simp only [evC] at e
          split at e
          case h_2 => cases e
          rename_i tm1 st1 h1
          simp only [Option.some.injEq] at e; subst e
          exact evDraw_sound ihK hm h1 hA hH (fun ρ1 a1 w1 k1 k2 k3 => hQ ρ1 a1 w1 k1 k2 k3)
      | rangeFunc _ _ _ _ => simp [evC] at e
      | goto _ => simp [evC] at e
      | refuse _ => simp [evC] at e
    · simp only [evCall] at e
      split at e
      · cases e
      · rename_i v0 hask
        simp only [Option.some.injEq, Prod.mk.injEq] at e
        obtain ⟨rfl, rfl⟩ := e
        unfold askO at hask
        split at hask
        case h_1 => cases hask
        rename_i fo ho
        split at hask
        case h_1 => cases hask
        rename_i vs hvs
        split at hask
        case h_2 => cases hask
        rename_i v1 hv1
        simp only [Option.some.injEq] at hask; subst hask
        have hx := RelL.toVs _ _ _ hl hvs
        subst hx
        refine (horc g fo xs v1 ho hv1 w).mono ?_
        rintro e w' ⟨rfl, B⟩
        have Hn : RelH ρ st w' := by
          refine ⟨fun i o hg => (hH.obj i o hg).mono (Ext.refl _) (fun p hp => B.block _ (hH.dom _ _ hp).2) (fun _ _ _ _ h => h), fun i p hp => ⟨(hH.dom i p hp).1, Nat.lt_of_lt_of_le (hH.dom i p hp).2 B.size⟩, hH.sep, hH.stamp, hH.pos⟩
        exact ⟨ρ, v1, rfl, RelV.sc _, Hn, ⟨Nat.le_refl _, fun _ _ => rfl, fun i p h e => absurd (hH.dom i p e).1 (by omega), fun _ o h _ => ⟨o, h⟩, B.size, B.os, B.tape, B.output, fun b hb _ => B.block b hb, fun i o _ h hc _ => ⟨i, o, h, hc⟩⟩⟩
      · split at e
        case h_1 => cases e
        rename_i fn hfn
        split at e
        case h_1 => cases e
        rename_i c hc
        have hlen := hl.length
        have hA0 : RelA [] ρ (enterT args 0 .leaf) (args.length + (fn.ntmps - args.length)) { tmps := xs.toArray ++ Array.replicate (fn.ntmps - xs.toArray.size) undef, defers := [] } := by
          refine ⟨by simp [hlen], rfl, fun t v ht => ?_⟩
          rcases enterT_get hl 0 .leaf t v ht with ⟨x, g1, _, g3⟩ | g
          · rw [Nat.sub_zero] at g1
            have hlt : t < xs.length := by
              rcases Nat.lt_or_ge t xs.length with h | h
              · exact h
              · rw [List.getElem?_eq_none h] at g1; cases g1
            refine ⟨by omega, ?_⟩
            have : (xs.toArray ++ Array.replicate (fn.ntmps - xs.toArray.size) undef).getD t undef = x := by
              rw [Array.getD_eq_getD_getElem?, Array.getElem?_append_left (by simpa using hlt)]
              simp [g1]
            show RelV ρ v ((xs.toArray ++ Array.replicate (fn.ntmps - xs.toArray.size) undef).getD t undef)
            rw [this]; exact g3
          · rw [T.get_leaf] at g; cases g
        have fin : ∀ {ex : Ex} {tm1 : T AV} {st1 : St}, evC P orc f (args.length + (fn.ntmps - args.length)) c (enterT args 0 .leaf) st = some (ex, tm1, st1) → (exOf ex = .normal ∨ exOf ex = .ret) → ∀ l, evRes P tm1 st1.h fn.results.toList = some l → v = oneOf l → st' = st1 →
            Calls P g xs.toArray w fun e w' => ∃ ρ' y, e = .returned y ∧ RelV ρ' v y ∧ RelH ρ' st' w' ∧ Fr ρ st w ρ' st' w' := by
          intro ex tm1 st1 hev hex l hl' hv hst
          subst hv; subst hst
          refine calls_of_wp hfn hc ?_
          refine ihW _ c _ st _ hev ρ _ w _ hA0 hH (fun ρ1 a1 w1 k1 k2 k3 => ?_)
          obtain ⟨ys, g1, g2⟩ := evRes_sound (P := P) k1 k2 hl'
          have hres : (results fn a1.tmps).run P w1 = .ok (if h : ys.toArray.size = 1 then ys.toArray[0] else .tuple ys.toArray) w1 := by
            rw [results_eq, Sem.run_bind, list_mapM_toArray fn.results _ w1 ys g2]
            rfl
          have hb : a1.defers = [] ∧ ∃ v, (results fn a1.tmps).run P w1 = .ok v w1 ∧ (∃ ρ' y, Ending.returned v = .returned y ∧ RelV ρ' (oneOf l) y ∧ RelH ρ' st' w1 ∧ Fr ρ st w ρ' st' w1) :=
            ⟨k1.defers, _, hres, ρ1, _, rfl, oneOf_rel g1, k2, k3⟩
          rcases hex with h | h
          · rw [h]; exact hb
          · rw [h]; exact hb
        split at e
        · rename_i tm1 st1 hev
          split at e
          case h_2 => cases e
          rename_i l hl'
          simp only [Option.some.injEq, Prod.mk.injEq] at e
          exact fin hev (.inl rfl) l hl' e.1.symm e.2.symm
        · rename_i tm1 st1 hev
          split at e
          case h_2 => cases e
          rename_i l hl'
          simp only [Option.some.injEq, Prod.mk.injEq] at e
          exact fin hev (.inr rfl) l hl' e.1.symm e.2.symm
        · cases e

/-- WHAT THE EVALUATOR SAYS OF A CLOSED CALL. -/
theorem chk_sound (hm : P.follows .mixedOrders = true) {orc : Orc} (horc : OrcOk P orc) {f : Nat} {g : FuncId} {args : List Value} {v : Value} (h : chk P orc f g args = some v) (w : World) :
    Calls P g args.toArray w fun e w' => e = .returned v ∧ Below w.heap.size w w' := by
  unfold chk at h
  split at h
  case h_2 => cases h
  rename_i u st' he
  have H0 : RelH (fun _ => none) ⟨.leaf, 1⟩ w := ⟨(fun i o hg => by simp [T.get_leaf] at hg), (fun i p hp => by cases hp), (fun i j oi oj p q hi => by simp [T.get_leaf] at hi), (fun i c lo hi cls t hg => by simp [T.get_leaf] at hg), Nat.one_pos⟩
  refine ((ev_sound hm horc f).2 g (scs args) ⟨.leaf, 1⟩ u st' he _ args w (RelL.scs _) H0).mono ?_
  rintro e w' ⟨ρ', y, rfl, h1, h2, h3⟩
  refine ⟨by rw [RelV.toV _ _ _ h1 h], ⟨h3.os, h3.tape, h3.output, h3.size, fun b hb => h3.keep b hb ?_⟩⟩
  rintro ⟨j, o, q, hj, _⟩
  rw [T.get_leaf] at hj; cases hj
end
end Go.Proofs.Ythlcnklbeolhpaa.Ev

/-! EvFast -/
namespace Go.Proofs.Ythlcnklbeolhpaa.Ev
open Go Go.RowKit
noncomputable section

/-! The evaluator anew, so that the kernel reckons it quickly: what an operation is is looked up once. -/

/-- Integers, without a detour. -/
def i63 : Nat := 9223372036854775808
def smallI : Int → Bool
  | .ofNat m => m.blt i63
  | .negSucc m => m.blt i63
def isI64 : IntKind → Bool
  | .i64 => true
  | _ => false
def wrapF (k : IntKind) (n : Int) : Int := bif isI64 k && smallI n then n else k.wrap n
def addF : Int → Int → Int
  | .ofNat a, .ofNat b => .ofNat (a + b)
  | a, b => a + b
def subF : Int → Int → Int
  | .ofNat a, .ofNat b => bif b.ble a then .ofNat (a - b) else .ofNat a - .ofNat b
  | a, b => a - b
def mulF : Int → Int → Int
  | .ofNat a, .ofNat b => .ofNat (a * b)
  | a, b => a * b
def ltF : Int → Int → Bool
  | .ofNat a, .ofNat b => a.blt b
  | a, b => decide (a < b)
def eqF : Int → Int → Bool
  | .ofNat a, .ofNat b => a.beq b
  | a, b => decide (a = b)
def leF : Int → Int → Bool
  | .ofNat a, .ofNat b => a.ble b
  | a, b => decide (a ≤ b)
def binI (op : BinOp) (k : IntKind) (a b : Int) : Option Value :=
  match op with
  | .add => some (.int k (wrapF k (addF a b)))
  | .sub => some (.int k (wrapF k (subF a b)))
  | .mul => some (.int k (wrapF k (mulF a b)))
  | .eql => some (.bool (eqF a b))
  | .neq => some (.bool (!eqF a b))
  | .lss => some (.bool (ltF a b))
  | .leq => some (.bool (leF a b))
  | .gtr => some (.bool (ltF b a))
  | .geq => some (.bool (leF b a))
  | _ => none

theorem i63_eq : i63 = 9223372036854775808 := rfl
theorem blt_i63 {m : Nat} (h : m.blt i63 = true) : (m : Int) < 9223372036854775808 := by
  rw [Nat.blt_eq] at h
  have := i63_eq
  omega
theorem wrap_small {n : Int} (h1 : -9223372036854775808 ≤ n) (h2 : n < 9223372036854775808) : n = IntKind.i64.wrap n := (IntWalk.i64_in n ⟨h1, by omega⟩).symm
theorem neg_small {m : Nat} (h : (m : Int) < 9223372036854775808) : -9223372036854775808 ≤ Int.negSucc m ∧ Int.negSucc m < 9223372036854775808 := by
  rw [Int.negSucc_eq]; omega
theorem pos_small {m : Nat} (h : (m : Int) < 9223372036854775808) : -9223372036854775808 ≤ Int.ofNat m ∧ Int.ofNat m < 9223372036854775808 := by
  rw [Int.ofNat_eq_natCast]; omega
theorem smallI_spec {n : Int} (h : smallI n = true) : -9223372036854775808 ≤ n ∧ n < 9223372036854775808 := by
  cases n with
  | ofNat m => exact pos_small (blt_i63 h)
  | negSucc m => exact neg_small (blt_i63 h)
theorem isI64_spec {k : IntKind} (h : isI64 k = true) : k = .i64 := by cases k <;> first | rfl | cases h
theorem wrapF_eq (k : IntKind) (n : Int) : wrapF k n = k.wrap n := by
  unfold wrapF
  cases h : (isI64 k && smallI n) with
  | false => exact cond_false _ _
  | true =>
    rw [cond_true]
    rw [Bool.and_eq_true] at h
    obtain ⟨h1, h2⟩ := h
    have := isI64_spec h1
    subst this
    exact wrap_small (smallI_spec h2).1 (smallI_spec h2).2
theorem addF_eq (a b : Int) : addF a b = a + b := by unfold addF; split <;> rfl
theorem subF_eq (a b : Int) : subF a b = a - b := by
  unfold subF; split
  · rename_i a b
    cases h : b.ble a with
    | false => rfl
    | true =>
      have := Nat.le_of_ble_eq_true h
      show ((a - b : Nat) : Int) = _
      simp only [Int.ofNat_eq_natCast]; omega
  · rfl
theorem mulF_eq (a b : Int) : mulF a b = a * b := by unfold mulF; split <;> rfl
theorem ltF_eq (a b : Int) : ltF a b = decide (a < b) := by
  unfold ltF; split
  · rename_i a b
    rw [Bool.eq_iff_iff]; simp [Nat.blt_eq]
  · rfl
theorem leF_eq (a b : Int) : leF a b = decide (a ≤ b) := by
  unfold leF; split
  · rename_i a b
    rw [Bool.eq_iff_iff]; simp
  · rfl
theorem eqF_eq (a b : Int) : eqF a b = (a == b) := by
  unfold eqF; split
  · rename_i a b
    rw [Bool.eq_iff_iff]; simp; omega
  · rfl

theorem semP_bind {α β : Type} {P : Program} (s : Sem α) (g : α → Sem β) (a : α) (h : s = pure a) : semP P (s >>= g) = semP P (g a) := by subst h; rfl
theorem semP_pure {α : Type} {P : Program} (a : α) : semP P (Sem.pure a) = some a := rfl
theorem eqGuard_int (op : BinOp) (t : TypeId) (x y : Operand) (k : IntKind) (a b : Int) : eqGuard op t x y (.int k a) (.int k b) = pure () := guard_pure x y rfl
theorem binI_eq {P : Program} {op : BinOp} {t : TypeId} {x y : Operand} {k : IntKind} {a b : Int} {r : Value} (h : binI op k a b = some r) :
    semP P (do eqGuard op t x y (.int k a) (.int k b); binOp op t (.int k a) (.int k b)) = some r := by
  rw [semP_bind _ _ () (eqGuard_int op t x y k a b)]
  cases op <;> simp only [binI, Option.some.injEq, reduceCtorEq] at h
  all_goals subst h
  all_goals simp [binOp, Op.intArith, Op.intCmp, semP_pure, wrapF_eq, addF_eq, subF_eq, mulF_eq, ltF_eq, leF_eq, eqF_eq, pure]
  all_goals rfl

def evBinF (P : Program) (op : BinOp) (t : TypeId) (x y : Operand) (a b : AV) : Option AV :=
  match a, b with
  | .sc (.int k a), .sc (.int j b) => bif decide (k = j) then
      match binI op k a b with
      | some r => bif forced r then some (.sc r) else none
      | none => evBin P op t x y (.sc (.int k a)) (.sc (.int j b))
    else evBin P op t x y (.sc (.int k a)) (.sc (.int j b))
  | a, b => evBin P op t x y a b
theorem evBinF_eq (P : Program) (op : BinOp) (t : TypeId) (x y : Operand) (a b : AV) : evBinF P op t x y a b = evBin P op t x y a b := by
  unfold evBinF
  split
  · rename_i k a j b
    cases hk : decide (k = j) with
    | false => rfl
    | true =>
      have : k = j := of_decide_eq_true hk
      subst this
      simp only [cond_true]
      split
      · rename_i r hr
        unfold evBin evBin0
        simp only [AV.toV, binI_eq hr]
      · rfl
  · rfl

/-! Operations, looked up. -/
inductive Cop where
  | q (f : (Operand → Option AV) → T AO → Option AV)
  | f (g : (Operand → Option AV) → Nat → Option (AV × AO))
  | x (g : (FuncId → List AV → St → Option (AV × St)) → (Operand → Option AV) → St → Option (AV × St))

def loadE (P : Program) (t : TypeId) (h : T AO) : Option AV → Option AV
  | some (.ptr i k) => loadA P h t i k
  | _ => none
def bind2 (a b : Option AV) (g : AV → AV → Option AV) : Option AV :=
  match a with
  | some u => match b with
    | some v => g u v
    | none => none
  | none => none
def storeE (P : Program) (t : TypeId) (st : St) (a v : Option AV) : Option (AV × St) :=
  match a, v with
  | some a, some v => match storeA P st t a v with
    | some st' => some (.sc undef, st')
    | none => none
  | _, _ => none
def callE (P : Program) (call : FuncId → List AV → St → Option (AV × St)) (st : St) (f : Option AV) (args : Option (List AV)) : Option (AV × St) :=
  match args with
  | none => none
  | some args => match f with
    | some f => match calleeA f args with
      | some (g, as) => bif callable P g then call g as st else none
      | none => none
    | none => none
def compOp (P : Program) (o : Oper) : Cop :=
  match o.op with
  | .move x | .assign x => .q fun ev _ => ev x
  | .pick c a b => .q fun ev _ => pickA ev c a b
  | .load t a => .q fun ev h => loadE P t h (ev a)
  | .binOp op t x y _ => .q fun ev _ => bind2 (ev x) (ev y) (evBinF P op t x y)
  | .unOp op _ x => .q fun ev _ => (ev x).bind (unOpA P op)
  | .fieldAddr s x f => .q fun ev _ => (ev x).bind fun v => fieldAddrA P s v f
  | .indexAddr t x ix => .q fun ev _ => bind2 (ev x) (ev ix) (indexAddrA P t)
  | .extract x i => .q fun ev _ => (ev x).bind fun v => extractA v i
  | .nilCheck x => .q fun ev _ => (ev x).bind nilCheckA
  | .store t a x => .x fun _ ev st => storeE P t st (ev a) (ev x)
  | .call c => match c.callee with
    | .value f => .x fun call ev st => callE P call st (ev f) (evXs ev c.args.toList)
    | .builtin .len => .q fun ev h => (evXs ev c.args.toList).bind (builtinQ P h .len c.argTypes o.type)
    | _ => match kindOf o.op with
      | .q => .q fun ev h => evQ P ev h o
      | .f => .f fun ev i => evF P ev i o
      | .x => .x fun call ev st => evW P call ev st o
  | _ => match kindOf o.op with
    | .q => .q fun ev h => evQ P ev h o
    | .f => .f fun ev i => evF P ev i o
    | .x => .x fun call ev st => evW P call ev st o
def evOpF (P : Program) (call : FuncId → List AV → St → Option (AV × St)) (ev : Operand → Option AV) (st : St) (o : Oper) : Option (AV × St) :=
  match compOp P o with
  | .q f => match f ev st.h with
    | some v => some (v, st)
    | none => none
  | .f g => match g ev st.nx with
    | some (v, ao) => some (v, ⟨st.h.put st.nx ao, st.nx + 1⟩)
    | none => none
  | .x g => g call ev st

theorem bind2_eq (a b : Option AV) (g : AV → AV → Option AV) : bind2 a b g = a.bind fun u => b.bind fun v => g u v := by
  cases a <;> cases b <;> rfl
theorem evOpF_eq (P : Program) (call : FuncId → List AV → St → Option (AV × St)) (ev : Operand → Option AV) (st : St) (o : Oper) : evOpF P call ev st o = evOp P call ev st o := by
  obtain ⟨dst, op, type, pos, after, guard⟩ := o
  cases op with
  | binOp op t x y t' =>
    show (match bind2 (ev x) (ev y) (evBinF P op t x y) with | some v => some (v, st) | none => none) = (match (ev x).bind fun a => (ev y).bind fun b => evBin P op t x y a b with | some v => some (v, st) | none => none)
    rw [bind2_eq]
    have : (fun u => (ev y).bind fun v => evBinF P op t x y u v) = fun a => (ev y).bind fun b => evBin P op t x y a b := by
      funext u; congr 1; funext v; exact evBinF_eq P op t x y u v
    rw [this]
  | indexAddr t x ix =>
    show (match bind2 (ev x) (ev ix) (indexAddrA P t) with | some v => some (v, st) | none => none) = _
    rw [bind2_eq]; rfl
  | load t a =>
    show (match loadE P t st.h (ev a) with | some v => some (v, st) | none => none) = _
    unfold loadE
    rfl
  | store t a x =>
    show storeE P t st (ev a) (ev x) = _
    rfl
  | call c =>
    obtain ⟨callee, args, ats⟩ := c
    cases callee with
    | value f =>
      show callE P call st (ev f) (evXs ev args.toList) = _
      unfold callE
      cases h : evXs ev args.toList with
      | none => simp [evOp, kindOf, evW, h]
      | some l =>
        cases hf : ev f with
        | none => simp [evOp, kindOf, evW, h, hf]
        | some fv => simp only [evOp, kindOf, evW, h, hf]; rfl
    | invoke r name => rfl
    | builtin b => cases b <;> rfl
  | _ => rfl

/-! Regions, code, calls. -/
def kput (n : Nat) (tm : T AV) (dst : Option Tmp) (v : AV) (st : St) (k : T AV → St → Option (T AV × St)) : Option (T AV × St) :=
  match dst with
  | none => k tm st
  | some d => bif d.blt n then k (tm.put d v) st else none
def runOp (n : Nat) (call : FuncId → List AV → St → Option (AV × St)) (dst : Option Tmp) (tm : T AV) (st : St) (k : T AV → St → Option (T AV × St)) : Cop → Option (T AV × St)
  | .q f => match f (evX tm) st.h with
    | some v => kput n tm dst v st k
    | none => none
  | .f g => match g (evX tm) st.nx with
    | some (v, ao) => kput n tm dst v ⟨st.h.put st.nx ao, st.nx + 1⟩ k
    | none => none
  | .x g => match g call (evX tm) st with
    | some (v, st') => kput n tm dst v st' k
    | none => none
def stepS (P : Program) (call : FuncId → List AV → St → Option (AV × St)) (n : Nat) (all : List Oper) (o : Oper) (k : T AV → St → Option (T AV × St)) (tm : T AV) (st : St) : Option (T AV × St) :=
  match o.guard with
  | none => runOp n call o.dst tm st k (compOp P o)
  | some _ => match wantedA all tm.get o with
    | none => none
    | some false => kput n tm o.dst (.sc undef) st k
    | some true => runOp n call o.dst tm st k (compOp P o)
def evSeqF (P : Program) (call : FuncId → List AV → St → Option (AV × St)) (n : Nat) (all : List Oper) (os : List Oper) : T AV → St → Option (T AV × St) :=
  @List.rec Oper (fun _ => T AV → St → Option (T AV × St)) (fun tm st => some (tm, st)) (fun o _ k => stepS P call n all o k) os
theorem evSeqF_eq (P : Program) (call : FuncId → List AV → St → Option (AV × St)) (n : Nat) (all : List Oper) : ∀ (os : List Oper) (tm : T AV) (st : St), evSeqF P call n all os tm st = evSeq P call n all os tm st
  | [], tm, st => rfl
  | o :: os, tm, st => by
    have ih : evSeqF P call n all os = fun tm st => evSeq P call n all os tm st := by funext tm st; exact evSeqF_eq P call n all os tm st
    show stepS P call n all o (evSeqF P call n all os) tm st = _
    rw [ih]
    have kp : ∀ v st', kput n tm o.dst v st' (fun tm st => evSeq P call n all os tm st) = (match putA n tm o.dst v with | some tm' => evSeq P call n all os tm' st' | none => none) := by
      intro v st'
      unfold kput putA
      cases o.dst with
      | none => rfl
      | some d => cases h : d.blt n <;> simp only [h, cond_true, cond_false]
    have run : runOp n call o.dst tm st (fun tm st => evSeq P call n all os tm st) (compOp P o) = (match evOp P call (evX tm) st o with
        | none => none
        | some (v, st') => match putA n tm o.dst v with
          | some tm' => evSeq P call n all os tm' st'
          | none => none) := by
      rw [← evOpF_eq]
      unfold evOpF
      cases compOp P o with
      | q f => simp only [runOp]; cases f (evX tm) st.h with
        | none => rfl
        | some v => simp only [kp]
      | f g => simp only [runOp]; cases g (evX tm) st.nx with
        | none => rfl
        | some p => obtain ⟨v, ao⟩ := p; simp only [kp]
      | x g => simp only [runOp]; cases g call (evX tm) st with
        | none => rfl
        | some p => obtain ⟨v, st'⟩ := p; simp only [kp]
    simp only [evSeq]
    unfold stepS
    cases hg : o.guard with
    | none =>
      have hw : wantedA all tm.get o = some true := by unfold wantedA; rw [hg]
      simp only [hw]
      exact run
    | some gd =>
      simp only
      cases hw : wantedA all tm.get o with
      | none => rfl
      | some b => cases b with
        | false => simp only; exact kp _ _
        | true => simp only; exact run

abbrev RC := Nat → Code → T AV → St → Option (Ex × T AV × St)
abbrev RK := FuncId → List AV → St → Option (AV × St)
def seqE (rC : RC) (n : Nat) (a b : Code) (tm : T AV) (st : St) : Option (Ex × T AV × St) :=
  match rC n a tm st with
  | some (.normal, tm', st') => rC n b tm' st'
  | r => r
def condE (rC : RC) (n : Nat) (a b : Code) (tm : T AV) (st : St) : Option AV → Option (Ex × T AV × St)
  | some (.sc (.bool true)) => rC n a tm st
  | some (.sc (.bool false)) => rC n b tm st
  | _ => none
def blockE (id : Nat) : Option (Ex × T AV × St) → Option (Ex × T AV × St)
  | some (.exit id', tm', st') => bif id'.beq id then some (.normal, tm', st') else some (.exit id', tm', st')
  | r => r
def regE : Option (T AV × St) → Option (Ex × T AV × St)
  | some (tm', st') => some (.normal, tm', st')
  | none => none
def stepC (P : Program) (rC : RC) (rK : RK) : RC := fun n c tm st =>
  match c with
  | .skip | .label _ => some (.normal, tm, st)
  | .seq a b => seqE rC n a b tm st
  | .cond x a b => condE rC n a b tm st (evX tm x)
  | .block id c => blockE id (rC n c tm st)
  | .loop c => seqE rC n c (.loop c) tm st
  | .scope c => rC n c tm st
  | .exit id => some (.exit id, tm, st)
  | .ret => some (.ret, tm, st)
  | .region _ ops false => regE (evSeqF P rK n ops.toList ops.toList tm st)
  | .region _ ops true => regE (evDraw P rK n ops.toList tm st)
  | _ => none
def endE (P : Program) (rs : List ResultVar) : Option (Ex × T AV × St) → Option (AV × St)
  | some (.normal, tm, st') | some (.ret, tm, st') => match evRes P tm st'.h rs with
    | some l => some (oneOf l, st')
    | none => none
  | _ => none
def enterE (P : Program) (rC : RC) (args : List AV) (st : St) : Option Func → Option (AV × St)
  | none => none
  | some fn => match fn.body with
    | none => none
    | some c => endE P fn.results.toList (rC (args.length + (fn.ntmps - args.length)) c (enterT args 0 .leaf) st)
def stepK (P : Program) (orc : Orc) (rC : RC) : RK := fun g args st =>
  match askO orc g args with
  | some none => none
  | some (some v) => some (v, st)
  | none => enterE P rC args st P.funcs[g]?
def both (P : Program) (orc : Orc) (f : Nat) : RC × RK :=
  @Nat.rec (fun _ => RC × RK) (fun _ _ _ _ => none, fun _ _ _ => none) (fun _ ih => (stepC P ih.1 ih.2, stepK P orc ih.1)) f
theorem both_eq (P : Program) (orc : Orc) : ∀ f, both P orc f = (evC P orc f, evCall P orc f)
  | 0 => by
    show ((fun _ _ _ _ => none, fun _ _ _ => none) : RC × RK) = _
    congr 1
  | f + 1 => by
    have ih := both_eq P orc f
    show (stepC P (both P orc f).1 (both P orc f).2, stepK P orc (both P orc f).1) = _
    rw [ih]
    congr 1
    · funext n c tm st
      cases c with
      | region id ops draw =>
        cases draw with
        | false => simp only [evC, stepC, evSeqF_eq]; cases evSeq P (evCall P orc f) n ops.toList ops.toList tm st <;> rfl
        | true => simp only [evC, stepC]; cases evDraw P (evCall P orc f) n ops.toList tm st <;> rfl
      | cond x a b => simp only [evC, stepC]; unfold condE; rfl
      | seq a b => simp only [evC, stepC]; unfold seqE; rfl
      | loop c => simp only [evC, stepC]; unfold seqE; rfl
      | block id c => simp only [evC, stepC]; unfold blockE; rfl
      | _ => simp only [evC, stepC]
def chkF (P : Program) (orc : Orc) (f : Nat) (g : FuncId) (args : List Value) : Option Value :=
  match (both P orc f).2 g (scs args) ⟨.leaf, 1⟩ with
  | some (v, _) => v.toV
  | none => none
theorem chkF_eq (P : Program) (orc : Orc) (f : Nat) (g : FuncId) (args : List Value) : chkF P orc f g args = chk P orc f g args := by
  unfold chkF chk; rw [both_eq]; rfl
/-- WHAT THE EVALUATOR SAYS OF A CLOSED CALL. -/
theorem chkF_sound {P : Program} (hm : P.follows .mixedOrders = true) {orc : Orc} (horc : OrcOk P orc) {f : Nat} {g : FuncId} {args : List Value} {v : Value} (h : chkF P orc f g args = some v) (w : World) :
    Calls P g args.toArray w fun e w' => e = .returned v ∧ Below w.heap.size w w' :=
  chk_sound hm horc (by rw [← chkF_eq]; exact h) w
end
end Go.Proofs.Ythlcnklbeolhpaa.Ev

/-! EvRes -/
/- Calls whose arguments are known in part: numbers by their remainders. -/
namespace Go.Proofs.Ythlcnklbeolhpaa.Ev
open Go Go.RowKit
noncomputable section

/-- A call over arguments that are known in part. -/
def chkA (P : Program) (orc : Orc) (f : Nat) (g : FuncId) (args : List AV) : Option Value :=
  match (both P orc f).2 g args ⟨.leaf, 1⟩ with
  | some (v, _) => v.toV
  | none => none

theorem chkA_sound {P : Program} (hm : P.follows .mixedOrders = true) {orc : Orc} (horc : OrcOk P orc) {f : Nat} {g : FuncId} {args : List AV} {vs : List Value} (hr : RelL (fun _ => none) args vs) {v : Value} (h : chkA P orc f g args = some v) (w : World) :
    Calls P g vs.toArray w fun e w' => e = .returned v ∧ Below w.heap.size w w' := by
  unfold chkA at h
  rw [both_eq] at h
  split at h
  case h_2 => cases h
  rename_i u st' he
  have H0 : RelH (fun _ => none) ⟨.leaf, 1⟩ w := ⟨(fun i o hg => by simp [T.get_leaf] at hg), (fun i p hp => by cases hp), (fun i j oi oj p q hi => by simp [T.get_leaf] at hi), (fun i c lo hi cls t hg => by simp [T.get_leaf] at hg), Nat.one_pos⟩
  refine ((ev_sound hm horc f).2 g args ⟨.leaf, 1⟩ u st' he _ vs w hr H0).mono ?_
  rintro e w' ⟨ρ', y, rfl, h1, h2, h3⟩
  refine ⟨by rw [RelV.toV _ _ _ h1 h], ⟨h3.os, h3.tape, h3.output, h3.size, fun b hb => h3.keep b hb ?_⟩⟩
  rintro ⟨j, o, q, hj, _⟩
  rw [T.get_leaf] at hj; cases hj

/-- Numbers in cells. -/
def allI : List AV → Option (List Int)
  | [] => some []
  | .sc (.int .i64 x) :: l => match allI l with
    | some xs => some (x :: xs)
    | none => none
  | _ :: _ => none
theorem allI_rel {ρ : Rho} : ∀ {l : List AV} {xs : List Int} {vs : List Value}, allI l = some xs → RelL ρ l vs → vs = xs.map (.int .i64)
  | [], xs, vs, h, hr => by
    simp only [allI, Option.some.injEq] at h; subst h
    exact RelL.nil_iff.1 hr
  | u :: l, xs, vs, h, hr => by
    obtain ⟨y, ys, h1, h2, rfl⟩ := hr.cons_inv
    unfold allI at h
    split at h
    case h_1 e => cases e
    case h_3 => cases h
    rename_i x l' e
    cases e
    split at h
    case h_2 => cases h
    rename_i zs hz
    simp only [Option.some.injEq] at h; subst h
    rw [relV_sc.1 h1, allI_rel hz h2]; rfl

/-- A call that returns a slice of numbers. -/
def chkL (P : Program) (orc : Orc) (f : Nat) (g : FuncId) (args : List AV) : Option (List Int) :=
  match (both P orc f).2 g args ⟨.leaf, 1⟩ with
  | some (.sl i k n z _, st) => bif z.beq 1 then match rdCells st.h i k n with
      | some l => allI l
      | none => none
    else none
  | some (.sc (.slice none 0 0), _) => some []
  | _ => none

theorem rdCells_len {h : T AO} {i : Nat} : ∀ {n k : Nat} {l : List AV}, rdCells h i k n = some l → l.length = n
  | 0, k, l, e => by simp only [rdCells, Option.some.injEq] at e; subst e; rfl
  | n + 1, k, l, e => by
    simp only [rdCells] at e
    split at e
    case h_2 => cases e
    split at e
    case h_2 => cases e
    rename_i l' hl
    simp only [Option.some.injEq] at e; subst e
    simp [rdCells_len hl]

theorem chkL_sound {P : Program} (hm : P.follows .mixedOrders = true) {orc : Orc} (horc : OrcOk P orc) {f : Nat} {g : FuncId} {args : List AV} {vs : List Value} (hr : RelL (fun _ => none) args vs) {xs : List Int} (h : chkL P orc f g args = some xs) (w : World) :
    Calls P g vs.toArray w fun e w' => ∃ a c, e = .returned (.slice a xs.length c) ∧ xs.length ≤ c ∧ RdI w' a xs ∧ Below w.heap.size w w' := by
  unfold chkL at h
  rw [both_eq] at h
  have H0 : RelH (fun _ => none) ⟨.leaf, 1⟩ w := ⟨(fun i o hg => by simp [T.get_leaf] at hg), (fun i p hp => by cases hp), (fun i j oi oj p q hi => by simp [T.get_leaf] at hi), (fun i c lo hi cls t hg => by simp [T.get_leaf] at hg), Nat.one_pos⟩
  have fin : ∀ {u : AV} {st' : St}, evCall P orc f g args ⟨.leaf, 1⟩ = some (u, st') → (∀ ρ' y w', RelV ρ' u y → RelH ρ' st' w' → ∃ a c, y = .slice a xs.length c ∧ xs.length ≤ c ∧ RdI w' a xs) →
      Calls P g vs.toArray w fun e w' => ∃ a c, e = .returned (.slice a xs.length c) ∧ xs.length ≤ c ∧ RdI w' a xs ∧ Below w.heap.size w w' := by
    intro u st' he hk
    refine ((ev_sound hm horc f).2 g args ⟨.leaf, 1⟩ u st' he _ vs w hr H0).mono ?_
    rintro e w' ⟨ρ', y, rfl, h1, h2, h3⟩
    obtain ⟨a, c, rfl, hc, hx⟩ := hk ρ' y w' h1 h2
    refine ⟨a, c, rfl, hc, hx, ⟨h3.os, h3.tape, h3.output, h3.size, fun b hb => h3.keep b hb ?_⟩⟩
    rintro ⟨j, o, q, hj, _⟩
    rw [T.get_leaf] at hj; cases hj
  split at h
  · rename_i i k n z c st' he
    cases hz : z.beq 1 with
    | false => rw [hz] at h; cases h
    | true =>
      rw [hz] at h
      simp only [cond_true] at h
      split at h
      case h_2 => cases h
      rename_i l hl
      refine fin he fun ρ' y w' h1 h2 => ?_
      obtain ⟨a, cap, h3, h4, _, rfl⟩ := relV_sl.1 h1
      have hn := rdCells_len hl
      by_cases hc0 : 0 < cap
      · obtain ⟨zs, k1, k2, k3⟩ := h2.rds hl (h3 hc0).1
        have k4 := allI_rel h k1
        subst k4
        have hxn : xs.length = n := by simpa using k2
        refine ⟨some a, cap, by rw [hxn], by omega, fun j hj => ?_⟩
        obtain ⟨b, o, e, _, e2, e3, _⟩ := (h3 hc0).1
        have k5 := k3 j (.int .i64 xs[j]) (by simp [hj])
        refine ⟨a.block, a.off, by cases a; simp_all, ?_⟩
        rw [← k5]
        congr 1
        cases a
        simp at e3
        subst e3
        exact (Addr.add_lit _ _ _).symm
      · have hn0 : n = 0 := by omega
        subst hn0
        have hx0 : xs = [] := by
          simp only [rdCells, Option.some.injEq] at hl; subst hl
          simpa [allI] using h.symm
        subst hx0
        exact ⟨some a, cap, rfl, Nat.zero_le _, RdI.nil _ _⟩
  · rename_i st' he
    simp only [Option.some.injEq] at h; subst h
    refine fin he fun ρ' y w' h1 h2 => ?_
    rw [relV_sc.1 h1]
    exact ⟨none, 0, rfl, Nat.le_refl _, RdI.nil _ _⟩
  · cases h

theorem rel_res {ρ : Rho} {k : IntKind} {m x : Nat} (hx : x < 65536) : RelV ρ (.res k m (x % m)) (.int k x) := relV_res.2 ⟨x, hx, rfl, rfl⟩

def isTrue : Option Value → Bool
  | some (.bool true) => true
  | _ => false
theorem isTrue_eq {o : Option Value} (h : isTrue o = true) : o = some (.bool true) := by
  unfold isTrue at h
  split at h
  · rfl
  · cases h

/-- All numbers below n (structural, for the kernel). -/
def allB (p : Nat → Bool) : Nat → Bool
  | 0 => true
  | n + 1 => p n && allB p n
theorem allB_get {p : Nat → Bool} : ∀ {n : Nat}, allB p n = true → ∀ k, k < n → p k = true
  | 0, _, k, h => absurd h (Nat.not_lt_zero _)
  | n + 1, h, k, hk => by
    simp only [allB, Bool.and_eq_true] at h
    by_cases e : k = n
    · subst e; exact h.1
    · exact allB_get h.2 k (by omega)
end
end Go.Proofs.Ythlcnklbeolhpaa.Ev

/-! EvFst -/
/- Reading, laying, appending: the same, for the kernel. -/
namespace Go.Proofs.Ythlcnklbeolhpaa.Ev
open Go Go.RowKit
noncomputable section
def ifB {R : Type} (a b : R) (c : Bool) : R := @Bool.rec (fun _ => R) b a c
def optK {α R : Type} (bad : R) (k : α → R) (o : Option α) : R := @Option.rec α (fun _ => R) bad k o
def T.getK {α R : Type} (t : T α) (bad : R) (k : α → R) : Nat → R :=
  @T.rec α (fun _ => Nat → R) (fun _ => bad) (fun _ v _ gl gr n => @Nat.rec (fun _ => R) (@Option.rec α (fun _ => R) bad k v) (fun m _ => @Nat.rec (fun _ => R) (gl (Nat.div m 2)) (fun _ _ => gr (Nat.div m 2)) (Nat.mod m 2)) n) t
def aoK {R : Type} (bad : R) (k : T (AV × Nat) → Nat → Nat → Nat → T Nat → R) (ao : AO) : R := @AO.rec (fun _ => R) k (fun _ _ => bad) ao
/-- The writes of an object's class. -/
def rdW (h : T AO) (i cls : Nat) (w : T Nat) : Option (T Nat) := ifB (some w) (h.getK none (aoK none fun _ _ _ _ w' => some w') cls) (Nat.beq cls i)
def cellF (c : T (AV × Nat)) (ww : T Nat) (k : Nat) : Option AV :=
  c.getK none (fun p => @Prod.rec AV Nat (fun _ => Option AV) (fun v s => @Option.rec Nat (fun _ => Option AV) (some v) (fun s' => ifB (some v) none (Nat.ble s' s)) (ww.get k)) p) k
def rdCellF (h : T AO) (i k : Nat) : Option AV :=
  h.getK none (aoK none fun c lo hi cls w => ifB (ifB (optK none (fun ww => cellF c ww k) (rdW h i cls w)) none (Nat.ble (Nat.succ k) hi)) none (Nat.ble lo k)) i
def readF (c : T (AV × Nat)) (ww : T Nat) (n : Nat) : Nat → Option (List AV) :=
  @Nat.rec (fun _ => Nat → Option (List AV)) (fun _ => some []) (fun _ ih k => optK none (fun v => optK none (fun l => some (v :: l)) (ih (Nat.succ k))) (cellF c ww k)) n
def rdsF (h : T AO) (i k n : Nat) : Option (List AV) :=
  @Nat.rec (fun _ => Option (List AV)) (some []) (fun m _ => h.getK none (aoK none fun c lo hi cls w => ifB (ifB (optK none (fun ww => readF c ww (Nat.succ m) k) (rdW h i cls w)) none (Nat.ble (Nat.add k (Nat.succ m)) hi)) none (Nat.ble lo k)) i) n
def layF (s : Nat) (l : List AV) : Nat → T (AV × Nat) → T (AV × Nat) :=
  @List.rec AV (fun _ => Nat → T (AV × Nat) → T (AV × Nat)) (fun _ t => t) (fun v _ ih q t => ih (Nat.succ q) (t.put q (v, s))) l
def allOneF (l : List AV) : Bool := @List.rec AV (fun _ => Bool) true (fun v _ ih => ifB ih false v.one) l
def lenF {α : Type} (l : List α) : Nat := @List.rec α (fun _ => Nat) 0 (fun _ _ ih => Nat.succ ih) l
def appF {α : Type} (l m : List α) : List α := @List.rec α (fun _ => List α) m (fun v _ ih => v :: ih) l
def rowF (i : Nat) (l : List AV) : Option AO := ifB (some (.cells (layF 0 l 0 .leaf) 0 (lenF l) i .leaf)) none (allOneF l)
end
theorem T.getK_eq {α R : Type} (bad : R) (k : α → R) : ∀ (t : T α) (n : Nat), t.getK bad k n = optK bad k (t.get n)
  | .leaf, n => rfl
  | .node l v r, 0 => rfl
  | .node l v r, m + 1 => by
    show @Nat.rec (fun _ => R) (l.getK bad k (Nat.div m 2)) (fun _ _ => r.getK bad k (Nat.div m 2)) (Nat.mod m 2) = optK bad k (@Nat.rec (fun _ => Option α) (l.get (Nat.div m 2)) (fun _ _ => r.get (Nat.div m 2)) (Nat.mod m 2))
    cases Nat.mod m 2 with
    | zero => exact T.getK_eq bad k l _
    | succ q => exact T.getK_eq bad k r _
theorem allOneF_eq : ∀ l : List AV, allOneF l = allOne l
  | [] => rfl
  | v :: l => by
    show ifB (allOneF l) false v.one = (v.one && allOne l)
    rw [allOneF_eq l]
    cases v.one <;> rfl
theorem lenF_eq {α : Type} : ∀ l : List α, lenF l = l.length
  | [] => rfl
  | v :: l => by
    show Nat.succ (lenF l) = _
    rw [lenF_eq l]; rfl
theorem appF_eq {α : Type} : ∀ l m : List α, appF l m = l ++ m
  | [], m => rfl
  | v :: l, m => by
    show v :: appF l m = _
    rw [appF_eq l m]; rfl
theorem layF_eq (s : Nat) : ∀ (l : List AV) (q : Nat) (t : T (AV × Nat)), layF s l q t = lay s l q t
  | [], q, t => rfl
  | v :: l, q, t => by
    show layF s l (Nat.succ q) (t.put q (v, s)) = lay s l (q + 1) (t.put q (v, s))
    exact layF_eq s l _ _
theorem rowF_eq (i : Nat) (l : List AV) : rowF i l = rowOf i l := by
  unfold rowF rowOf
  rw [allOneF_eq, layF_eq, lenF_eq]
  cases allOne l <;> rfl
theorem rdW_eq {h : T AO} {i cls : Nat} {w : T Nat} {c : T (AV × Nat)} {lo hi : Nat} (hi' : h.get i = some (.cells c lo hi cls w)) : rdW h i cls w = match h.get cls with | some (.cells _ _ _ _ w') => some w' | _ => none := by
  unfold rdW
  cases hb : Nat.beq cls i with
  | true =>
    have := Nat.eq_of_beq_eq_true hb
    subst this
    rw [hi']; rfl
  | false =>
    show h.getK none (aoK none fun _ _ _ _ w' => some w') cls = _
    rw [T.getK_eq]
    cases h.get cls with
    | none => rfl
    | some ao => cases ao <;> rfl
theorem cellF_eq (c : T (AV × Nat)) (ww : T Nat) (k : Nat) : cellF c ww k = match c.get k with | some (v, s) => (match ww.get k with | none => some v | some s' => bif s'.ble s then some v else none) | none => none := by
  unfold cellF
  rw [T.getK_eq]
  cases c.get k with
  | none => rfl
  | some p =>
    obtain ⟨v, s⟩ := p
    show @Option.rec Nat (fun _ => Option AV) (some v) (fun s' => ifB (some v) none (Nat.ble s' s)) (ww.get k) = _
    cases ww.get k with
    | none => rfl
    | some s' =>
      show ifB (some v) none (Nat.ble s' s) = bif s'.ble s then some v else none
      cases Nat.ble s' s <;> rfl
theorem rdCell_at {h : T AO} {i k cls lo hi : Nat} {w : T Nat} {c : T (AV × Nat)} (hi' : h.get i = some (.cells c lo hi cls w)) : rdCell h i k = bif lo.ble k && k.blt hi then (match rdW h i cls w with | some ww => cellF c ww k | none => none) else none := by
  unfold rdCell
  rw [hi', rdW_eq hi']
  simp only
  cases lo.ble k && k.blt hi with
  | false => rfl
  | true =>
    simp only [cond_true]
    cases hc : h.get cls with
    | none => simp only; cases c.get k with
      | none => rfl
      | some p => rfl
    | some ao => cases ao with
      | map es cl => simp only; cases c.get k with
        | none => rfl
        | some p => rfl
      | cells c' lo' hi'' cls' w' =>
        simp only
        rw [cellF_eq]
        cases c.get k with
        | none => rfl
        | some p => rfl
theorem rdCellF_eq (h : T AO) (i k : Nat) : rdCellF h i k = rdCell h i k := by
  unfold rdCellF
  rw [T.getK_eq]
  cases hi : h.get i with
  | none => unfold rdCell; rw [hi]; rfl
  | some ao => cases ao with
    | map es cl => unfold rdCell; rw [hi]; rfl
    | cells c lo hi' cls w =>
      rw [rdCell_at hi]
      show ifB (ifB (optK none (fun ww => cellF c ww k) (rdW h i cls w)) none (Nat.ble (Nat.succ k) hi')) none (Nat.ble lo k) = _
      have hblt : k.blt hi' = Nat.ble (Nat.succ k) hi' := rfl
      rw [hblt]
      cases Nat.ble lo k with
      | false => rfl
      | true =>
        cases Nat.ble (Nat.succ k) hi' with
        | false => rfl
        | true =>
          show optK none (fun ww => cellF c ww k) (rdW h i cls w) = _
          cases rdW h i cls w <;> rfl
theorem readF_eq {h : T AO} {i cls lo hi : Nat} {w : T Nat} {c : T (AV × Nat)} (hi' : h.get i = some (.cells c lo hi cls w)) {ww : T Nat} (hw : rdW h i cls w = some ww) : ∀ (n k : Nat), lo ≤ k → k + n ≤ hi → readF c ww n k = rdCells h i k n
  | 0, k, _, _ => rfl
  | n + 1, k, h1, h2 => by
    have e : rdCell h i k = cellF c ww k := by
      rw [rdCell_at hi', hw]
      have a1 : lo.ble k = true := Nat.ble_eq_true_of_le h1
      have a2 : k.blt hi = true := Nat.ble_eq_true_of_le (show Nat.succ k ≤ hi by omega)
      rw [a1, a2]; rfl
    have e2 : readF c ww n (Nat.succ k) = rdCells h i (k + 1) n := readF_eq hi' hw n (k + 1) (by omega) (by omega)
    show optK none (fun v => optK none (fun l => some (v :: l)) (readF c ww n (Nat.succ k))) (cellF c ww k) = _
    simp only [rdCells]
    rw [e, e2]
    cases cellF c ww k with
    | none => rfl
    | some v =>
      show optK none (fun l => some (v :: l)) (rdCells h i (k + 1) n) = _
      cases rdCells h i (k + 1) n <;> rfl
theorem rdCells_none {h : T AO} {i : Nat} : ∀ (n k j : Nat), j < n → rdCell h i (k + j) = none → rdCells h i k n = none
  | 0, k, j, hj, _ => absurd hj (Nat.not_lt_zero _)
  | n + 1, k, 0, _, e => by
    simp only [rdCells]
    rw [Nat.add_zero] at e
    rw [e]
  | n + 1, k, j + 1, hj, e => by
    simp only [rdCells]
    have := rdCells_none (h := h) (i := i) n (k + 1) j (by omega) (by rw [show k + 1 + j = k + (j + 1) by omega]; exact e)
    rw [this]
    cases rdCell h i k <;> rfl
theorem rdsF_eq (h : T AO) (i k : Nat) : ∀ n, rdsF h i k n = rdCells h i k n
  | 0 => rfl
  | m + 1 => by
    show h.getK none (aoK none fun c lo hi cls w => ifB (ifB (optK none (fun ww => readF c ww (Nat.succ m) k) (rdW h i cls w)) none (Nat.ble (Nat.add k (Nat.succ m)) hi)) none (Nat.ble lo k)) i = _
    rw [T.getK_eq]
    cases hi : h.get i with
    | none =>
      rw [rdCells_none (m + 1) k 0 (by omega) (by unfold rdCell; rw [hi])]; rfl
    | some ao => cases ao with
      | map es cl => rw [rdCells_none (m + 1) k 0 (by omega) (by unfold rdCell; rw [hi])]; rfl
      | cells c lo hi' cls w =>
        show ifB (ifB (optK none (fun ww => readF c ww (Nat.succ m) k) (rdW h i cls w)) none (Nat.ble (Nat.add k (Nat.succ m)) hi')) none (Nat.ble lo k) = _
        cases h1 : Nat.ble lo k with
        | false => rw [rdCells_none (m + 1) k 0 (by omega) (by rw [rdCell_at hi, Nat.add_zero, h1]; rfl)]; rfl
        | true =>
          cases h2 : Nat.ble (Nat.add k (Nat.succ m)) hi' with
          | false =>
            have h3 : ¬ k + (m + 1) ≤ hi' := fun hle => by
              have := Nat.ble_eq_true_of_le hle
              have e : Nat.add k (Nat.succ m) = k + (m + 1) := rfl
              rw [e] at h2
              rw [h2] at this; cases this
            rw [rdCells_none (m + 1) k m (by omega) (by
              rw [rdCell_at hi]
              have : (k + m).blt hi' = false := by
                cases hq : (k + m).blt hi' with
                | false => rfl
                | true => have := Nat.le_of_ble_eq_true hq; omega
              rw [this, Bool.and_false]; rfl)]; rfl
          | true =>
            have h3 : k + (m + 1) ≤ hi' := Nat.le_of_ble_eq_true h2
            show optK none (fun ww => readF c ww (Nat.succ m) k) (rdW h i cls w) = _
            cases hw : rdW h i cls w with
            | none =>
              rw [rdCells_none (m + 1) k 0 (by omega) (by rw [rdCell_at hi, hw]; cases lo.ble (k + 0) && (k + 0).blt hi' <;> rfl)]; rfl
            | some ww => exact readF_eq hi hw (m + 1) k (Nat.le_of_ble_eq_true h1) h3

noncomputable section
def addedF (st : St) (info : TypeInfo) (z : Value) (zeros : Bool) (x : AV) : Option (Nat × List AV) :=
  bif zeros then addedA st info z zeros x
  else match x with
    | .sl j k n _ _ => optK none (fun l => some (n, l)) (rdsF st.h j k (Nat.mul n info.size))
    | x => addedA st info z zeros x
def versionF (st : St) (i k n m size : Nat) (c : Option Nat) (new : List AV) : Option (AV × St) :=
  st.h.getK none (aoK none fun cs lo hi cls _ =>
    ifB (st.h.getK none (aoK none fun c' lo' hi' cls' w' =>
        some (.sl st.nx k (Nat.add n m) size c,
          ⟨(st.h.put cls (.cells c' lo' hi' cls' (bump st.nx (m * size) (k + n * size) w'))).put st.nx
            (.cells (layF st.nx new (Nat.add k (Nat.mul n size)) cs) k (Nat.add k (Nat.mul (Nat.add n m) size)) cls .leaf), Nat.succ st.nx⟩)) cls) none
      (ifB (ifB (allOneF new) false (Nat.ble (Nat.add k (Nat.mul n size)) hi)) false (Nat.ble lo k))) i
def appendF (P : Program) (st : St) (sT : TypeId) (zeros : Bool) (s x : AV) : Option (AV × St) :=
  match P.underlying sT with
  | some (.slice e) => match semP P (typeInfo e) with
    | none => none
    | some info => match info.zero with
      | none => none
      | some z => optK none (fun p => @Prod.rec Nat (List AV) (fun _ => Option (AV × St)) (fun m new =>
          bif (1).ble info.size && info.bytes.ble 65536 && (lenF new).beq (m * info.size) && z.cells.size.beq info.size && m.ble 65536 then
            match s with
            | .sc (.slice none n c) =>
              bif n.beq 0 && c.beq 0 then
                bif m.beq 0 then some (s, st)
                else optK none (fun ao => some (.sl st.nx 0 m info.size none, ⟨st.h.put st.nx ao, Nat.succ st.nx⟩)) (rowF st.nx new)
              else none
            | .sl i k n zz c =>
              bif (n + m).ble 65536 && zz.beq info.size then
                bif m.beq 0 then some (s, st)
                else bif mayFit c (n + m) then versionF st i k n m info.size c new
                else optK none (fun old => optK none (fun ao => some (.sl st.nx 0 (Nat.add n m) info.size none, ⟨st.h.put st.nx ao, Nat.succ st.nx⟩)) (rowF st.nx (appF old new))) (rdsF st.h i k (Nat.mul n info.size))
              else none
            | _ => none
          else none) p) (addedF st info z zeros x)
  | _ => none
end
theorem addedF_eq (st : St) (info : TypeInfo) (z : Value) (zeros : Bool) (x : AV) : addedF st info z zeros x = addedA st info z zeros x := by
  unfold addedF
  cases zeros with
  | true => rfl
  | false =>
    simp only [cond_false]
    split
    · rename_i j k n zz c
      rw [rdsF_eq]
      show _ = addedA st info z false (.sl j k n zz c)
      unfold addedA
      simp only [cond_false]
      have e : Nat.mul n info.size = n * info.size := rfl
      rw [e]
      cases rdCells st.h j k (n * info.size) <;> rfl
    · rfl
theorem versionF_eq (st : St) (i k n m size : Nat) (c : Option Nat) (new : List AV) : versionF st i k n m size c new = versionA st i k n m size c new := by
  unfold versionF versionA
  rw [T.getK_eq]
  cases hi : st.h.get i with
  | none => rfl
  | some ao => cases ao with
    | map es cl => rfl
    | cells cs lo hi' cls w =>
      simp only [optK, aoK]
      rw [T.getK_eq, allOneF_eq]
      have e : Nat.add k (Nat.mul n size) = k + n * size := rfl
      rw [e]
      cases lo.ble k with
      | false => rfl
      | true =>
        cases (k + n * size).ble hi' with
        | false => rfl
        | true =>
          cases allOne new with
          | false => rfl
          | true =>
            simp only [ifB, Bool.and_self, cond_true]
            cases st.h.get cls with
            | none => rfl
            | some ao => cases ao with
              | map es cl => rfl
              | cells c' lo' hi'' cls' w' =>
                simp only [optK, aoK, layF_eq]
                rfl
theorem appendF_eq (P : Program) (st : St) (sT : TypeId) (zeros : Bool) (s x : AV) : appendF P st sT zeros s x = appendA P st sT zeros s x := by
  unfold appendF appendA
  cases P.underlying sT with
  | none => rfl
  | some d => cases d with
    | slice e =>
      simp only
      cases semP P (typeInfo e) with
      | none => rfl
      | some info =>
        simp only
        cases info.zero with
        | none => rfl
        | some z =>
          simp only
          rw [addedF_eq]
          cases addedA st info z zeros x with
          | none => rfl
          | some p =>
            obtain ⟨m, new⟩ := p
            simp only [optK, lenF_eq, rowF_eq, rdsF_eq, appF_eq, versionF_eq]
            cases (Nat.ble 1 info.size && info.bytes.ble 65536 && new.length.beq (m * info.size) && z.cells.size.beq info.size && m.ble 65536) with
            | false => rfl
            | true =>
              simp only [cond_true]
              cases s with
              | sc v => cases v with
                | slice a n c => cases a with
                  | some a => rfl
                  | none =>
                    simp only
                    cases n.beq 0 && c.beq 0 with
                    | false => rfl
                    | true =>
                      simp only [cond_true]
                      cases m.beq 0 with
                      | true => rfl
                      | false =>
                        simp only [cond_false]
                        cases rowOf st.nx new <;> rfl
                | _ => rfl
              | sl i k n zz c =>
                simp only
                cases ((n + m).ble 65536 && zz.beq info.size) with
                | false => rfl
                | true =>
                  simp only [cond_true]
                  cases m.beq 0 with
                  | true => rfl
                  | false =>
                    simp only [cond_false]
                    cases mayFit c (n + m) with
                    | true => rfl
                    | false =>
                      simp only [cond_false]
                      have e2 : Nat.mul n info.size = n * info.size := rfl
                      rw [e2]
                      cases rdCells st.h i k (n * info.size) with
                      | none => rfl
                      | some old =>
                        simp only
                        cases rowOf st.nx (old ++ new) <;> rfl
              | _ => rfl
    | _ => rfl
end Go.Proofs.Ythlcnklbeolhpaa.Ev

/-! EvPan -/
/- The evaluator in passing style, with panics that go through calls: definitions. What a region alone uses lies in a list, the newest first; what other regions use lies in the tree. -/
namespace Go.Proofs.Ythlcnklbeolhpaa.Ev
open Go Go.RowKit
noncomputable section

/-- How a call ends: it returns a value, or it panics with one. -/
inductive Out where
  | ret (v : AV)
  | pan (v : AV)
/-- A region's own slots, the newest first. -/
inductive Loc where
  | nil
  | cons (t : Nat) (v : AV) (l : Loc)

abbrev KN (R : Type) := T AV → St → R
abbrev KP (R : Type) := AV → St → R
abbrev Nxt (R : Type) := Loc → T AV → St → KN R → KP R → R
abbrev RKK (R : Type) := FuncId → List AV → St → KP R → KP R → R
abbrev RKO := FuncId → List AV → St → Option (AV × St)
abbrev RCK (R : Type) := T AV → St → KN R → (Nat → KN R) → KN R → KP R → R

def Loc.getK {R : Type} (bad : R) (k : AV → R) (t : Nat) (l : Loc) : R :=
  @Loc.rec (fun _ => R) bad (fun t' v _ ih => @Bool.rec (fun _ => R) ih (k v) (Nat.beq t' t)) l
def Loc.get (l : Loc) (t : Nat) : Option AV :=
  match l with
  | .nil => none
  | .cons t' v l => bif Nat.beq t' t then some v else l.get t

/-- An operand, looked up: a slot of the tree, one of the list, or a constant. -/
inductive XO where
  | T (t : Nat)
  | L (t : Nat)
  | C (v : AV)
  | no
def compX (keep : Nat) (x : Operand) : XO :=
  match x with
  | .tmp t => bif keep.testBit t then .T t else .L t
  | .const v => .C (.sc v)
  | .func f => .C (.sc (.func (.func f) #[] #[]))
  | .global _ => .no
def getE {R : Type} (loc : Loc) (tm : T AV) (bad : R) (k : AV → R) (x : XO) : R :=
  @XO.rec (fun _ => R) (fun t => tm.getK bad k t) (fun t => loc.getK bad k t) k bad x
/-- Where a result goes. -/
inductive DO where
  | no
  | T (t : Nat)
  | L (t : Nat)
def compD (keep : Nat) (dst : Option Tmp) : DO :=
  match dst with
  | none => .no
  | some d => bif keep.testBit d then .T d else .L d
def finE {R : Type} (d : DO) (next : Nxt R) (loc : Loc) (tm : T AV) (st : St) (kn : KN R) (kp : KP R) (v : AV) : R :=
  @DO.rec (fun _ => R) (next loc tm st kn kp) (fun t => next loc (tm.put t v) st kn kp) (fun t => next (.cons t v loc) tm st kn kp) d
def slotE (keep : Nat) (loc : Loc) (tm : T AV) (t : Nat) : Option AV := bif keep.testBit t then tm.get t else loc.get t
def evE (keep : Nat) (loc : Loc) (tm : T AV) : Operand → Option AV
  | .tmp t => slotE keep loc tm t
  | .const v => some (.sc v)
  | .func f => some (.sc (.func (.func f) #[] #[]))
  | .global _ => none

/-! Drawn regions: where what touches the world lies in one row, any order does what the written one does. -/
def safeS (wr anc : T Nat) (i t : Nat) : Bool :=
  match wr.get t with
  | none => true
  | some j => (an anc i).testBit j || j.beq i || (an anc j).testBit i
def cxD (keep : Nat) (wr anc : T Nat) (i : Nat) (x : Operand) : XO :=
  match x with
  | .tmp t => bif safeS wr anc i t then compX keep (.tmp t) else .no
  | .const v => .C (.sc v)
  | .func f => .C (.sc (.func (.func f) #[] #[]))
  | .global _ => .no
def evD (keep : Nat) (wr anc : T Nat) (i : Nat) (loc : Loc) (tm : T AV) : Operand → Option AV
  | .tmp t => bif safeS wr anc i t then slotE keep loc tm t else none
  | .const v => some (.sc v)
  | .func f => some (.sc (.func (.func f) #[] #[]))
  | .global _ => none
def isEv (o : Oper) : Bool := match kindOf o.op with | .q => false | _ => true
def isHp (o : Oper) : Bool := isEv o || heapOp o.op
def ordOne (anc : T Nat) (i : Nat) (o : Oper) : List Oper → Nat → Bool
  | [], _ => true
  | p :: ps, j => (!((isEv p && isHp o) || (isHp p && isEv o)) || (an anc i).testBit j) && ordOne anc i o ps (j + 1)
def ordOk (anc : T Nat) (all : List Oper) : List Oper → Nat → Bool
  | [], _ => true
  | o :: os, i => ordOne anc i o (all.take i) 0 && ordOk anc all os (i + 1)
inductive RI where
  | slow
  | fast (wr anc : T Nat)
def compR (ops : List Oper) : RI :=
  match wrs ops 0 .leaf with
  | none => .slow
  | some wr => bif predsOk ops 0 && ordOk (ancs ops 0 .leaf) ops ops 0 then .fast wr (ancs ops 0 .leaf) else .slow

/-- An operation, looked up. -/
inductive CI (R : Type) where
  | mk (run : RKK R → RKO → Nxt R → Loc → T AV → St → KN R → KP R → R)
def CI.run {R : Type} (c : CI R) : RKK R → RKO → Nxt R → Loc → T AV → St → KN R → KP R → R := @CI.rec R (fun _ => _) (fun r => r) c

section
variable {R : Type} (P : Program) (bad : R)
/-- Two numbers below 2 ^ 63, none of them below 0. -/
def natK (op : BinOp) (k : AV → R) (m n : Nat) (other : R) : R :=
  match op with
  | .add => ifB (k (.sc (.int .i64 (.ofNat (Nat.add m n))))) other (Nat.ble (Nat.add m n) 9223372036854775807)
  | .sub => ifB (ifB (k (.sc (.int .i64 (.ofNat (Nat.sub m n))))) other (Nat.ble m 9223372036854775807)) other (Nat.ble n m)
  | .mul => ifB (k (.sc (.int .i64 (.ofNat (Nat.mul m n))))) other (Nat.ble (Nat.mul m n) 9223372036854775807)
  | .eql => k (.sc (.bool (Nat.beq m n)))
  | .neq => k (.sc (.bool (ifB false true (Nat.beq m n))))
  | .lss => k (.sc (.bool (Nat.ble (Nat.succ m) n)))
  | .leq => k (.sc (.bool (Nat.ble m n)))
  | .gtr => k (.sc (.bool (Nat.ble (Nat.succ n) m)))
  | .geq => k (.sc (.bool (Nat.ble n m)))
  | .rem => ifB (ifB (k (.sc (.int .i64 (.ofNat (Nat.mod m n))))) other (Nat.ble m 9223372036854775807)) other (Nat.ble 1 n)
  | .quo => ifB (ifB (k (.sc (.int .i64 (.ofNat (Nat.div m n))))) other (Nat.ble m 9223372036854775807)) other (Nat.ble 1 n)
  | .and => ifB (ifB (k (.sc (.int .i64 (.ofNat (Nat.land m n))))) other (Nat.ble m 9223372036854775807)) other (Nat.ble n 9223372036854775807)
  | .or => ifB (ifB (k (.sc (.int .i64 (.ofNat (Nat.lor m n))))) other (Nat.ble m 9223372036854775807)) other (Nat.ble n 9223372036854775807)
  | .shl => ifB (ifB (k (.sc (.int .i64 (.ofNat (Nat.mul m (Nat.pow 2 n)))))) other (Nat.ble (Nat.mul m (Nat.pow 2 n)) 9223372036854775807)) other (Nat.ble n 62)
  | .shr => ifB (ifB (k (.sc (.int .i64 (.ofNat (Nat.div m (Nat.pow 2 n)))))) other (Nat.ble m 9223372036854775807)) other (Nat.ble n 62)
  | _ => other
def binK (op : BinOp) (t : TypeId) (x y : Operand) (k : AV → R) (a b : AV) : R :=
  match a, b with
  | .sc (.int .i64 (.ofNat m)), .sc (.int .i64 (.ofNat n)) => natK op k m n (optK bad k (evBin P op t x y (.sc (.int .i64 (.ofNat m))) (.sc (.int .i64 (.ofNat n)))))
  | a, b => optK bad k (evBin P op t x y a b)
def ptrK (k : Nat → Nat → R) (v : AV) : R :=
  match v with
  | .ptr i j => k i j
  | _ => bad
/-- An interface value that is not nil. -/
def ifcK (k : R) (v : AV) : R :=
  match v with
  | .ifc _ _ => k
  | .sc (.iface _ _) => k
  | _ => bad
variable (cx : Operand → XO) (ev : Loc → T AV → Operand → Option AV) (keep : Nat)
def genK (o : Oper) : CI R :=
  match kindOf o.op with
  | .q => .mk fun _ _ next loc tm st kn kp => optK bad (finE (compD keep o.dst) next loc tm st kn kp) (evQ P (ev loc tm) st.h o)
  | .f => .mk fun _ _ next loc tm st kn kp => optK bad (fun p => @Prod.rec AV AO (fun _ => R) (fun v ao => finE (compD keep o.dst) next loc tm ⟨st.h.put st.nx ao, Nat.succ st.nx⟩ kn kp v) p) (evF P (ev loc tm) st.nx o)
  | .x => .mk fun _ ko next loc tm st kn kp => optK bad (fun p => @Prod.rec AV St (fun _ => R) (fun v st' => finE (compD keep o.dst) next loc tm st' kn kp v) p) (evW P ko (ev loc tm) st o)
def enterG (rk : RKK R) (st : St) (kr kp : KP R) (p : FuncId × List AV) : R := @Prod.rec FuncId (List AV) (fun _ => R) (fun g as => ifB (rk g as st kr kp) bad (callable P g)) p
/-- Operations on one value, or two, that leave the world as it is. -/
def q1K (d : DO) (x : XO) (f : T AO → AV → Option AV) : CI R := .mk fun _ _ next loc tm st kn kp => getE loc tm bad (fun v => optK bad (finE d next loc tm st kn kp) (f st.h v)) x
def q2K (d : DO) (x y : XO) (f : AV → AV → Option AV) : CI R := .mk fun _ _ next loc tm st kn kp => getE loc tm bad (fun u => getE loc tm bad (fun v => optK bad (finE d next loc tm st kn kp) (f u v)) y) x
def argsK (loc : Loc) (tm : T AV) (k : List AV → R) (l : List Operand) : R :=
  @List.rec Operand (fun _ => (List AV → R) → R) (fun k => k []) (fun x _ ih k => getE loc tm bad (fun v => ih fun vs => k (v :: vs)) (cx x)) l k
def appK (dst : Option Tmp) (sT : TypeId) (zs : Bool) (s x : XO) : CI R :=
  .mk fun _ _ next loc tm st kn kp => getE loc tm bad (fun a => getE loc tm bad (fun b => optK bad (fun p => @Prod.rec AV St (fun _ => R) (fun v st' => finE (compD keep dst) next loc tm st' kn kp v) p) (appendF P st sT zs a b)) x) s
def lenQ (t : TypeId) (h : T AO) (x : AV) : Option AV := match lenA P t h x with
  | some n => some (.sc (goInt n))
  | none => none
def compK (o : Oper) : CI R :=
  match o.op with
  | .move x => .mk fun _ _ next loc tm st kn kp => getE loc tm bad (finE (compD keep o.dst) next loc tm st kn kp) (cx x)
  | .assign x => .mk fun _ _ next loc tm st kn kp => getE loc tm bad (finE (compD keep o.dst) next loc tm st kn kp) (cx x)
  | .load t a => match semP P (isAgg t) with
    | some false => .mk fun _ _ next loc tm st kn kp => getE loc tm bad (ptrK bad fun i k => optK bad (finE (compD keep o.dst) next loc tm st kn kp) (rdCellF st.h i k)) (cx a)
    | _ => genK P bad ev keep o
  | .binOp op t x y _ => .mk fun _ _ next loc tm st kn kp => getE loc tm bad (fun a => getE loc tm bad (binK P bad op t x y (finE (compD keep o.dst) next loc tm st kn kp) a) (cx y)) (cx x)
  | .indexAddr t x ix => q2K bad (compD keep o.dst) (cx x) (cx ix) (indexAddrA P t)
  | .extract x i => q1K bad (compD keep o.dst) (cx x) fun _ v => extractA v i
  | .unOp op _ x => q1K bad (compD keep o.dst) (cx x) fun _ v => unOpA P op v
  | .convert s d x => q1K bad (compD keep o.dst) (cx x) fun _ v => convertA P s d v
  | .fieldAddr s x f => q1K bad (compD keep o.dst) (cx x) fun _ v => fieldAddrA P s v f
  | .makeInterface t x => q1K bad (compD keep o.dst) (cx x) fun _ v => makeIfcA P t v
  | .store t a x => .mk fun _ _ next loc tm st kn kp => getE loc tm bad (fun a => getE loc tm bad (fun v => optK bad (fun st' => finE (compD keep o.dst) next loc tm st' kn kp (.sc undef)) (storeA P st t a v)) (cx x)) (cx a)
  | .panic x => .mk fun _ _ _ loc tm st _ kp => getE loc tm bad (fun v => ifcK bad (kp v st) v) (cx x)
  | .call c => match c.callee with
    | .value f => .mk fun rk _ next loc tm st kn kp => argsK bad cx loc tm (fun args => getE loc tm bad (fun fv => optK bad (enterG P bad rk st (fun v st' => finE (compD keep o.dst) next loc tm st' kn kp v) kp) (calleeA fv args)) (cx f)) c.args.toList
    | .invoke r name => .mk fun rk _ next loc tm st kn kp => argsK bad cx loc tm (fun args => getE loc tm bad (fun rv => optK bad (enterG P bad rk st (fun v st' => finE (compD keep o.dst) next loc tm st' kn kp v) kp) (invokeA P rv name args)) (cx r)) c.args.toList
    | .builtin .len => match c.argTypes[0]?, c.args.toList with
      | some t, [x] => q1K bad (compD keep o.dst) (cx x) (lenQ P t)
      | _, _ => genK P bad ev keep o
    | .builtin .append => match c.argTypes[0]?, c.argTypes[1]?, c.args.toList with
      | some sT, some xT, [s, x] => match P.underlying xT with
        | some (.int _) => appK P bad keep o.dst sT true (cx s) (cx x)
        | some _ => appK P bad keep o.dst sT false (cx s) (cx x)
        | none => genK P bad ev keep o
      | _, _, _ => genK P bad ev keep o
    | _ => genK P bad ev keep o
  | _ => genK P bad ev keep o

def guardK (all : List Oper) (j : Nat) : XO :=
  match all[j]? with
  | some og => match og.dst with
    | some d => cx (.tmp d)
    | none => .no
  | none => .no
/-- An operation with its guard, looked up. -/
def opC (all : List Oper) (o : Oper) : CI R :=
  match o.guard with
  | none => compK P bad cx ev keep o
  | some g => .mk fun rk ko next loc tm st kn kp => getE loc tm bad (fun v =>
      match v with
      | .sc (.bool b) => ifB ((compK P bad cx ev keep o).run rk ko next loc tm st kn kp) (finE (compD keep o.dst) next loc tm st kn kp (.sc undef)) (b == g.2)
      | _ => finE (compD keep o.dst) next loc tm st kn kp (.sc undef)) (guardK cx all g.1)

variable (rk : RKK R) (ko : RKO)
def seqR (all : List Oper) (os : List Oper) : Nxt R :=
  @List.rec Oper (fun _ => Nxt R) (fun _ tm st kn _ => kn tm st) (fun o _ ih loc tm st kn kp => (opC P bad (compX keep) (evE keep) keep all o).run rk ko ih loc tm st kn kp) os
def seqD (wr anc : T Nat) (all : List Oper) (os : List Oper) : Nat → Nxt R :=
  @List.rec Oper (fun _ => Nat → Nxt R) (fun _ _ tm st kn _ => kn tm st) (fun o _ ih i loc tm st kn kp => (opC P bad (cxD keep wr anc i) (evD keep wr anc i) keep all o).run rk ko (ih (Nat.succ i)) loc tm st kn kp) os
def condK (tr fa : R) (v : AV) : R :=
  match v with
  | .sc (.bool b) => ifB tr fa b
  | _ => bad
variable (F n : Nat)
def runC (c : Code) : RCK R :=
  @Code.rec (fun _ => RCK R)
    (fun tm st kn _ _ _ => kn tm st)
    (fun _ ops draw => @Bool.rec (fun _ => RCK R) (fun tm st kn _ _ kp => seqR P bad keep rk ko ops.toList ops.toList .nil tm st kn kp) (@RI.rec (fun _ => RCK R) (fun tm st kn _ _ _ => optK bad (fun p => @Prod.rec (T AV) St (fun _ => R) kn p) (evDraw P ko n ops.toList tm st))
      (fun wr anc tm st kn _ _ _ => seqD P bad keep rk ko wr anc ops.toList ops.toList 0 .nil tm st kn (fun _ _ => bad)) (compR ops.toList)) draw)
    (fun _ _ ra rb tm st kn kx kr kp => ra tm st (fun tm st => rb tm st kn kx kr kp) kx kr kp)
    (fun x _ _ ra rb tm st kn kx kr kp => getE .nil tm bad (condK bad (ra tm st kn kx kr kp) (rb tm st kn kx kr kp)) (compX keep x))
    (fun id _ rc tm st kn kx kr kp => rc tm st kn (fun id' tm st => ifB (kn tm st) (kx id' tm st) (Nat.beq id' id)) kr kp)
    (fun _ rc tm st _ kx kr kp => @Nat.rec (fun _ => KN R) (fun _ _ => bad) (fun _ ih tm st => rc tm st ih kx kr kp) F tm st)
    (fun _ _ _ _ _ _ _ _ _ _ _ _ => bad)
    (fun id tm st _ kx _ _ => kx id tm st)
    (fun _ rc => rc)
    (fun _ tm st kn _ _ _ => kn tm st)
    (fun _ _ _ _ _ _ _ => bad)
    (fun tm st _ _ kr _ => kr tm st)
    (fun _ _ _ _ _ _ _ => bad) c
end

/-! What stays in the tree: what some region uses that did not write it itself, what decisions, results and drawn regions use. Nothing hangs on it but that the evaluator finds what it wants. -/
def bitsX (x : Operand) : Nat := match x with | .tmp t => 2 ^ t | _ => 0
def bitsXs : List Operand → Nat
  | [] => 0
  | x :: l => bitsX x ||| bitsXs l
def bitD (o : Oper) : Nat := match o.dst with | some d => 2 ^ d | none => 0
/-- Slots that are read before they are written: wrote: what is written so far. -/
def openBits (all : List Oper) : List Oper → Nat → Nat
  | [], _ => 0
  | o :: os, wrote =>
    let rd := bitsXs o.op.operands.toList ||| (match o.guard with | some g => (match all[g.1]? with | some og => bitD og | none => 0) | none => 0)
    (rd &&& (rd ^^^ (rd &&& wrote))) ||| openBits all os (wrote ||| bitD o)
def allBits : List Oper → Nat
  | [] => 0
  | o :: os => bitsXs o.op.operands.toList ||| bitD o ||| allBits os
def keepC : Code → Nat
  | .region _ ops false => openBits ops.toList ops.toList 0
  | .region _ ops true => match compR ops.toList with
    | .slow => allBits ops.toList
    | .fast _ _ => openBits ops.toList ops.toList 0
  | .seq a b => keepC a ||| keepC b
  | .cond x a b => bitsX x ||| keepC a ||| keepC b
  | .block _ c | .loop c | .scope c => keepC c
  | _ => 0
def bitR : ResultVar → Nat
  | .tmp t => 2 ^ t
  | .cell a _ => 2 ^ a
def keepRs : List ResultVar → Nat
  | [] => 0
  | r :: rs => bitR r ||| keepRs rs
def keepOf (fn : Func) (c : Code) : Nat := keepC c ||| keepRs fn.results.toList ||| (2 ^ (fn.params.size + fn.nfree) - 1)

/-- All slots that are written lie below n; a drawn region writes into the tree alone. -/
def okOps (n : Nat) : List Oper → Bool
  | [] => true
  | o :: os => (match o.dst with | none => true | some d => d.blt n) && okOps n os
def okDraw (keep : Nat) : List Oper → Bool
  | [] => true
  | o :: os => (match o.dst with | none => true | some d => keep.testBit d) && okDraw keep os
def okC (keep n : Nat) : Code → Bool
  | .region _ ops false => okOps n ops.toList
  | .region _ ops true => match compR ops.toList with
    | .slow => okDraw keep ops.toList
    | .fast _ _ => okOps n ops.toList
  | .seq a b | .cond _ a b => okC keep n a && okC keep n b
  | .block _ c | .loop c | .scope c => okC keep n c
  | _ => true
def okArgs (keep : Nat) : Nat → Bool
  | 0 => true
  | k + 1 => keep.testBit k && okArgs keep k

/-- A function, looked up: its code and what stays in the tree. -/
inductive FC where
  | mk (c : Code) (keep np nt : Nat) (rs : List ResultVar)
def compF (fn : Func) : Option FC :=
  match fn.body with
  | none => none
  | some c => bif okC (keepOf fn c) fn.ntmps c && okArgs (keepOf fn c) (fn.params.size + fn.nfree) then some (.mk c (keepOf fn c) (fn.params.size + fn.nfree) fn.ntmps fn.results.toList) else none
def funcOf (P : Program) (g : FuncId) : Option FC :=
  match P.funcs[g]? with
  | none => none
  | some fn => compF fn

section
variable {R : Type} (P : Program) (bad : R) (rk : RKK R) (ko : RKO) (F : Nat)
def endK (rs : List ResultVar) (kret : KP R) (tm : T AV) (st : St) : R := optK bad (fun l => kret (oneOf l) st) (evRes P tm st.h rs)
def bodyK (args : List AV) (st : St) (kret kpan : KP R) (c : Code) (keep nt : Nat) (rs : List ResultVar) : R :=
  runC P bad keep rk ko F (args.length + (nt - args.length)) c (enterT args 0 .leaf) st (endK P bad rs kret) (fun _ _ _ => bad) (endK P bad rs kret) kpan
def enterK (args : List AV) (st : St) (kret kpan : KP R) (fc : FC) : R :=
  @FC.rec (fun _ => R) (fun c keep np nt rs => ifB (bodyK P bad rk ko F args st kret kpan c keep nt rs) bad (Nat.beq args.length np)) fc
end

/-- What is done in a function's place. -/
def Hook := ∀ R : Type, R → RKK R → List AV → St → KP R → KP R → R
abbrev Hks := FuncId → List AV → Option Hook
section
variable (P : Program) (hk : Hks) (F : Nat)
def callK {R : Type} (bad : R) (rk : RKK R) (ko : RKO) : RKK R := fun g args st kret kpan =>
  @Option.rec Hook (fun _ => R) (optK bad (enterK P bad rk ko F args st kret kpan) (funcOf P g)) (fun h => h R bad rk args st kret kpan) (hk g args)
def runK (d : Nat) : ∀ R : Type, R → RKK R :=
  @Nat.rec (fun _ => ∀ R : Type, R → RKK R) (fun _ bad _ _ _ _ _ => bad)
    (fun _ ih R bad => callK P hk F bad (ih R bad) (fun g as st => ih (Option (AV × St)) none g as st (fun v st' => some (v, st')) (fun _ _ => none))) d
end
end
end Go.Proofs.Ythlcnklbeolhpaa.Ev

/-! EvPan2 -/
/- The evaluator in passing style is sound: operations. -/
namespace Go.Proofs.Ythlcnklbeolhpaa.Ev
open Go Go.RowKit
section
variable {R : Type} {P : Program} {bad x : R}

def RelOut (ρ : Rho) : Out → Ending → Prop
  | .ret v, e => ∃ y, e = .returned y ∧ RelV ρ v y
  | .pan v, e => ∃ y, e = .panicked [{ v := y, recovered := false }] ∧ RelV ρ v y
def CallsOut (P : Program) (g : FuncId) (args : List AV) (st : St) (out : Out) (st' : St) : Prop :=
  ∀ ρ xs w, RelL ρ args xs → RelH ρ st w → Calls P g xs.toArray w fun e w' => ∃ ρ', RelOut ρ' out e ∧ RelH ρ' st' w' ∧ Fr ρ st w ρ' st' w'
def Out.to (kret kpan : KP R) (st : St) : Out → R
  | .ret v => kret v st
  | .pan v => kpan v st
/-- What is known of the callees. -/
def RKOk (P : Program) (bad : R) (rk : RKK R) : Prop :=
  ∀ g args st kret kpan x, rk g args st kret kpan = x → x ≠ bad → ∃ out st', Out.to kret kpan st' out = x ∧ CallsOut P g args st out st'

theorem optK_inv {α : Type} {k : α → R} {o : Option α} (h : optK bad k o = x) (hx : x ≠ bad) : ∃ a, o = some a ∧ k a = x := by
  cases o with
  | none => exact absurd h.symm hx
  | some a => exact ⟨a, rfl, h⟩
theorem ifB_inv {a : R} {c : Bool} (h : ifB a bad c = x) (hx : x ≠ bad) : c = true ∧ a = x := by
  cases c with
  | false => exact absurd h.symm hx
  | true => exact ⟨rfl, h⟩
theorem locK_eq (bad : R) (k : AV → R) (t : Nat) : ∀ l : Loc, l.getK bad k t = optK bad k (l.get t)
  | .nil => rfl
  | .cons t' v l => by
    show @Bool.rec (fun _ => R) (l.getK bad k t) (k v) (Nat.beq t' t) = optK bad k (bif Nat.beq t' t then some v else l.get t)
    cases Nat.beq t' t with
    | true => rfl
    | false => exact locK_eq bad k t l
/-- What an operand, looked up, gives is what it is. -/
def CxOk (cx : Operand → XO) (ev : Loc → T AV → Operand → Option AV) : Prop :=
  ∀ (R : Type) (bad : R) (loc : Loc) (tm : T AV) (k : AV → R) (o : Operand) (x : R), getE loc tm bad k (cx o) = x → x ≠ bad → ∃ v, ev loc tm o = some v ∧ k v = x
theorem cxE_ok (keep : Nat) : CxOk (compX keep) (evE keep) := by
  intro R bad loc tm k o x h hx
  cases o with
  | tmp t =>
    unfold compX at h
    simp only at h
    show ∃ v, slotE keep loc tm t = some v ∧ k v = x
    unfold slotE
    cases hb : keep.testBit t with
    | true =>
      rw [hb] at h
      have h' : tm.getK bad k t = x := h
      rw [T.getK_eq] at h'
      exact optK_inv h' hx
    | false =>
      rw [hb] at h
      have h' : loc.getK bad k t = x := h
      rw [locK_eq] at h'
      exact optK_inv h' hx
  | const v => exact ⟨_, rfl, h⟩
  | global g => exact absurd h.symm hx
  | func f => exact ⟨_, rfl, h⟩
theorem cxD_ok (keep : Nat) (wr anc : T Nat) (i : Nat) : CxOk (cxD keep wr anc i) (evD keep wr anc i) := by
  intro R bad loc tm k o x h hx
  cases o with
  | tmp t =>
    unfold cxD at h
    simp only at h
    show ∃ v, (bif safeS wr anc i t then slotE keep loc tm t else none) = some v ∧ k v = x
    cases hb : safeS wr anc i t with
    | true =>
      rw [hb] at h
      exact cxE_ok keep R bad loc tm k (.tmp t) x h hx
    | false => rw [hb] at h; exact absurd h.symm hx
  | const v => exact ⟨_, rfl, h⟩
  | global g => exact absurd h.symm hx
  | func f => exact ⟨_, rfl, h⟩

/-- Behind a result: the slots, the tree. -/
def putL (d : DO) (v : AV) (loc : Loc) : Loc := match d with | .L t => .cons t v loc | _ => loc
noncomputable def putT (d : DO) (v : AV) (tm : T AV) : T AV := match d with | .T t => tm.put t v | _ => tm
theorem finE_eq (d : DO) (next : Nxt R) (loc : Loc) (tm : T AV) (st : St) (kn : KN R) (kp : KP R) (v : AV) : finE d next loc tm st kn kp v = next (putL d v loc) (putT d v tm) st kn kp := by
  cases d <;> rfl
theorem slotE_put (keep : Nat) (loc : Loc) (tm : T AV) (dst : Option Tmp) (v : AV) (t : Nat) : slotE keep (putL (compD keep dst) v loc) (putT (compD keep dst) v tm) t = if dst = some t then some v else slotE keep loc tm t := by
  cases dst with
  | none => rfl
  | some d =>
    unfold compD slotE
    simp only
    by_cases h : d = t
    · subst h
      rw [if_pos rfl]
      cases hb : keep.testBit d with
      | true => exact T.get_put_same tm d v
      | false => simp [putL, Loc.get]
    · rw [if_neg (fun e => h (Option.some.inj e))]
      cases hb : keep.testBit d with
      | true =>
        cases hc : keep.testBit t with
        | true => exact T.get_put_ne tm d v (fun e => h e.symm)
        | false => rfl
      | false =>
        cases hc : keep.testBit t with
        | true => rfl
        | false =>
          simp only [cond_false, putL, Loc.get]
          have : Nat.beq d t = false := by cases hq : Nat.beq d t with
            | false => rfl
            | true => exact absurd (Nat.eq_of_beq_eq_true hq) h
          rw [this]; rfl

theorem evBin_nat {op : BinOp} {t : TypeId} {x y : Operand} {m n : Nat} {r : Value} (h : binI op .i64 (.ofNat m) (.ofNat n) = some r) (hf : forced r = true) :
    evBin P op t x y (.sc (.int .i64 (.ofNat m))) (.sc (.int .i64 (.ofNat n))) = some (.sc r) := by
  unfold evBin evBin0
  simp only [AV.toV, binI_eq h, hf, cond_true]
theorem forced_nat (k : IntKind) (m : Nat) : forced (.int k (.ofNat m)) = true := by
  show m.beq m = true
  exact Nat.beq_refl m
theorem wrapF_nat {m : Nat} (h : m ≤ 9223372036854775807) : wrapF .i64 (.ofNat m) = .ofNat m := by
  rw [wrapF_eq]
  exact IntWalk.i64_in _ (by simp; omega)
theorem bv_nat {m : Nat} (h : m ≤ 9223372036854775807) : (BitVec.ofInt 64 (m : Int)).toNat = m := by
  rw [BitVec.toNat_ofInt]; omega
theorem evBin_more {op : BinOp} {t : TypeId} {x y : Operand} {m n : Nat} {r : Nat} (h : binOp op t (.int .i64 (.ofNat m)) (.int .i64 (.ofNat n)) = Sem.pure (.int .i64 (.ofNat r))) :
    evBin P op t x y (.sc (.int .i64 (.ofNat m))) (.sc (.int .i64 (.ofNat n))) = some (.sc (.int .i64 (.ofNat r))) := by
  unfold evBin evBin0
  simp only [AV.toV]
  rw [semP_bind _ _ () (eqGuard_int op t x y .i64 _ _), h, semP_pure]
  simp only [forced_nat, cond_true]
theorem bin_rem {t : TypeId} {m n : Nat} (h1 : 1 ≤ n) : binOp .rem t (.int .i64 (.ofNat m)) (.int .i64 (.ofNat n)) = Sem.pure (.int .i64 (.ofNat (Nat.mod m n))) := by
  have e : ((m : Int).tmod (n : Int)) = ((m % n : Nat) : Int) := by rw [Int.tmod_eq_emod_of_nonneg (by omega)]; simp
  have h0 : ¬ (n : Int) = 0 := by omega
  rw [binOp_rem]
  show Op.intDiv .rem .i64 (m : Int) (n : Int) = pure (.int .i64 ((m % n : Nat) : Int))
  unfold Op.intDiv
  rw [if_neg h0]
  show (pure (Value.int .i64 ((m : Int).tmod (n : Int))) : Sem Value) = _
  rw [e]
theorem bin_quo {t : TypeId} {m n : Nat} (h1 : 1 ≤ n) (h2 : m ≤ 9223372036854775807) : binOp .quo t (.int .i64 (.ofNat m)) (.int .i64 (.ofNat n)) = Sem.pure (.int .i64 (.ofNat (Nat.div m n))) := by
  have e : ((m : Int).tdiv (n : Int)) = ((m / n : Nat) : Int) := by simp
  have h3 : m / n ≤ m := Nat.div_le_self _ _
  have e2 : IntKind.i64.wrap ((m / n : Nat) : Int) = ((m / n : Nat) : Int) := by
    generalize m / n = z at *
    exact IntWalk.i64_in _ (by omega)
  have h0 : ¬ (n : Int) = 0 := by omega
  rw [binOp_quo]
  show Op.intDiv .quo .i64 (m : Int) (n : Int) = pure (.int .i64 ((m / n : Nat) : Int))
  unfold Op.intDiv
  rw [if_neg h0]
  show (pure (Value.int .i64 (IntKind.i64.wrap ((m : Int).tdiv (n : Int)))) : Sem Value) = _
  rw [e, e2]
theorem bin_and {t : TypeId} {m n : Nat} (h1 : n ≤ 9223372036854775807) (h2 : m ≤ 9223372036854775807) : binOp .and t (.int .i64 (.ofNat m)) (.int .i64 (.ofNat n)) = Sem.pure (.int .i64 (.ofNat (Nat.land m n))) := by
  have h3 : m &&& n ≤ m := Nat.and_le_left
  have e2 : IntKind.i64.wrap ((m &&& n : Nat) : Int) = ((m &&& n : Nat) : Int) := IntWalk.i64_in _ (by omega)
  rw [binOp_and, intBits_and]
  have e : bits .and .i64 (m : Int) (n : Int) = IntKind.i64.wrap ((BitVec.ofInt 64 (m : Int) &&& BitVec.ofInt 64 (n : Int)).toNat : Int) := rfl
  show (pure (Value.int .i64 (bits .and .i64 (m : Int) (n : Int))) : Sem Value) = pure (.int .i64 ((m &&& n : Nat) : Int))
  rw [e, BitVec.toNat_and, bv_nat h1, bv_nat h2, e2]
theorem bin_or {t : TypeId} {m n : Nat} (h1 : n ≤ 9223372036854775807) (h2 : m ≤ 9223372036854775807) : binOp .or t (.int .i64 (.ofNat m)) (.int .i64 (.ofNat n)) = Sem.pure (.int .i64 (.ofNat (Nat.lor m n))) := by
  have h3 : m ||| n < 2 ^ 63 := Nat.or_lt_two_pow (by omega) (by omega)
  have e2 : IntKind.i64.wrap ((m ||| n : Nat) : Int) = ((m ||| n : Nat) : Int) := IntWalk.i64_in _ (by omega)
  rw [binOp_or, intBits_or]
  have e : bits .or .i64 (m : Int) (n : Int) = IntKind.i64.wrap ((BitVec.ofInt 64 (m : Int) ||| BitVec.ofInt 64 (n : Int)).toNat : Int) := rfl
  show (pure (Value.int .i64 (bits .or .i64 (m : Int) (n : Int))) : Sem Value) = pure (.int .i64 ((m ||| n : Nat) : Int))
  rw [e, BitVec.toNat_or, bv_nat h1, bv_nat h2, e2]
theorem bin_shl {t : TypeId} {m n : Nat} (h1 : n ≤ 62) (h2 : Nat.mul m (Nat.pow 2 n) ≤ 9223372036854775807) : binOp .shl t (.int .i64 (.ofNat m)) (.int .i64 (.ofNat n)) = Sem.pure (.int .i64 (.ofNat (Nat.mul m (Nat.pow 2 n)))) := by
  have e1 : (m : Int) * 2 ^ ((n : Int).toNat) = ((m * 2 ^ n : Nat) : Int) := by simp
  have h2' : m * 2 ^ n ≤ 9223372036854775807 := h2
  rw [binOp_shl]
  show Op.shift .shl .i64 (m : Int) .i64 (n : Int) = pure (.int .i64 ((m * 2 ^ n : Nat) : Int))
  rw [shift_shl .i64 .i64 (m : Int) (n : Int) (by omega) (by show (n : Int) ≤ 64; omega), e1]
  generalize m * 2 ^ n = z at *
  rw [IntWalk.i64_in _ (by omega)]
theorem bin_shr {t : TypeId} {m n : Nat} (h1 : n ≤ 62) : binOp .shr t (.int .i64 (.ofNat m)) (.int .i64 (.ofNat n)) = Sem.pure (.int .i64 (.ofNat (Nat.div m (Nat.pow 2 n)))) := by
  have e1 : (m : Int) / 2 ^ ((n : Int).toNat) = ((m / 2 ^ n : Nat) : Int) := by simp
  rw [binOp_shr]
  show Op.shift .shr .i64 (m : Int) .i64 (n : Int) = pure (.int .i64 ((m / 2 ^ n : Nat) : Int))
  rw [shift_shr .i64 .i64 (m : Int) (n : Int) (by omega) (by show (n : Int) ≤ 64; omega), e1]
theorem binK_inv {op : BinOp} {t : TypeId} {a b : AV} {xo yo : Operand} {k : AV → R} (h : binK P bad op t xo yo k a b = x) (hx : x ≠ bad) : ∃ v, evBin P op t xo yo a b = some v ∧ k v = x := by
  unfold binK at h
  split at h
  · rename_i m n
    have other : ∀ {z : R}, optK bad k (evBin P op t xo yo (.sc (.int .i64 (.ofNat m))) (.sc (.int .i64 (.ofNat n)))) = z → z ≠ bad → ∃ v, evBin P op t xo yo (.sc (.int .i64 (.ofNat m))) (.sc (.int .i64 (.ofNat n))) = some v ∧ k v = z := fun h hx => optK_inv h hx
    unfold natK at h
    split at h
    · cases hb : Nat.ble (Nat.add m n) 9223372036854775807 with
      | false => rw [hb] at h; exact other h hx
      | true =>
        rw [hb] at h
        refine ⟨_, evBin_nat (r := .int .i64 (.ofNat (Nat.add m n))) ?_ (forced_nat _ _), h⟩
        simp only [binI, addF, Option.some.injEq, Value.int.injEq, true_and]
        exact wrapF_nat (Nat.le_of_ble_eq_true hb)
    · cases hb : Nat.ble n m with
      | false => rw [hb] at h; exact other h hx
      | true =>
        rw [hb] at h
        cases hc : Nat.ble m 9223372036854775807 with
        | false => rw [hc] at h; exact other h hx
        | true =>
          rw [hc] at h
          refine ⟨_, evBin_nat (r := .int .i64 (.ofNat (Nat.sub m n))) ?_ (forced_nat _ _), h⟩
          simp only [binI, subF, hb, cond_true, Option.some.injEq, Value.int.injEq, true_and]
          exact wrapF_nat (Nat.le_trans (Nat.sub_le m n) (Nat.le_of_ble_eq_true hc))
    · cases hb : Nat.ble (Nat.mul m n) 9223372036854775807 with
      | false => rw [hb] at h; exact other h hx
      | true =>
        rw [hb] at h
        refine ⟨_, evBin_nat (r := .int .i64 (.ofNat (Nat.mul m n))) ?_ (forced_nat _ _), h⟩
        simp only [binI, mulF, Option.some.injEq, Value.int.injEq, true_and]
        exact wrapF_nat (Nat.le_of_ble_eq_true hb)
    · exact ⟨_, evBin_nat (r := .bool (Nat.beq m n)) rfl (by cases Nat.beq m n <;> rfl), h⟩
    · refine ⟨_, evBin_nat (r := .bool (!Nat.beq m n)) rfl (by cases Nat.beq m n <;> rfl), ?_⟩
      rw [← h]
      cases Nat.beq m n <;> rfl
    · exact ⟨_, evBin_nat (r := .bool (Nat.ble (Nat.succ m) n)) rfl (by cases Nat.ble (Nat.succ m) n <;> rfl), h⟩
    · exact ⟨_, evBin_nat (r := .bool (Nat.ble m n)) rfl (by cases Nat.ble m n <;> rfl), h⟩
    · exact ⟨_, evBin_nat (r := .bool (Nat.ble (Nat.succ n) m)) rfl (by cases Nat.ble (Nat.succ n) m <;> rfl), h⟩
    · exact ⟨_, evBin_nat (r := .bool (Nat.ble n m)) rfl (by cases Nat.ble n m <;> rfl), h⟩
    · cases hb : Nat.ble 1 n with
      | false => rw [hb] at h; exact other h hx
      | true =>
        rw [hb] at h
        cases hc : Nat.ble m 9223372036854775807 with
        | false => rw [hc] at h; exact other h hx
        | true =>
          rw [hc] at h
          exact ⟨_, evBin_more (bin_rem (Nat.le_of_ble_eq_true hb)), h⟩
    · cases hb : Nat.ble 1 n with
      | false => rw [hb] at h; exact other h hx
      | true =>
        rw [hb] at h
        cases hc : Nat.ble m 9223372036854775807 with
        | false => rw [hc] at h; exact other h hx
        | true =>
          rw [hc] at h
          exact ⟨_, evBin_more (bin_quo (Nat.le_of_ble_eq_true hb) (Nat.le_of_ble_eq_true hc)), h⟩
    · cases hb : Nat.ble n 9223372036854775807 with
      | false => rw [hb] at h; exact other h hx
      | true =>
        rw [hb] at h
        cases hc : Nat.ble m 9223372036854775807 with
        | false => rw [hc] at h; exact other h hx
        | true =>
          rw [hc] at h
          exact ⟨_, evBin_more (bin_and (Nat.le_of_ble_eq_true hb) (Nat.le_of_ble_eq_true hc)), h⟩
    · cases hb : Nat.ble n 9223372036854775807 with
      | false => rw [hb] at h; exact other h hx
      | true =>
        rw [hb] at h
        cases hc : Nat.ble m 9223372036854775807 with
        | false => rw [hc] at h; exact other h hx
        | true =>
          rw [hc] at h
          exact ⟨_, evBin_more (bin_or (Nat.le_of_ble_eq_true hb) (Nat.le_of_ble_eq_true hc)), h⟩
    · cases hb : Nat.ble n 62 with
      | false => rw [hb] at h; exact other h hx
      | true =>
        rw [hb] at h
        cases hc : Nat.ble (Nat.mul m (Nat.pow 2 n)) 9223372036854775807 with
        | false => rw [hc] at h; exact other h hx
        | true =>
          rw [hc] at h
          exact ⟨_, evBin_more (bin_shl (Nat.le_of_ble_eq_true hb) (Nat.le_of_ble_eq_true hc)), h⟩
    · cases hb : Nat.ble n 62 with
      | false => rw [hb] at h; exact other h hx
      | true =>
        rw [hb] at h
        cases hc : Nat.ble m 9223372036854775807 with
        | false => rw [hc] at h; exact other h hx
        | true =>
          rw [hc] at h
          exact ⟨_, evBin_more (bin_shr (Nat.le_of_ble_eq_true hb)), h⟩
    · exact other h hx
  · exact optK_inv h hx

theorem ptrK_inv {k : Nat → Nat → R} {v : AV} (h : ptrK bad k v = x) (hx : x ≠ bad) : ∃ i j, v = .ptr i j ∧ k i j = x := by
  unfold ptrK at h
  split at h
  · exact ⟨_, _, rfl, h⟩
  · exact absurd h.symm hx
def isIfc : AV → Bool
  | .ifc _ _ => true
  | .sc (.iface _ _) => true
  | _ => false
theorem ifcK_inv {k : R} {v : AV} (h : ifcK bad k v = x) (hx : x ≠ bad) : isIfc v = true ∧ k = x := by
  unfold ifcK at h
  split at h
  · exact ⟨rfl, h⟩
  · exact ⟨rfl, h⟩
  · exact absurd h.symm hx
theorem enterG_inv {rk : RKK R} {st : St} {kr kp : KP R} {p : FuncId × List AV} (h : enterG P bad rk st kr kp p = x) (hx : x ≠ bad) : callable P p.1 = true ∧ rk p.1 p.2 st kr kp = x := by
  obtain ⟨g, as⟩ := p
  exact ifB_inv h hx

theorem argsK_inv {cx : Operand → XO} {ev : Loc → T AV → Operand → Option AV} (hc : CxOk cx ev) {loc : Loc} {tm : T AV} : ∀ {l : List Operand} {k : List AV → R}, argsK bad cx loc tm k l = x → x ≠ bad → ∃ vs, evXs (ev loc tm) l = some vs ∧ k vs = x
  | [], k, h, _ => ⟨[], rfl, h⟩
  | o :: l, k, h, hx => by
    have h' : getE loc tm bad (fun v => argsK bad cx loc tm (fun vs => k (v :: vs)) l) (cx o) = x := h
    obtain ⟨v, h1, h2⟩ := hc R bad loc tm _ o x h' hx
    obtain ⟨vs, h3, h4⟩ := argsK_inv hc h2 hx
    exact ⟨v :: vs, by simp only [evXs, h1, h3], h4⟩

/-- What an operation does that calls. -/
def Enters (P : Program) (ev : Operand → Option AV) (o : Oper) (g : FuncId) (as : List AV) : Prop :=
  ∀ ρ (a : Act) (w : World), EvOk ρ ev a.eval → ∃ ys : List Value, RelL ρ as ys ∧ (execOp a.eval o).run P w = .ok (.enter g ys.toArray) w

section
variable {cx : Operand → XO} {ev : Loc → T AV → Operand → Option AV} {keep : Nat} {o : Oper} {rk : RKK R} {ko : RKO} {next : Nxt R} {loc : Loc} {tm : T AV} {st : St} {kn : KN R} {kp : KP R}
theorem genK_inv (h : (genK P bad ev keep o).run rk ko next loc tm st kn kp = x) (hx : x ≠ bad) :
    ∃ v st', evOp P ko (ev loc tm) st o = some (v, st') ∧ next (putL (compD keep o.dst) v loc) (putT (compD keep o.dst) v tm) st' kn kp = x := by
  unfold genK at h
  cases hk : kindOf o.op with
  | q =>
    rw [hk] at h
    obtain ⟨v, h1, h2⟩ := optK_inv h hx
    rw [finE_eq] at h2
    exact ⟨v, st, by simp only [evOp, hk, h1], h2⟩
  | f =>
    rw [hk] at h
    obtain ⟨⟨v, ao⟩, h1, h2⟩ := optK_inv h hx
    have h2' : finE (compD keep o.dst) next loc tm ⟨st.h.put st.nx ao, Nat.succ st.nx⟩ kn kp v = x := h2
    rw [finE_eq] at h2'
    exact ⟨v, _, by simp only [evOp, hk, h1], h2'⟩
  | x =>
    rw [hk] at h
    obtain ⟨⟨v, st'⟩, h1, h2⟩ := optK_inv h hx
    have h2' : finE (compD keep o.dst) next loc tm st' kn kp v = x := h2
    rw [finE_eq] at h2'
    exact ⟨v, st', by simp only [evOp, hk, h1], h2'⟩

theorem compK_inv (hc : CxOk cx ev) (h : (compK P bad cx ev keep o).run rk ko next loc tm st kn kp = x) (hx : x ≠ bad) :
    (∃ v st', evOp P ko (ev loc tm) st o = some (v, st') ∧ next (putL (compD keep o.dst) v loc) (putT (compD keep o.dst) v tm) st' kn kp = x) ∨
    (∃ xo v, o.op = .panic xo ∧ ev loc tm xo = some v ∧ isIfc v = true ∧ kp v st = x) ∨
    (∃ g as, kindOf o.op = .x ∧ Enters P (ev loc tm) o g as ∧ rk g as st (fun v st' => next (putL (compD keep o.dst) v loc) (putT (compD keep o.dst) v tm) st' kn kp) kp = x) := by
  obtain ⟨dst, op, type, pos, after, guard⟩ := o
  cases op with
  | move xo =>
    obtain ⟨v, h1, h2⟩ := hc R bad _ _ _ _ _ h hx
    rw [finE_eq] at h2
    exact .inl ⟨v, st, by simp only [evOp, kindOf, evQ, h1], h2⟩
  | assign xo =>
    obtain ⟨v, h1, h2⟩ := hc R bad _ _ _ _ _ h hx
    rw [finE_eq] at h2
    exact .inl ⟨v, st, by simp only [evOp, kindOf, evQ, h1], h2⟩
  | load t a =>
    unfold compK at h
    simp only at h
    split at h
    · rename_i hagg
      obtain ⟨v, h1, h2⟩ := hc R bad _ _ _ _ _ h hx
      obtain ⟨i, j, rfl, h3⟩ := ptrK_inv h2 hx
      obtain ⟨u, h4, h5⟩ := optK_inv h3 hx
      rw [rdCellF_eq] at h4
      rw [finE_eq] at h5
      refine .inl ⟨u, st, ?_, h5⟩
      have : loadA P st.h t i j = some u := by unfold loadA; rw [hagg]; exact h4
      simp only [evOp, kindOf, evQ, h1, this]
    · exact .inl (genK_inv h hx)
  | binOp op t a b t' =>
    obtain ⟨u, h1, h2⟩ := hc R bad _ _ _ _ _ h hx
    obtain ⟨v, h3, h4⟩ := hc R bad _ _ _ _ _ h2 hx
    obtain ⟨r, h5, h6⟩ := binK_inv h4 hx
    rw [finE_eq] at h6
    exact .inl ⟨r, st, by simp only [evOp, kindOf, evQ, h1, h3, Option.bind_some, h5], h6⟩
  | indexAddr t a b =>
    obtain ⟨u, h1, h2⟩ := hc R bad _ _ _ _ _ h hx
    obtain ⟨v, h3, h4⟩ := hc R bad _ _ _ _ _ h2 hx
    obtain ⟨r, h5, h6⟩ := optK_inv h4 hx
    rw [finE_eq] at h6
    exact .inl ⟨r, st, by simp only [evOp, kindOf, evQ, h1, h3, Option.bind_some, h5], h6⟩
  | extract a i =>
    obtain ⟨u, h1, h2⟩ := hc R bad _ _ _ _ _ h hx
    obtain ⟨r, h5, h6⟩ := optK_inv h2 hx
    rw [finE_eq] at h6
    exact .inl ⟨r, st, by simp only [evOp, kindOf, evQ, h1, Option.bind_some, h5], h6⟩
  | unOp op t a =>
    obtain ⟨u, h1, h2⟩ := hc R bad _ _ _ _ _ h hx
    obtain ⟨r, h5, h6⟩ := optK_inv h2 hx
    rw [finE_eq] at h6
    exact .inl ⟨r, st, by simp only [evOp, kindOf, evQ, h1, Option.bind_some, h5], h6⟩
  | convert s d a =>
    obtain ⟨u, h1, h2⟩ := hc R bad _ _ _ _ _ h hx
    obtain ⟨r, h5, h6⟩ := optK_inv h2 hx
    rw [finE_eq] at h6
    exact .inl ⟨r, st, by simp only [evOp, kindOf, evQ, h1, Option.bind_some, h5], h6⟩
  | fieldAddr s a f =>
    obtain ⟨u, h1, h2⟩ := hc R bad _ _ _ _ _ h hx
    obtain ⟨r, h5, h6⟩ := optK_inv h2 hx
    rw [finE_eq] at h6
    exact .inl ⟨r, st, by simp only [evOp, kindOf, evQ, h1, Option.bind_some, h5], h6⟩
  | makeInterface s a =>
    obtain ⟨u, h1, h2⟩ := hc R bad _ _ _ _ _ h hx
    obtain ⟨r, h5, h6⟩ := optK_inv h2 hx
    rw [finE_eq] at h6
    exact .inl ⟨r, st, by simp only [evOp, kindOf, evQ, h1, Option.bind_some, h5], h6⟩
  | store t a b =>
    obtain ⟨u, h1, h2⟩ := hc R bad _ _ _ _ _ h hx
    obtain ⟨v, h3, h4⟩ := hc R bad _ _ _ _ _ h2 hx
    obtain ⟨st', h5, h6⟩ := optK_inv h4 hx
    rw [finE_eq] at h6
    exact .inl ⟨_, st', by simp only [evOp, kindOf, evW, h1, h3, h5], h6⟩
  | panic xo =>
    obtain ⟨u, h1, h2⟩ := hc R bad _ _ _ _ _ h hx
    obtain ⟨h3, h4⟩ := ifcK_inv h2 hx
    exact .inr (.inl ⟨xo, u, rfl, h1, h3, h4⟩)
  | call c =>
    obtain ⟨callee, args, ats⟩ := c
    cases callee with
    | value f =>
      obtain ⟨l, h1, h2⟩ := argsK_inv hc (l := args.toList) h hx
      obtain ⟨fv, h3, h4⟩ := hc R bad _ _ _ _ _ h2 hx
      obtain ⟨p, h5, h6⟩ := optK_inv h4 hx
      obtain ⟨h7, h8⟩ := enterG_inv h6 hx
      simp only [finE_eq] at h8
      refine .inr (.inr ⟨p.1, p.2, rfl, fun ρ a w E => ?_, h8⟩)
      obtain ⟨ys, g1, g2⟩ := calleeA_sound (P := P) (w := w) (E f fv h3) (evXs_sound E h1) h5 h7
      refine ⟨ys, g1, ?_⟩
      unfold execOp
      simp only
      unfold resolve
      simp only
      rw [toArr args a.eval]
      exact g2
    | invoke r name =>
      obtain ⟨l, h1, h2⟩ := argsK_inv hc (l := args.toList) h hx
      obtain ⟨rv, h3, h4⟩ := hc R bad _ _ _ _ _ h2 hx
      obtain ⟨p, h5, h6⟩ := optK_inv h4 hx
      obtain ⟨h7, h8⟩ := enterG_inv h6 hx
      simp only [finE_eq] at h8
      refine .inr (.inr ⟨p.1, p.2, rfl, fun ρ a w E => ?_, h8⟩)
      obtain ⟨ys, g1, g2⟩ := invokeA_sound (P := P) (w := w) (E r rv h3) (evXs_sound E h1) h5 h7
      refine ⟨ys, g1, ?_⟩
      unfold execOp
      simp only
      unfold resolve
      simp only [pure_bind, invoke]
      rw [toArr args a.eval]
      have e1 : (#[a.eval r] ++ (args.toList.map a.eval).toArray)[0]? = some (a.eval r) := by simp
      have e2 : (#[a.eval r] ++ (args.toList.map a.eval).toArray).extract 1 (#[a.eval r] ++ (args.toList.map a.eval).toArray).size = (args.toList.map a.eval).toArray := by
        apply Array.toList_inj.1; simp [List.take_of_length_le]
      simp only [e1, e2]
      exact g2
    | builtin b =>
      cases b with
      | len =>
        unfold compK at h
        simp only at h
        split at h
        · rename_i t xo ht hl
          obtain ⟨u, h1, h2⟩ := hc R bad _ _ _ _ _ h hx
          obtain ⟨r, h5, h6⟩ := optK_inv h2 hx
          rw [finE_eq] at h6
          refine .inl ⟨r, st, ?_, h6⟩
          have : builtinQ P st.h .len ats type [u] = some r := by
            unfold builtinQ
            simp only [ht]
            exact h5
          simp only [evOp, kindOf, evQ, hl, evXs, h1, Option.bind_some, this]
        · exact .inl (genK_inv h hx)
      | append =>
        have app : ∀ {sT xT : TypeId} {zs : Bool} {so xo : Operand}, ats[0]? = some sT → ats[1]? = some xT → args.toList = [so, xo] → (evW P ko (ev loc tm) st { dst, op := .call { callee := .builtin .append, args, argTypes := ats }, type, pos, after, guard } = (match evXs (ev loc tm) args.toList with | some [s, x] => appendA P st sT zs s x | _ => none)) →
            (appK P bad keep dst sT zs (cx so) (cx xo)).run rk ko next loc tm st kn kp = x → ∃ v st', evOp P ko (ev loc tm) st { dst, op := .call { callee := .builtin .append, args, argTypes := ats }, type, pos, after, guard } = some (v, st') ∧ next (putL (compD keep dst) v loc) (putT (compD keep dst) v tm) st' kn kp = x := by
          intro sT xT zs so xo h1 h2 h3 h4 h
          obtain ⟨a, k1, k2⟩ := hc R bad _ _ _ _ _ h hx
          obtain ⟨b, k3, k4⟩ := hc R bad _ _ _ _ _ k2 hx
          obtain ⟨⟨v, st'⟩, k5, k6⟩ := optK_inv k4 hx
          have k6' : finE (compD keep dst) next loc tm st' kn kp v = x := k6
          rw [finE_eq] at k6'
          refine ⟨v, st', ?_, k6'⟩
          rw [appendF_eq] at k5
          have hx2 : evXs (ev loc tm) args.toList = some [a, b] := by rw [h3]; simp only [evXs, k1, k3]
          simp only [evOp, kindOf]
          rw [h4, hx2]
          exact k5
        unfold compK at h
        simp only at h
        split at h
        · rename_i sT xT so xo h1 h2 h3
          split at h
          · rename_i k hu
            refine .inl (app h1 h2 h3 ?_ h)
            simp only [evW, h3, h1, h2, hu]
            cases evXs (ev loc tm) [so, xo] with
            | none => rfl
            | some l => rcases l with _ | ⟨a, _ | ⟨b, _ | ⟨c, l⟩⟩⟩ <;> rfl
          · rename_i d hd hu
            refine .inl (app h1 h2 h3 ?_ h)
            simp only [evW, h3, h1, h2, hu]
            cases evXs (ev loc tm) [so, xo] with
            | none => rfl
            | some l => rcases l with _ | ⟨a, _ | ⟨b, _ | ⟨c, l⟩⟩⟩ <;> first | rfl | (cases d <;> first | rfl | exact absurd rfl (hd _))
          · exact .inl (genK_inv h hx)
        · exact .inl (genK_inv h hx)
      | _ => exact .inl (genK_inv h hx)
  | _ => exact .inl (genK_inv h hx)

/-- What one operation does, guard and all: it is passed over, it does its work, or it calls what returns. -/
def Step (P : Program) (ko : RKO) (ev : Operand → Option AV) (all : List Oper) (o : Oper) (st : St) (v : AV) (st' : St) : Prop :=
  (wantedA all (fun t => ev (.tmp t)) o = some false ∧ v = .sc undef ∧ st' = st) ∨
  (wantedA all (fun t => ev (.tmp t)) o = some true ∧ (evOp P ko ev st o = some (v, st') ∨ ∃ g as, kindOf o.op = .x ∧ Enters P ev o g as ∧ CallsOut P g as st (.ret v) st'))
/-- It panics. -/
def StepPan (P : Program) (ev : Operand → Option AV) (all : List Oper) (o : Oper) (st : St) (v : AV) (st' : St) : Prop :=
  wantedA all (fun t => ev (.tmp t)) o = some true ∧ ((∃ xo, o.op = .panic xo ∧ ev xo = some v ∧ isIfc v = true ∧ st' = st) ∨ ∃ g as, Enters P ev o g as ∧ CallsOut P g as st (.pan v) st')

theorem opC_inv (hc : CxOk cx ev) (hrk : RKOk P bad rk) {all : List Oper} (h : (opC P bad cx ev keep all o).run rk ko next loc tm st kn kp = x) (hx : x ≠ bad) :
    (∃ v st', Step P ko (ev loc tm) all o st v st' ∧ next (putL (compD keep o.dst) v loc) (putT (compD keep o.dst) v tm) st' kn kp = x) ∨
    (∃ v st', StepPan P (ev loc tm) all o st v st' ∧ kp v st' = x) := by
  have main : wantedA all (fun t => ev loc tm (.tmp t)) o = some true → (compK P bad cx ev keep o).run rk ko next loc tm st kn kp = x → (∃ v st', Step P ko (ev loc tm) all o st v st' ∧ next (putL (compD keep o.dst) v loc) (putT (compD keep o.dst) v tm) st' kn kp = x) ∨
    (∃ v st', StepPan P (ev loc tm) all o st v st' ∧ kp v st' = x) := by
    intro hw h
    rcases compK_inv hc h hx with ⟨v, st', h1, h2⟩ | ⟨xo, v, h1, h2, h3, h4⟩ | ⟨g, as, h0, h1, h2⟩
    · exact .inl ⟨v, st', .inr ⟨hw, .inl h1⟩, h2⟩
    · exact .inr ⟨v, st, ⟨hw, .inl ⟨xo, h1, h2, h3, rfl⟩⟩, h4⟩
    · obtain ⟨out, st', k1, k2⟩ := hrk _ _ _ _ _ _ h2 hx
      cases out with
      | ret v => exact .inl ⟨v, st', .inr ⟨hw, .inr ⟨g, as, h0, h1, k2⟩⟩, k1⟩
      | pan v => exact .inr ⟨v, st', ⟨hw, .inr ⟨g, as, h1, k2⟩⟩, k1⟩
  unfold opC at h
  cases hg : o.guard with
  | none =>
    rw [hg] at h
    exact main (by unfold wantedA; rw [hg]) h
  | some gd =>
    obtain ⟨j, want⟩ := gd
    rw [hg] at h
    have h' : getE loc tm bad (fun v =>
      match v with
      | .sc (.bool b) => ifB ((compK P bad cx ev keep o).run rk ko next loc tm st kn kp) (finE (compD keep o.dst) next loc tm st kn kp (.sc undef)) (b == want)
      | _ => finE (compD keep o.dst) next loc tm st kn kp (.sc undef)) (guardK cx all j) = x := h
    unfold guardK at h'
    cases hj : all[j]? with
    | none => rw [hj] at h'; exact absurd h'.symm hx
    | some og =>
      rw [hj] at h'
      simp only at h'
      cases hd : og.dst with
      | none => rw [hd] at h'; exact absurd h'.symm hx
      | some d =>
        rw [hd] at h'
        simp only at h'
        obtain ⟨v, h1, h2⟩ := hc R bad _ _ _ _ _ h' hx
        have skip : wantedA all (fun t => ev loc tm (.tmp t)) o = some false → finE (compD keep o.dst) next loc tm st kn kp (.sc undef) = x → (∃ v st', Step P ko (ev loc tm) all o st v st' ∧ next (putL (compD keep o.dst) v loc) (putT (compD keep o.dst) v tm) st' kn kp = x) ∨
            (∃ v st', StepPan P (ev loc tm) all o st v st' ∧ kp v st' = x) := by
          intro hw h
          rw [finE_eq] at h
          exact .inl ⟨_, st, .inl ⟨hw, rfl, rfl⟩, h⟩
        by_cases hv : ∃ b, v = .sc (.bool b)
        · obtain ⟨b, rfl⟩ := hv
          have hwd : wantedA all (fun t => ev loc tm (.tmp t)) o = some (b == want) := by
            unfold wantedA
            rw [hg]
            simp only [hj, hd, h1]
          have h2' : ifB ((compK P bad cx ev keep o).run rk ko next loc tm st kn kp) (finE (compD keep o.dst) next loc tm st kn kp (.sc undef)) (b == want) = x := h2
          cases hb : (b == want) with
          | true => rw [hb] at h2' hwd; exact main hwd h2'
          | false => rw [hb] at h2' hwd; exact skip hwd h2'
        · have hwd : wantedA all (fun t => ev loc tm (.tmp t)) o = some false := by
            unfold wantedA
            rw [hg]
            simp only [hj, hd, h1]
            split
            · rename_i b he
              exact absurd ⟨b, Option.some.inj he⟩ hv
            · rfl
            · rename_i he; cases he
          split at h2
          · rename_i b
            exact absurd ⟨b, rfl⟩ hv
          · exact skip hwd h2
end
end
end Go.Proofs.Ythlcnklbeolhpaa.Ev
