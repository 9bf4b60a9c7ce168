import Derived.Test.YtfkfejonlfcgoaaEvDraw4
namespace Go.Proofs.Ytfkfejonlfcgoaa.Ev
open Go Go.RowKit

section
variable {P : Program} {D : List Deferred} {A : Array Oper} {wr : T Nat} {n : Nat} {tm : T AV} {call : FuncId → List AV → St → Option (AV × St)}
variable {xsAll xs : List Nat} {ρ0 : Rho} {st0 : St} {w0 : World} {ph : Ph} {listed : Array Bool} {ρ : Rho} {a : Act} {w : World}

theorem mem_restG {m : Nat} {l : Pend} {e : Nat × Nat × AO} : e ∈ restG m l ↔ e ∈ l ∧ m.testBit e.1 = false := by
  unfold restG; rw [List.mem_filter]; simp

theorem bif_some {c : Bool} {p q : Ph} (h : (bif c then some p else none) = some q) : p = q := by cases c <;> simp_all
theorem passG_done {anc : T Nat} {xm : Nat} {ops : List Oper} : ∀ (os : List Oper) (i : Nat) (p p' : Ph), passG P ops anc wr xm tm os i p = some p' → p'.done = p.done := by
  intro os
  induction os with
  | nil => intro i p p' h; simp only [passG, Option.some.injEq] at h; rw [h]
  | cons o os iho =>
    intro i p p' h
    simp only [passG] at h
    split at h
    · exact iho _ _ _ h
    · cases hpos : possible anc xm i p with
      | false => rw [hpos] at h; simp only [cond_false] at h; exact iho _ _ _ h
      | true =>
        rw [hpos] at h; simp only [cond_true] at h
        split at h
        case h_2 => cases h
        rename_i p1 hp1
        rw [iho _ _ _ h]
        unfold oneG at hp1
        split at hp1
        · cases hh : heapOp o.op with
          | false => rw [hh] at hp1; simp only [cond_false, Option.some.injEq] at hp1; rw [hp1]
          | true =>
            rw [hh] at hp1; simp only [cond_true] at hp1
            split at hp1
            · cases hp1
            · simp only [Option.some.injEq] at hp1; rw [hp1]
            · split at hp1
              case h_2 => cases hp1
              rw [bif_some hp1]
        · split at hp1
          · cases hp1
          · simp only [Option.some.injEq] at hp1; subst hp1; rfl
          · split at hp1
            · split at hp1
              case h_2 => cases hp1
              simp only [Option.some.injEq] at hp1; subst hp1; rfl
            · split at hp1
              case h_2 => cases hp1
              simp only [Option.some.injEq] at hp1; subst hp1; rfl
            · cases hp1

/-- Behind a step of the chain and the pass behind it. -/
theorem stepX_inv {x : Nat} (I : InvR D A tm n xsAll (x :: xs) ρ0 st0 w0 ph listed ρ a w) (_hxs : xsAll = xsOf A.toList 0) (hwr : wrs A.toList 0 .leaf = some wr) (hn : ∀ (j : Nat) (o : Oper) (d : Nat), A[j]? = some o → o.dst = some d → d < n)
    (hok : PhOk P A.toList (ancs A.toList 0 .leaf) wr tm ph) (hnd : (x :: xs).Pairwise (· < ·)) {o : Oper} (ho : A[x]? = some o) (hi : isL listed x = false) (hpre : ∀ e ∈ preds o, isL listed e = true) (hkx : kindOf o.op = .x) (hnone : ph.vals.get x = none)
    {ρ' : Rho} {v : AV} {y : Value} {st' : St} {w' : World} (hy : RelV ρ' v y) (H' : RelH ρ' st' w') (F : Fr ρ ⟨viewP (an (ancs A.toList 0 .leaf) x).testBit ph.pend ph.st.h, ph.st.nx⟩ w ρ' st' w')
    {ph1 : Ph} (hpass : passG P A.toList (ancs A.toList 0 .leaf) wr (maskOf xsAll) tm A.toList 0
      ⟨ph.vals.put x v, st', restG (an (ancs A.toList 0 .leaf) x) ph.pend, ph.done ||| 2 ^ x, ph.gone ||| an (ancs A.toList 0 .leaf) x⟩ = some ph1) :
    InvR D A tm n xsAll xs ρ0 st0 w0 ph1 (listed.setIfInBounds x true) ρ' (a.put o.dst y) w' ∧ PhOk P A.toList (ancs A.toList 0 .leaf) wr tm ph1 ∧ (∀ j, PassOk P A.toList (ancs A.toList 0 .leaf) wr (maskOf xsAll) tm ph1 j) := by
  have hlt : x < listed.size := by rw [I.size]; exact (Array.getElem?_eq_some_iff.1 ho).1
  have hanc : ∀ j, (an (ancs A.toList 0 .leaf) x).testBit j = true → isL listed j = true := fun j hj => I.anc ho hpre hj
  have hoL : A.toList[x]? = some o := by simpa using ho
  have hput := Vle.put (a := ph.vals) hnone v
  have hnx : ph.st.nx ≤ st'.nx := F.nx
  -- no pending object is the chain's
  have hpx : ∀ e ∈ ph.pend, e.1 ≠ x := by
    intro e he hex
    obtain ⟨o', v2, u', g1, g2, g3, g4, g5, g6⟩ := hok.pend e he
    rw [hex, hoL] at g1; cases g1
    rw [hkx] at g2; cases g2
  have hok0 : PhOk P A.toList (ancs A.toList 0 .leaf) wr tm ⟨ph.vals.put x v, st', restG (an (ancs A.toList 0 .leaf) x) ph.pend, ph.done ||| 2 ^ x, ph.gone ||| an (ancs A.toList 0 .leaf) x⟩ := by
    refine ⟨fun i u o' ho' hk hu => ?_, fun e he => ?_, ?_, fun e he => Nat.lt_of_lt_of_le (hok.lt e (mem_restG.1 he).1) hnx⟩
    · have hix : i ≠ x := by rintro rfl; rw [hoL] at ho'; cases ho'; exact hk hkx
      simp only [T.get_put_ne _ _ _ hix] at hu
      obtain ⟨v2, g1, g2⟩ := hok.vals i u o' ho' hk hu
      refine ⟨v2, g1.trans hput, ?_⟩
      rcases g2 with g | ⟨g, g' | ⟨g', id, ao, g3, g4⟩⟩
      · exact .inl g
      · exact .inr ⟨g, .inl g'⟩
      · refine .inr ⟨g, .inr ⟨g', id, ao, g3, fun hg => ?_⟩⟩
        simp only [testBit_lor, Bool.or_eq_false_iff] at hg
        exact mem_restG.2 ⟨g4 hg.1, hg.2⟩
    · obtain ⟨o', v2, u', g1, g2, g3, g4, g5, g6⟩ := hok.pend e (mem_restG.1 he).1
      exact ⟨o', v2, u', g1, g2, g3.trans hput, g4, g5, hput _ _ g6⟩
    · show List.Pairwise _ (restG (an (ancs A.toList 0 .leaf) x) ph.pend)
      unfold restG
      exact List.Pairwise.sublist (List.filter_sublist) hok.apart
  obtain ⟨hle, hok1, hp1⟩ := passG_ok A.toList 0 rfl hok0 (fun j hj => absurd hj (Nat.not_lt_zero _)) hpass
  have hheap1 : ph1.st.h = st'.h := hle.heap
  have hnx1 : st'.nx ≤ ph1.st.nx := hle.nx
  -- which pending objects of the new phase are done
  have hdoneP : ∀ e ∈ ph1.pend, isL (listed.setIfInBounds x true) e.1 = true → e ∈ ph.pend ∧ (an (ancs A.toList 0 .leaf) x).testBit e.1 = false ∧ isL listed e.1 = true := by
    intro e he hL
    rw [isL_set hlt, Bool.or_eq_true, decide_eq_true_eq] at hL
    have hL' : isL listed e.1 = true := by
      rcases hL with h | h
      · exact h
      · obtain ⟨o', v2, u', g1, g2, g3, g4, g5, g6⟩ := hok1.pend e he
        rw [h, hoL] at g1; cases g1
        rw [hkx] at g2; cases g2
    rcases hle.newp e he with h | ⟨_, h⟩
    · have := mem_restG.1 h
      exact ⟨this.1, this.2, hL'⟩
    · exfalso
      obtain ⟨o', v2, u', g1, g2, g3, g4, g5, g6⟩ := hok1.pend e he
      obtain ⟨u2, h2, _⟩ := I.vals e.1 o' hL' (by simpa using g1)
      have hex : e.1 ≠ x := by intro hh; rw [hh, hoL] at g1; cases g1; rw [hkx] at g2; cases g2
      simp only [T.get_put_ne _ _ _ hex] at h
      rw [h] at h2; cases h2
  -- the part's heap and the whole
  have hsub : ∀ k ob, (viewP (an (ancs A.toList 0 .leaf) x).testBit ph.pend ph.st.h).get k = some ob → (viewP (isL listed) ph.pend ph.st.h).get k = some ob := fun k ob hg =>
    viewP_sub hok.apart hok.apart (fun e he hp => ⟨he, hanc _ hp⟩) I.pnone hg
  -- a pending object that the step does not take is not in its part
  have hout : ∀ e ∈ ph.pend, (an (ancs A.toList 0 .leaf) x).testBit e.1 = false → (viewP (an (ancs A.toList 0 .leaf) x).testBit ph.pend ph.st.h).get e.2.1 = none := by
    intro e he hne
    rw [viewP_other (fun e' he' hp' hid => by
      have := Apart.uniq2 hok.apart he' he hid
      subst this; rw [hne] at hp'; cases hp')]
    exact I.pnone e he
  have houtc : ∀ e ∈ ph.pend, (an (ancs A.toList 0 .leaf) x).testBit e.1 = false → ∀ j oj, (viewP (an (ancs A.toList 0 .leaf) x).testBit ph.pend ph.st.h).get j = some oj → oj.cls? ≠ some e.2.1 := by
    intro e he hne j oj hj hc
    rcases viewP_inv hok.apart hj with ⟨e', he', hp', rfl, rfl⟩ | ⟨_, hj⟩
    · have := I.pown e' he' (hanc _ hp') _ hc
      have := Apart.uniq2 hok.apart he he' this
      subst this; rw [hne] at hp'; cases hp'
    · exact I.pcls e he j oj hj hc
  have hnew : ∀ e ∈ ph.pend, (an (ancs A.toList 0 .leaf) x).testBit e.1 = false → st'.h.get e.2.1 = none := by
    intro e he hne
    cases hg : st'.h.get e.2.1 with
    | none => rfl
    | some ob =>
      obtain ⟨o', ho'⟩ := F.ids _ ob hg (hok.lt e he)
      have := hout e he hne
      simp only at ho'
      rw [this] at ho'; cases ho'
  have hframe := RelH.frame I.heap hsub H' F (hN := viewP (isL (listed.setIfInBounds x true)) ph1.pend st'.h) (fun k ob hg => by
      rcases viewP_inv hok1.apart hg with ⟨e, he, hp, rfl, rfl⟩ | ⟨_, hg⟩
      · obtain ⟨h1, h2, h3⟩ := hdoneP e he hp
        exact .inr ⟨hout e h1 h2, viewP_mem hok.apart e h1 h3, I.pown e h1 h3, houtc e h1 h2⟩
      · exact .inl hg) (fun k ob hg => by
      rw [viewP_other (fun e he hp hid => by
        obtain ⟨h1, h2, _⟩ := hdoneP e he hp
        have := hnew e h1 h2
        rw [hid, hg] at this; cases this)]
      exact hg)
  obtain ⟨s1, s2⟩ := I.slots_next hwr hn ho hi (F.ext (I.heap.sub hsub)) hy (hput.trans hle.vals) (hle.vals _ _ (T.get_put_same _ _ _))
  have hxmem : x ∈ xsAll := ((I.rem x).1 (by simp)).1
  refine ⟨⟨by simp [I.size], I.closed_next ho hpre, fun j => ?_, fun j => ?_, fun j hj => ?_, ?_, ?_, s1, s2, ?_, ?_, fun e he => ?_, fun e he => ?_, fun e he hL => ?_, fun e he j ob hj hc => ?_, fun e he hL => ?_⟩, hok1, hp1⟩
  · rw [hle.done]
    simp only [testBit_lor, testBit_pow, Bool.or_eq_true, decide_eq_true_eq]
    rw [I.done j, isL_set hlt, Bool.or_eq_true, decide_eq_true_eq]
    constructor
    · rintro (⟨h1, h2⟩ | rfl)
      · exact ⟨.inl h1, h2⟩
      · exact ⟨.inr rfl, hxmem⟩
    · rintro ⟨h1 | h1, h2⟩
      · exact .inl ⟨h1, h2⟩
      · exact .inr h1.symm
  · rw [isL_set hlt, Bool.or_eq_false_iff, decide_eq_false_iff_not]
    have R := I.rem j
    have hxx : x ∉ xs := fun h => Nat.lt_irrefl _ ((List.pairwise_cons.1 hnd).1 x h)
    constructor
    · intro h
      have := R.1 (List.mem_cons_of_mem _ h)
      exact ⟨this.1, this.2, fun e => hxx (e ▸ h)⟩
    · rintro ⟨h1, h2, h3⟩
      rcases List.mem_cons.1 (R.2 ⟨h1, h2⟩) with h | h
      · exact absurd h h3
      · exact h
  · rw [hle.gone] at hj
    simp only [testBit_lor, Bool.or_eq_true] at hj
    rw [isL_set hlt]
    rcases hj with h | h
    · rw [I.gone j h]; rfl
    · rw [hanc j h]; rfl
  · cases hd : o.dst <;> simp [Act.put, I.asize]
  · cases hd : o.dst <;> simp [Act.put, I.defers]
  · rw [hheap1]; exact hframe.1.up hnx1
  · rw [hheap1]; exact (I.fr.trans hframe.2).congr (fun _ _ h => h) hnx1
  · rw [hheap1]
    rcases hle.newp e he with h | ⟨h, _⟩
    · have := mem_restG.1 h; exact hnew e this.1 this.2
    · cases hg : st'.h.get e.2.1 with
      | none => rfl
      | some ob => have := H'.has hg; simp only at h; omega
  · rcases hle.newp e he with h | ⟨h, _⟩
    · exact I.pge e (mem_restG.1 h).1
    · have := I.fr.nx; simp only at h this; omega
  · rw [isL_set hlt, Bool.or_eq_false_iff] at hL
    rcases hle.newp e he with h | ⟨h, _⟩
    · have hm := (mem_restG.1 h).1
      have := F.old e.2.1 (hok.lt e hm)
      rw [this]; exact I.pfree e hm hL.1
    · exact H'.none_nx h
  · rw [hheap1] at hj
    rcases hle.newp e he with h | ⟨h, _⟩
    · have hm := mem_restG.1 h
      obtain ⟨j', o', g1, g2⟩ := F.cls j ob _ hj hc (hok.lt e hm.1)
      exact houtc e hm.1 hm.2 j' o' g1 g2
    · cases ob with
      | map es cl => simp [AO.cls?] at hc
      | cells c lo hi cls t =>
        simp only [AO.cls?, Option.some.injEq] at hc
        obtain ⟨q, hq⟩ := (H'.stamp _ _ _ _ _ _ hj).1
        have := (H'.dom _ _ hq).1
        simp only at h; omega
  · obtain ⟨h1, _, h3⟩ := hdoneP e he hL
    exact I.pown e h1 h3

/-- THE REGION, IN WHATEVER ORDER. -/
theorem drawAny (hcall : CallOk P call) (hxs : xsAll = xsOf A.toList 0) (hwr : wrs A.toList 0 .leaf = some wr) (hn : ∀ (j : Nat) (o : Oper) (d : Nat), A[j]? = some o → o.dst = some d → d < n) (hpreds : predsOk A.toList 0 = true) {phF : Ph} {Q : Exit → Act → World → Prop}
    (hQ : ∀ listed ρ a w, InvR D A tm n xsAll [] ρ0 st0 w0 phF listed ρ a w → PhOk P A.toList (ancs A.toList 0 .leaf) wr tm phF → (∀ i, i < A.size → isL listed i = true) → Q .normal a w) :
    ∀ (xs : List Nat) (ph : Ph), xs.Pairwise (· < ·) → PhOk P A.toList (ancs A.toList 0 .leaf) wr tm ph → (∀ j, PassOk P A.toList (ancs A.toList 0 .leaf) wr (maskOf xsAll) tm ph j) → restX P A.toList (ancs A.toList 0 .leaf) wr (maskOf xsAll) tm call xs ph = some phF →
    ∀ (fuel : Nat) (l : List Nat) (listed : Array Bool) (ρ : Rho) (a : Act) (w : World), InvR D A tm n xsAll xs ρ0 st0 w0 ph listed ρ a w → l.length ≤ fuel → (∀ i, i < A.size → isL listed i = false → i ∈ l) → wpAny P .any A Q fuel listed a w := by
  intro xs
  induction xs with
  | nil =>
    intro ph hnd hok hpass hrest fuel
    simp only [restX, Option.some.injEq] at hrest; subst hrest
    induction fuel with
    | zero =>
      intro l listed ρ a w I hl hall
      have hl0 : l = [] := List.length_eq_zero_iff.1 (by omega)
      subst hl0
      have hL : ∀ i, i < A.size → isL listed i = true := fun i hi => by
        cases h : isL listed i with
        | true => rfl
        | false => have := hall i hi h; simp at this
      refine ⟨?_, hQ listed ρ a w I hok hL⟩
      rw [List.eq_nil_iff_forall_not_mem]
      intro i hi
      obtain ⟨h1, o, ho, _⟩ := mem_ready.1 hi
      have hlt : i < A.size := (Array.getElem?_eq_some_iff.1 ho).1
      have := hL i hlt
      unfold isL at this
      rw [Array.getD_eq_getD_getElem?, Array.getElem?_eq_getElem (by rw [I.size]; exact hlt)] at this h1
      simp at this h1
      rw [this] at h1; cases h1
    | succ fuel ih =>
      intro l listed ρ a w I hl hall
      have ready : ∀ i, isL listed i = false → i < A.size → (∀ o, A[i]? = some o → ∀ e ∈ preds o, isL listed e = true) → i ∈ Region.ready .any A listed := by
        intro i hi hlt hpre
        refine mem_ready.2 ⟨?_, A[i], Array.getElem?_eq_getElem hlt, fun e he hb => hpre _ (Array.getElem?_eq_getElem hlt) e.on ?_⟩
        · unfold isL at hi
          rw [Array.getD_eq_getD_getElem?, Array.getElem?_eq_getElem (by rw [I.size]; exact hlt)] at hi ⊢
          simpa using hi
        · unfold preds
          rw [List.mem_map]
          exact ⟨e, List.mem_filter.2 ⟨by simpa using he, hb⟩, rfl⟩
      refine ⟨fun hempty => hQ listed ρ a w I hok (fun i => ?_), fun i hi => ?_⟩
      · -- nothing is ready: all is done
        induction i using Nat.strongRecOn with
        | _ i ihh =>
          intro hlt
          cases h : isL listed i with
          | true => rfl
          | false =>
            exfalso
            have := ready i h hlt (fun o ho e he => by
              have hp := predsOk_spec hpreds i o (by simpa using ho) e he
              exact ihh e (by omega) (by omega))
            rw [hempty] at this; simp at this
      · obtain ⟨h1, o, ho, hpre⟩ := mem_ready.1 hi
        have hlt : i < A.size := (Array.getElem?_eq_some_iff.1 ho).1
        have hiL : isL listed i = false := by
          unfold isL
          rw [Array.getD_eq_getD_getElem?, Array.getElem?_eq_getElem (by rw [I.size]; exact hlt)] at h1 ⊢
          simpa using h1
        have hpre' : ∀ e ∈ preds o, isL listed e = true := by
          intro e he
          unfold preds at he
          rw [List.mem_map] at he
          obtain ⟨e', he', rfl⟩ := he
          have := List.mem_filter.1 he'
          exact hpre e' (by simpa using this.1) this.2
        have hkx : kindOf o.op ≠ .x := by
          intro hk
          have : i ∈ xsAll := by rw [hxs, xsOf_spec]; exact ⟨i, o, by omega, by simpa using ho, hk⟩
          have := (I.rem i).2 ⟨this, hiL⟩
          simp at this
        refine stepQF I hxs hwr hn hok hpass ho hiL hpre' hkx (fun ρ' a' w' I' => ih (l.erase i) _ ρ' a' w' I' ?_ ?_)
        · have := List.length_erase_of_mem (hall i hlt hiL); omega
        · intro j hj hjL
          rw [isL_set (by rw [I.size]; exact hlt), Bool.or_eq_false_iff, decide_eq_false_iff_not] at hjL
          exact (List.mem_erase_of_ne hjL.2).2 (hall j hj hjL.1)
  | cons x xs ihx =>
    intro ph hnd hok hpass hrest fuel
    simp only [restX] at hrest
    split at hrest
    case h_1 => cases hrest
    rename_i ph0 hstep
    split at hrest
    case h_1 => cases hrest
    rename_i ph1 hpass1
    -- what the step's success says
    unfold stepX at hstep
    split at hstep
    case h_1 => cases hstep
    rename_i ox hox
    cases hb : ((ph.done &&& an (ancs A.toList 0 .leaf) x).beq ph.done && (ph.vals.get x).isNone) with
    | false => rw [hb] at hstep; cases hstep
    | true =>
    rw [hb] at hstep; simp only [cond_true] at hstep
    simp only [Bool.and_eq_true, Option.isNone_iff_eq_none] at hb
    have hox' : A[x]? = some ox := by simpa using hox
    -- each later step has this one before it
    have hchain : ∀ (ys : List Nat) (p p' : Ph), restX P A.toList (ancs A.toList 0 .leaf) wr (maskOf xsAll) tm call ys p = some p' → ∀ z, p.done.testBit z = true → ∀ j ∈ ys, (an (ancs A.toList 0 .leaf) j).testBit z = true := by
      intro ys
      induction ys with
      | nil => intro p p' _ z _ j hj; simp at hj
      | cons y ys ihy =>
        intro p p' hr z hz j hj
        simp only [restX] at hr
        split at hr
        case h_1 => cases hr
        rename_i q0 hq0
        split at hr
        case h_1 => cases hr
        rename_i q1 hq1
        unfold stepX at hq0
        split at hq0
        case h_1 => cases hq0
        rename_i oy hoy
        cases hby : ((p.done &&& an (ancs A.toList 0 .leaf) y).beq p.done && (p.vals.get y).isNone) with
        | false => rw [hby] at hq0; cases hq0
        | true =>
        rw [hby] at hq0; simp only [cond_true] at hq0
        simp only [Bool.and_eq_true, Nat.beq_eq] at hby
        have hd0 : q0.done = p.done ||| 2 ^ y := by
          split at hq0
          · cases hq0
          · simp only [Option.some.injEq] at hq0; subst hq0; rfl
          · split at hq0
            case h_2 => cases hq0
            simp only [Option.some.injEq] at hq0; subst hq0; rfl
        rcases List.mem_cons.1 hj with rfl | hj
        · have := congrArg (·.testBit z) hby.1
          simp only [testBit_land, hz, Bool.true_and] at this
          exact this
        · refine ihy q1 p' hr z ?_ j hj
          rw [passG_done _ _ _ _ hq1, hd0, testBit_lor, hz]; rfl
    induction fuel with
    | zero =>
      intro l listed ρ a w I hl hall
      exfalso
      have hx := (I.rem x).1 (by simp)
      have hl0 : l = [] := List.length_eq_zero_iff.1 (by omega)
      subst hl0
      have := hall x (Array.getElem?_eq_some_iff.1 hox').1 hx.2
      simp at this
    | succ fuel ih =>
      intro l listed ρ a w I hl hall
      have hx := (I.rem x).1 (by simp)
      have ready : ∀ i, isL listed i = false → i < A.size → (∀ o, A[i]? = some o → ∀ e ∈ preds o, isL listed e = true) → i ∈ Region.ready .any A listed := by
        intro i hi hlt hpre
        refine mem_ready.2 ⟨?_, A[i], Array.getElem?_eq_getElem hlt, fun e he hb => hpre _ (Array.getElem?_eq_getElem hlt) e.on ?_⟩
        · unfold isL at hi
          rw [Array.getD_eq_getD_getElem?, Array.getElem?_eq_getElem (by rw [I.size]; exact hlt)] at hi ⊢
          simpa using hi
        · unfold preds
          rw [List.mem_map]
          exact ⟨e, List.mem_filter.2 ⟨by simpa using he, hb⟩, rfl⟩
      refine ⟨fun hempty => ?_, fun i hi => ?_⟩
      · exfalso
        have hAll : ∀ i, i < A.size → isL listed i = true := by
          intro i
          induction i using Nat.strongRecOn with
          | _ i ihh =>
            intro hlt
            cases h : isL listed i with
            | true => rfl
            | false =>
              exfalso
              have := ready i h hlt (fun o ho e he => by
                have hp := predsOk_spec hpreds i o (by simpa using ho) e he
                exact ihh e (by omega) (by omega))
              rw [hempty] at this; simp at this
        rw [hAll x (Array.getElem?_eq_some_iff.1 hox').1] at hx
        cases hx.2
      · obtain ⟨h1, o, ho, hpre⟩ := mem_ready.1 hi
        have hlt : i < A.size := (Array.getElem?_eq_some_iff.1 ho).1
        have hiL : isL listed i = false := by
          unfold isL
          rw [Array.getD_eq_getD_getElem?, Array.getElem?_eq_getElem (by rw [I.size]; exact hlt)] at h1 ⊢
          simpa using h1
        have hpre' : ∀ e ∈ preds o, isL listed e = true := by
          intro e he
          unfold preds at he
          rw [List.mem_map] at he
          obtain ⟨e', he', rfl⟩ := he
          have := List.mem_filter.1 he'
          exact hpre e' (by simpa using this.1) this.2
        have hlen : (l.erase i).length ≤ fuel := by have := List.length_erase_of_mem (hall i hlt hiL); omega
        have hall' : ∀ j, j < A.size → isL (listed.setIfInBounds i true) j = false → j ∈ l.erase i := by
          intro j hj hjL
          rw [isL_set (by rw [I.size]; exact hlt), Bool.or_eq_false_iff, decide_eq_false_iff_not] at hjL
          exact (List.mem_erase_of_ne hjL.2).2 (hall j hj hjL.1)
        by_cases hkx : kindOf o.op = .x
        · -- the next step of the chain
          have hix : i = x := by
            have hm : i ∈ xsAll := by rw [hxs, xsOf_spec]; exact ⟨i, o, by omega, by simpa using ho, hkx⟩
            rcases List.mem_cons.1 ((I.rem i).2 ⟨hm, hiL⟩) with h | h
            · exact h
            · exfalso
              have hd : ph1.done.testBit x = true := by
                have hpd : ph0.done.testBit x = true := by
                  split at hstep
                  · cases hstep
                  · simp only [Option.some.injEq] at hstep; subst hstep; simp
                  · split at hstep
                    case h_2 => cases hstep
                    simp only [Option.some.injEq] at hstep; subst hstep; simp
                rw [passG_done _ _ _ _ hpass1]; exact hpd
              have := I.anc ho hpre' (hchain xs ph1 phF hrest x hd i h)
              rw [hx.2] at this; cases this
          subst hix
          rw [hox'] at ho; cases ho
          have hanc : ∀ j, (an (ancs A.toList 0 .leaf) i).testBit j = true → isL listed j = true := fun j hj => I.anc hox' hpre' hj
          have hsub : ∀ k ob, (viewP (an (ancs A.toList 0 .leaf) i).testBit ph.pend ph.st.h).get k = some ob → (viewP (isL listed) ph.pend ph.st.h).get k = some ob := fun k ob hg =>
            viewP_sub hok.apart hok.apart (fun e he hp => ⟨he, hanc _ hp⟩) I.pnone hg
          have Hp := I.heap.sub hsub
          unfold wpOp
          rw [hox']
          simp only
          split at hstep
          · cases hstep
          · rename_i hw
            simp only [Option.some.injEq] at hstep; subst hstep
            rw [wantedA_sound (I.slot hwr hn hiL hanc (Vle.refl _)) hw]
            simp only [Bool.false_eq_true, if_false]
            obtain ⟨I1, k1, k2⟩ := stepX_inv I hxs hwr hn hok hnd hox' hiL hpre' hkx hb.2 (RelV.sc undef) Hp (Fr.refl _ _ _ Hp) hpass1
            exact ihx ph1 (List.pairwise_cons.1 hnd).2 k1 k2 hrest fuel _ _ _ _ _ I1 hlen hall'
          · rename_i hw
            split at hstep
            case h_2 => cases hstep
            rename_i v st' hev
            simp only [Option.some.injEq] at hstep; subst hstep
            rw [wantedA_sound (I.slot hwr hn hiL hanc (Vle.refl _)) hw]
            simp only [if_true]
            refine .inl (evW_sound hcall Hp (I.env hwr hn hiL hanc (Vle.refl _)) hev _ _ fun y ρ' w' h1 h2 h3 => ?_)
            obtain ⟨I1, k1, k2⟩ := stepX_inv I hxs hwr hn hok hnd hox' hiL hpre' hkx hb.2 h1 h2 h3 hpass1
            exact ihx ph1 (List.pairwise_cons.1 hnd).2 k1 k2 hrest fuel _ _ _ _ _ I1 hlen hall'
        · exact stepQF I hxs hwr hn hok hpass ho hiL hpre' hkx (fun ρ' a' w' I' => ih (l.erase i) _ ρ' a' w' I' hlen hall')
end
end Go.Proofs.Ytfkfejonlfcgoaa.Ev
