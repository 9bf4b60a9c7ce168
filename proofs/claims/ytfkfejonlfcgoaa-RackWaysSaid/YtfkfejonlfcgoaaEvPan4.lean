/- Regions that draw their order, where what touches the world lies in one row: any order does what the written one does. -/
import Derived.Test.YtfkfejonlfcgoaaEvPan3
namespace Go.Proofs.Ytfkfejonlfcgoaa.Ev
open Go Go.RowKit
section
variable {P : Program} {D : List Deferred}

/-- What is known of one operation: the slots and the state before it, what it gives, the state behind it. -/
structure TE where
  loc : Loc
  tm : T AV
  st : St
  v : AV
  st' : St
def TrD (P : Program) (ko : RKO) (keep : Nat) (wr anc : T Nat) (all : List Oper) : List Oper → Nat → Loc → T AV → St → List TE → Loc → T AV → St → Prop
  | [], _, loc, tm, st, L, locE, tmE, stE => L = [] ∧ locE = loc ∧ tmE = tm ∧ stE = st
  | o :: os, i, loc, tm, st, L, locE, tmE, stE => ∃ v st' L', L = ⟨loc, tm, st, v, st'⟩ :: L' ∧ Step P ko (evD keep wr anc i loc tm) all o st v st' ∧
      TrD P ko keep wr anc all os (i + 1) (putL (compD keep o.dst) v loc) (putT (compD keep o.dst) v tm) st' L' locE tmE stE

theorem seqD_inv {R : Type} {bad x : R} {rk : RKK R} {ko : RKO} (hrk : RKOk P bad rk) {keep : Nat} {wr anc : T Nat} {all : List Oper} : ∀ (os : List Oper) (i : Nat) (loc : Loc) (tm : T AV) (st : St) (kn : KN R), seqD P bad keep rk ko wr anc all os i loc tm st kn (fun _ _ => bad) = x → x ≠ bad →
    ∃ L locE tmE stE, kn tmE stE = x ∧ TrD P ko keep wr anc all os i loc tm st L locE tmE stE
  | [], i, loc, tm, st, kn, e, _ => ⟨[], loc, tm, st, e, rfl, rfl, rfl, rfl⟩
  | o :: os, i, loc, tm, st, kn, e, hx => by
    have e' : (opC P bad (cxD keep wr anc i) (evD keep wr anc i) keep all o).run rk ko (seqD P bad keep rk ko wr anc all os (Nat.succ i)) loc tm st kn (fun _ _ => bad) = x := e
    rcases opC_inv (cxD_ok keep wr anc i) hrk e' hx with ⟨v, st', s, h2⟩ | ⟨v, st', s, h2⟩
    · obtain ⟨L, locE, tmE, stE, h3, h4⟩ := seqD_inv hrk os (Nat.succ i) _ _ _ _ h2 hx
      exact ⟨⟨loc, tm, st, v, st'⟩ :: L, locE, tmE, stE, h3, v, st', L, rfl, s, h4⟩
    · exact absurd h2.symm hx

/-- The state before operation k. -/
def stA (L : List TE) (stE : St) (k : Nat) : St := match L[k]? with | some e => e.st | none => stE
def locA (L : List TE) (locE : Loc) (k : Nat) : Loc := match L[k]? with | some e => e.loc | none => locE
def tmA (L : List TE) (tmE : T AV) (k : Nat) : T AV := match L[k]? with | some e => e.tm | none => tmE

variable {ko : RKO} {keep : Nat} {wr anc : T Nat} {all : List Oper}
theorem TrD.at0 {os : List Oper} {i : Nat} {loc : Loc} {tm : T AV} {st : St} {L : List TE} {locE : Loc} {tmE : T AV} {stE : St} (h : TrD P ko keep wr anc all os i loc tm st L locE tmE stE) : stA L stE 0 = st ∧ locA L locE 0 = loc ∧ tmA L tmE 0 = tm := by
  cases os with
  | nil => obtain ⟨rfl, rfl, rfl, rfl⟩ := h; exact ⟨rfl, rfl, rfl⟩
  | cons o os => obtain ⟨v, st', L', rfl, _, _⟩ := h; exact ⟨rfl, rfl, rfl⟩
theorem TrD.step : ∀ {os : List Oper} {i : Nat} {loc : Loc} {tm : T AV} {st : St} {L : List TE} {locE : Loc} {tmE : T AV} {stE : St}, TrD P ko keep wr anc all os i loc tm st L locE tmE stE →
    ∀ (k : Nat) (o : Oper), os[k]? = some o → ∃ e, L[k]? = some e ∧ Step P ko (evD keep wr anc (i + k) e.loc e.tm) all o e.st e.v e.st' ∧ stA L stE k = e.st ∧ stA L stE (k + 1) = e.st' ∧
      locA L locE (k + 1) = putL (compD keep o.dst) e.v (locA L locE k) ∧ tmA L tmE (k + 1) = putT (compD keep o.dst) e.v (tmA L tmE k) ∧ locA L locE k = e.loc ∧ tmA L tmE k = e.tm
  | [], i, loc, tm, st, L, locE, tmE, stE, h, k, o, hk => by simp at hk
  | o' :: os, i, loc, tm, st, L, locE, tmE, stE, h, k, o, hk => by
    obtain ⟨v, st', L', rfl, s, h'⟩ := h
    cases k with
    | zero =>
      simp at hk; subst hk
      obtain ⟨g1, g2, g3⟩ := h'.at0
      exact ⟨_, rfl, s, rfl, g1, g2, g3, rfl, rfl⟩
    | succ k =>
      obtain ⟨e, k1, k2, k3⟩ := TrD.step h' k o (by simpa using hk)
      exact ⟨e, k1, by rw [show i + (k + 1) = i + 1 + k by omega]; exact k2, k3⟩
theorem TrD.done : ∀ {os : List Oper} {i : Nat} {loc : Loc} {tm : T AV} {st : St} {L : List TE} {locE : Loc} {tmE : T AV} {stE : St}, TrD P ko keep wr anc all os i loc tm st L locE tmE stE → L.length = os.length
  | [], i, loc, tm, st, L, locE, tmE, stE, h => by obtain ⟨rfl, _⟩ := h; rfl
  | o :: os, i, loc, tm, st, L, locE, tmE, stE, h => by
    obtain ⟨v, st', L', rfl, s, h'⟩ := h
    simp [TrD.done h']

section
variable {os : List Oper} {loc : Loc} {tm : T AV} {st : St} {L : List TE} {locE : Loc} {tmE : T AV} {stE : St}
/-- A slot that no operation before k writes is as it was. -/
theorem TrD.kept (h : TrD P ko keep wr anc all os 0 loc tm st L locE tmE stE) (t : Nat) : ∀ k, k ≤ os.length → (∀ (j : Nat) (o : Oper), j < k → os[j]? = some o → o.dst ≠ some t) → slotE keep (locA L locE k) (tmA L tmE k) t = slotE keep loc tm t
  | 0, _, _ => by rw [h.at0.2.1, h.at0.2.2]
  | k + 1, hk, hn => by
    have ho : os[k]? = some os[k] := List.getElem?_eq_getElem (by omega)
    obtain ⟨e, _, _, _, _, g5, g6, _, _⟩ := h.step k _ ho
    rw [g5, g6, slotE_put, if_neg (hn k _ (Nat.lt_succ_self k) ho)]
    exact TrD.kept h t k (by omega) (fun j o hj hjo => hn j o (by omega) hjo)
/-- A slot that operation j alone writes holds what it gave. -/
theorem TrD.wrote (h : TrD P ko keep wr anc all os 0 loc tm st L locE tmE stE) (t : Nat) {j : Nat} {o : Oper} {e : TE} (ho : os[j]? = some o) (hd : o.dst = some t) (he : L[j]? = some e) (hu : ∀ (j' : Nat) (o' : Oper), os[j']? = some o' → o'.dst = some t → j' = j) :
    ∀ k, j < k → k ≤ os.length → slotE keep (locA L locE k) (tmA L tmE k) t = some e.v
  | 0, hj, _ => absurd hj (Nat.not_lt_zero _)
  | k + 1, hj, hk => by
    have hok : os[k]? = some os[k] := List.getElem?_eq_getElem (by omega)
    obtain ⟨e', g1, _, _, _, g5, g6, _, _⟩ := h.step k _ hok
    rw [g5, g6, slotE_put]
    by_cases hjk : j = k
    · subst hjk
      rw [ho] at hok
      have := Option.some.inj hok
      rw [← this, if_pos hd]
      rw [g1] at he; cases he; rfl
    · rw [if_neg (fun hd' => hjk (hu k _ hok hd').symm)]
      exact TrD.wrote h t ho hd he hu k (by omega) (by omega)
theorem TrD.dom (h : TrD P ko keep wr anc all os 0 loc tm st L locE tmE stE) (hd : ∀ t v, tm.get t = some v → keep.testBit t = true) : ∀ k, k ≤ os.length → ∀ t v, (tmA L tmE k).get t = some v → keep.testBit t = true
  | 0, _ => by rw [h.at0.2.2]; exact hd
  | k + 1, hk => by
    have hok : os[k]? = some os[k] := List.getElem?_eq_getElem (by omega)
    obtain ⟨e, _, _, _, _, _, g6, _, _⟩ := h.step k _ hok
    rw [g6]
    exact putT_dom (TrD.dom h hd k (by omega)) _ _
theorem TrD.unwr (h : TrD P ko keep wr anc all os 0 loc tm st L locE tmE stE) (t : Nat) (hn : ∀ o ∈ os, o.dst ≠ some t) : ∀ k, k ≤ os.length → (tmA L tmE k).get t = tm.get t
  | 0, _ => by rw [h.at0.2.2]
  | k + 1, hk => by
    have hok : os[k]? = some os[k] := List.getElem?_eq_getElem (by omega)
    obtain ⟨e, _, _, _, _, _, g6, _, _⟩ := h.step k _ hok
    rw [g6, putT_ne (hn _ (List.getElem_mem (by omega)))]
    exact TrD.unwr h t hn k (by omega)
theorem TrD.ends (h : TrD P ko keep wr anc all os 0 loc tm st L locE tmE stE) : locA L locE os.length = locE ∧ tmA L tmE os.length = tmE ∧ stA L stE os.length = stE := by
  have : L[os.length]? = none := List.getElem?_eq_none (by rw [h.done]; exact Nat.le_refl _)
  unfold locA tmA stA
  rw [this]; exact ⟨rfl, rfl, rfl⟩

/-- What only looks leaves the state. -/
theorem Step.still {ev : Operand → Option AV} {o : Oper} {st : St} {v : AV} {st' : St} (s : Step P ko ev all o st v st') (hq : isEv o = false) : st' = st := by
  have hk : kindOf o.op = .q := by
    unfold isEv at hq
    cases hk : kindOf o.op <;> simp_all
  rcases s with ⟨_, _, rfl⟩ | ⟨_, s⟩
  · rfl
  · rcases s with h1 | ⟨g, as, h0, _⟩
    · unfold evOp at h1
      rw [hk] at h1
      simp only at h1
      split at h1
      · simp only [Option.some.injEq, Prod.mk.injEq] at h1; exact h1.2.symm
      · cases h1
    · rw [hk] at h0; cases h0
theorem TrD.stay (h : TrD P ko keep wr anc all os 0 loc tm st L locE tmE stE) {k : Nat} : ∀ m, k ≤ m → m ≤ os.length → (∀ (j : Nat) (o : Oper), k ≤ j → j < m → os[j]? = some o → isEv o = false) → stA L stE m = stA L stE k
  | 0, hk, _, _ => by rw [Nat.le_zero.1 hk]
  | m + 1, hk, hm, hn => by
    by_cases hkm : k = m + 1
    · rw [hkm]
    · have hok : os[m]? = some os[m] := List.getElem?_eq_getElem (by omega)
      obtain ⟨e, _, s, g3, g4, _⟩ := h.step m _ hok
      rw [g4, s.still (hn m _ (by omega) (by omega) hok), ← g3]
      exact TrD.stay h m (by omega) (by omega) (fun j o hj hjm ho => hn j o hj (by omega) ho)
/-- What does not look at memory does the same at any state. -/
theorem Step.other {ev : Operand → Option AV} {o : Oper} {st : St} {v : AV} {st' st1 : St} (s : Step P ko ev all o st v st') (hq : isHp o = false) : Step P ko ev all o st1 v st1 := by
  unfold isHp at hq
  rw [Bool.or_eq_false_iff] at hq
  have hk : kindOf o.op = .q := by
    have := hq.1
    unfold isEv at this
    cases hk : kindOf o.op <;> simp_all
  rcases s with ⟨h0, h1, rfl⟩ | ⟨h0, s⟩
  · exact .inl ⟨h0, h1, rfl⟩
  · rcases s with h1 | ⟨g, as, h2, _⟩
    · refine .inr ⟨h0, .inl ?_⟩
      unfold evOp at h1 ⊢
      rw [hk] at h1 ⊢
      simp only at h1 ⊢
      split at h1
      · rename_i u hu
        simp only [Option.some.injEq, Prod.mk.injEq] at h1
        rw [evQ_heap hq.2] at hu
        rw [hu, h1.1]
      · cases h1
    · rw [hk] at h2; cases h2
end

theorem ordOne_spec {anc : T Nat} {i : Nat} {o : Oper} : ∀ {ps : List Oper} {j : Nat}, ordOne anc i o ps j = true → ∀ k p, ps[k]? = some p → ((isEv p && isHp o) || (isHp p && isEv o)) = true → (an anc i).testBit (j + k) = true
  | [], j, _, k, p, h, _ => by simp at h
  | q :: ps, j, h, k, p, hk, hp => by
    simp only [ordOne, Bool.and_eq_true] at h
    cases k with
    | zero =>
      simp at hk; subst hk
      have := h.1
      rw [hp] at this
      simpa using this
    | succ k =>
      rw [show j + (k + 1) = j + 1 + k by omega]
      exact ordOne_spec h.2 k p (by simpa using hk) hp
theorem ordOk_spec {anc : T Nat} {all : List Oper} : ∀ {os : List Oper} {i : Nat}, ordOk anc all os i = true → ∀ k o, os[k]? = some o → ∀ j p, j < i + k → all[j]? = some p → ((isEv p && isHp o) || (isHp p && isEv o)) = true → (an anc (i + k)).testBit j = true
  | [], i, _, k, o, h, _, _, _, _, _ => by simp at h
  | o' :: os, i, h, k, o, hk, j, p, hj, hp, hc => by
    simp only [ordOk, Bool.and_eq_true] at h
    cases k with
    | zero =>
      simp at hk; subst hk
      have := ordOne_spec h.1 j p (by rw [List.getElem?_take, if_pos (by omega)]; exact hp) hc
      simpa using this
    | succ k =>
      rw [show i + (k + 1) = i + 1 + k by omega] at hj ⊢
      exact ordOk_spec h.2 k o (by simpa using hk) j p hj hp hc

section
variable {A : Array Oper} {n : Nat} {tm0 : T AV} {st0 : St} {L : List TE} {locE : Loc} {tmE : T AV} {stE : St} {ρ0 : Rho} {w0 : World}
/-- How far the region is. -/
structure InvS (D : List Deferred) (A : Array Oper) (n : Nat) (tm0 : T AV) (st0 : St) (L : List TE) (stE : St) (ρ0 : Rho) (w0 : World) (listed : Array Bool) (ρ : Rho) (a : Act) (w : World) : Prop where
  size : listed.size = A.size
  closed : ∀ j o, isL listed j = true → A[j]? = some o → ∀ e ∈ preds o, isL listed e = true
  asize : a.tmps.size = n
  defers : a.defers = D
  init : ∀ t v, tm0.get t = some v → (∀ j o, isL listed j = true → A[j]? = some o → o.dst ≠ some t) → t < n ∧ RelV ρ v (a.tmps.getD t undef)
  vals : ∀ j o e, isL listed j = true → A[j]? = some o → L[j]? = some e → ∀ t, o.dst = some t → RelV ρ e.v (a.tmps.getD t undef)
  world : ∃ c, c ≤ A.size ∧ (∀ j o, A[j]? = some o → isEv o = true → (isL listed j = true ↔ j < c)) ∧ RelH ρ (stA L stE c) w ∧ Fr ρ0 st0 w0 ρ (stA L stE c) w

variable {listed : Array Bool} {ρ : Rho} {a : Act} {w : World}
theorem InvS.pred (I : InvS D A n tm0 st0 L stE ρ0 w0 listed ρ a w) {i : Nat} {o : Oper} (ho : A[i]? = some o) (hpre : ∀ e ∈ preds o, isL listed e = true) {j : Nat} (hj : (an (ancs A.toList 0 .leaf) i).testBit j = true) : isL listed j = true := by
  have S := (ancs_spec A.toList 0 .leaf (fun i _ => T.get_leaf i)).2 i o (by simpa using ho)
  obtain ⟨t', g1, g2, g3⟩ := S
  rw [Nat.zero_add] at g1 g2 g3
  unfold an at hj
  rw [g1] at hj
  simp only [Option.getD_some] at hj
  obtain ⟨e, he, hej⟩ := orP_bit hj
  rcases hej with rfl | hej
  · exact hpre _ he
  · by_cases hlt : e < i
    · rw [g2 e hlt] at hej
      exact closed_anc (L := fun k => isL listed k = true) (j := e) (fun k o hk hL hok => I.closed k o hL (by simpa using hok)) e (Nat.le_refl _) (hpre _ he) j hej
    · rw [g3 e (by omega)] at hej; simp at hej
theorem InvS.anc_listed (I : InvS D A n tm0 st0 L stE ρ0 w0 listed ρ a w) {k : Nat} (hk : isL listed k = true) {j : Nat} (hj : (an (ancs A.toList 0 .leaf) k).testBit j = true) : isL listed j = true :=
  closed_anc (L := fun k => isL listed k = true) (j := k) (fun k o _ hL hok => I.closed k o hL (by simpa using hok)) k (Nat.le_refl _) hk j hj

/-- An ancestor lies before. -/
theorem anc_lt (hpo : predsOk A.toList 0 = true) : ∀ (i j : Nat), (an (ancs A.toList 0 .leaf) i).testBit j = true → j < i := by
  intro i j hj
  cases ho : A[i]? with
  | none =>
    exfalso
    have hlen : A.toList.length ≤ i := by
      rcases Nat.lt_or_ge i A.size with h | h
      · rw [Array.getElem?_eq_getElem h] at ho; cases ho
      · simpa using h
    have key : ∀ (os : List Oper) (j : Nat) (t : T Nat) (i : Nat), j + os.length ≤ i → (ancs os j t).get i = t.get i := by
      intro os
      induction os with
      | nil => intro j t i _; rfl
      | cons o os ih => intro j t i h; simp only [ancs]; simp only [List.length_cons] at h; rw [ih _ _ _ (by omega), T.get_put_ne _ _ _ (by omega)]
    unfold an at hj
    rw [key _ _ _ _ (by omega), T.get_leaf] at hj
    simp at hj
  | some o =>
    have hlt := (Array.getElem?_eq_some_iff.1 ho).1
    have : ∀ k o', k < i → k < i → A.toList[k]? = some o' → ∀ e ∈ preds o', e < i := fun k o' hk _ hok e he => by
      have := predsOk_spec hpo k o' hok e he; omega
    obtain ⟨t', g1, g2, g3⟩ := (ancs_spec A.toList 0 .leaf (fun i _ => T.get_leaf i)).2 i o (by simpa using ho)
    rw [Nat.zero_add] at g1 g2 g3
    unfold an at hj
    rw [g1] at hj
    simp only [Option.getD_some] at hj
    obtain ⟨e, he, hej⟩ := orP_bit hj
    have hei : e < i := by have := predsOk_spec hpo i o (by simpa using ho) e he; omega
    rcases hej with rfl | hej
    · exact hei
    · rw [g2 e hei] at hej
      exact closed_anc (L := fun k => k < i) (j := e) (fun k o' _ hk hok e' he' => this k o' hk hk hok e' he') e (Nat.le_refl _) hei j hej

theorem InvS.env (I : InvS D A n tm0 st0 L stE ρ0 w0 listed ρ a w) (hT : TrD P ko keep wr (ancs A.toList 0 .leaf) A.toList A.toList 0 .nil tm0 st0 L locE tmE stE) (hwr : wrs A.toList 0 .leaf = some wr) (hpo : predsOk A.toList 0 = true)
    (hn : ∀ (j : Nat) (o : Oper) (d : Nat), A[j]? = some o → o.dst = some d → d < n) {i : Nat} {o : Oper} (ho : A[i]? = some o) (hi : isL listed i = false) (hpre : ∀ e ∈ preds o, isL listed e = true) :
    RelG D ρ (evD keep wr (ancs A.toList 0 .leaf) i (locA L locE i) (tmA L tmE i)) n a := by
  obtain ⟨_, ws2, ws3⟩ := wrs_spec hwr
  have hlt : i < A.size := (Array.getElem?_eq_some_iff.1 ho).1
  have hlen : A.toList.length = A.size := by simp
  refine ⟨I.asize, I.defers, fun t v e => ?_⟩
  have e' : (bif safeS wr (ancs A.toList 0 .leaf) i t then slotE keep (locA L locE i) (tmA L tmE i) t else none) = some v := e
  cases hs : safeS wr (ancs A.toList 0 .leaf) i t with
  | false => rw [hs] at e'; cases e'
  | true =>
    rw [hs] at e'
    have e1 : slotE keep (locA L locE i) (tmA L tmE i) t = some v := e'
    -- what was there before the region
    have old : (∀ (j : Nat) (o : Oper), j < i → A.toList[j]? = some o → o.dst ≠ some t) → (∀ j o, isL listed j = true → A[j]? = some o → o.dst ≠ some t) → t < n ∧ RelV ρ v (a.tmps.getD t undef) := by
      intro h1 h2
      rw [hT.kept t i (by omega) h1] at e1
      unfold slotE at e1
      cases hb : keep.testBit t with
      | true => rw [hb] at e1; exact I.init t v e1 h2
      | false => rw [hb] at e1; cases e1
    have uniq : ∀ {j j' : Nat} {o o' : Oper}, A.toList[j]? = some o → o.dst = some t → A.toList[j']? = some o' → o'.dst = some t → j' = j := by
      intro j j' o1 o2 h1 h2 h3 h4
      have a1 := ws2 j o1 t h1 h2
      have a2 := ws2 j' o2 t h3 h4
      rw [a1] at a2; simp at a2; omega
    unfold safeS at hs
    cases hw : wr.get t with
    | none =>
      have none' : ∀ (j : Nat) (o : Oper), A.toList[j]? = some o → o.dst ≠ some t := fun j o' h1 h2 => by
        have := ws2 j o' t h1 h2
        rw [hw] at this; cases this
      exact old (fun j o' _ h1 => none' j o' h1) (fun j o' _ h1 => none' j o' (by simpa using h1))
    | some j =>
      rw [hw] at hs
      simp only [Bool.or_eq_true] at hs
      obtain ⟨oj, hj1, hj2⟩ : ∃ oj, A.toList[j]? = some oj ∧ oj.dst = some t := by
        rcases ws3 t j hw with h | ⟨k, o', h1, h2, h3⟩
        · rw [T.get_leaf] at h; cases h
        · rw [Nat.zero_add] at h1; subst h1; exact ⟨o', h2, h3⟩
      rcases hs with (hs | hs) | hs
      · have hL := I.pred ho hpre hs
        have hji := anc_lt hpo i j hs
        obtain ⟨ej, g1, _⟩ := hT.step j oj hj1
        rw [hT.wrote t hj1 hj2 g1 (fun j' o' h1 h2 => uniq hj1 hj2 h1 h2) i hji (by omega)] at e1
        cases e1
        exact ⟨hn j oj t (by simpa using hj1) hj2, I.vals j oj ej hL (by simpa using hj1) g1 t hj2⟩
      · have hji := Nat.eq_of_beq_eq_true hs
        refine old (fun j' o' hj' h1 h2 => ?_) (fun j' o' hL h1 h2 => ?_)
        · have := uniq hj1 hj2 h1 h2; omega
        · have := uniq hj1 hj2 (by simpa using h1) h2
          rw [this, hji, hi] at hL; cases hL
      · have hij := anc_lt hpo j i hs
        refine old (fun j' o' hj' h1 h2 => ?_) (fun j' o' hL h1 h2 => ?_)
        · have := uniq hj1 hj2 h1 h2; omega
        · have := uniq hj1 hj2 (by simpa using h1) h2
          rw [this] at hL
          have := I.anc_listed hL hs
          rw [hi] at this; cases this

/-- The slots behind operation i. -/
theorem InvS.next (I : InvS D A n tm0 st0 L stE ρ0 w0 listed ρ a w) (hwr : wrs A.toList 0 .leaf = some wr)
    (hn : ∀ (j : Nat) (o : Oper) (d : Nat), A[j]? = some o → o.dst = some d → d < n) {i : Nat} {o : Oper} (ho : A[i]? = some o) (hi : isL listed i = false) (hpre : ∀ e ∈ preds o, isL listed e = true) {e : TE} (he : L[i]? = some e)
    {ρ' : Rho} {y : Value} {w' : World} (hx : Ext ρ ρ') (hy : RelV ρ' e.v y)
    (hW : ∃ c, c ≤ A.size ∧ (∀ j o, A[j]? = some o → isEv o = true → (isL (listed.setIfInBounds i true) j = true ↔ j < c)) ∧ RelH ρ' (stA L stE c) w' ∧ Fr ρ0 st0 w0 ρ' (stA L stE c) w') :
    InvS D A n tm0 st0 L stE ρ0 w0 (listed.setIfInBounds i true) ρ' (a.put o.dst y) w' := by
  obtain ⟨_, ws2, ws3⟩ := wrs_spec hwr
  have hlt : i < A.size := (Array.getElem?_eq_some_iff.1 ho).1
  have hls : i < listed.size := by rw [I.size]; exact hlt
  have uniq : ∀ {j j' : Nat} {o1 o2 : Oper} {t : Nat}, A[j]? = some o1 → o1.dst = some t → A[j']? = some o2 → o2.dst = some t → j' = j := by
    intro j j' o1 o2 t h1 h2 h3 h4
    have a1 := ws2 j o1 t (by simpa using h1) h2
    have a2 := ws2 j' o2 t (by simpa using h3) h4
    rw [a1] at a2; simp at a2; omega
  have other : ∀ t, o.dst ≠ some t → (a.put o.dst y).tmps.getD t undef = a.tmps.getD t undef := by
    intro t ht
    cases hd : o.dst with
    | none => rfl
    | some d =>
      have hne : d ≠ t := fun e => ht (by rw [hd, e])
      simp [Act.put, Array.getD_eq_getD_getElem?, Array.getElem?_setIfInBounds_ne hne]
  refine ⟨by simp [I.size], fun j o' hj hjo e' he' => ?_, by cases o.dst <;> simp [Act.put, I.asize], by cases o.dst <;> simp [Act.put, I.defers], fun t v h1 h2 => ?_, fun j o' e' hj hjo hje t hd => ?_, hW⟩
  · rw [isL_set hls, Bool.or_eq_true, decide_eq_true_eq] at hj
    rw [isL_set hls, Bool.or_eq_true]
    rcases hj with hj | rfl
    · exact .inl (I.closed j o' hj hjo e' he')
    · rw [ho] at hjo; cases hjo
      exact .inl (hpre e' he')
  · have hne : o.dst ≠ some t := h2 i o (by rw [isL_set hls]; simp) ho
    obtain ⟨g1, g2⟩ := I.init t v h1 (fun j o' hj hjo => h2 j o' (by rw [isL_set hls, hj]; rfl) hjo)
    exact ⟨g1, by rw [other t hne]; exact RelV.mono hx _ _ g2⟩
  · rw [isL_set hls, Bool.or_eq_true, decide_eq_true_eq] at hj
    by_cases hji : j = i
    · subst hji
      rw [ho] at hjo; cases hjo
      rw [he] at hje; cases hje
      have htn := hn j o t ho hd
      rw [hd]
      simp [Act.put, I.asize, htn]
      exact hy
    · have hL : isL listed j = true := hj.resolve_right hji
      have hne : o.dst ≠ some t := fun h => hji (uniq ho h hjo hd)
      rw [other t hne]
      exact RelV.mono hx _ _ (I.vals j o' e' hL hjo hje t hd)

theorem seqD_any (hko : CallOk P ko) (hT : TrD P ko keep wr (ancs A.toList 0 .leaf) A.toList A.toList 0 .nil tm0 st0 L locE tmE stE) (hwr : wrs A.toList 0 .leaf = some wr) (hpo : predsOk A.toList 0 = true) (hord : ordOk (ancs A.toList 0 .leaf) A.toList A.toList 0 = true)
    (hn : ∀ (j : Nat) (o : Oper) (d : Nat), A[j]? = some o → o.dst = some d → d < n) {Q : Exit → Act → World → Prop}
    (hQ : ∀ listed ρ a w, InvS D A n tm0 st0 L stE ρ0 w0 listed ρ a w → (∀ i, i < A.size → isL listed i = true) → Q .normal a w) :
    ∀ (fuel : Nat) (l : List Nat) (listed : Array Bool) (ρ : Rho) (a : Act) (w : World), InvS D A n tm0 st0 L stE ρ0 w0 listed ρ a w → l.length ≤ fuel → (∀ i, i < A.size → isL listed i = false → i ∈ l) → wpAny P .any A Q fuel listed a w := by
  intro fuel
  induction fuel with
  | zero =>
    intro l listed ρ a w I hl hall
    have hl0 : l = [] := List.length_eq_zero_iff.1 (by omega)
    subst hl0
    have hL : ∀ i, i < A.size → isL listed i = true := fun i hi => by
      cases h : isL listed i with
      | true => rfl
      | false => have := hall i hi h; simp at this
    refine ⟨?_, hQ listed ρ a w I hL⟩
    rw [List.eq_nil_iff_forall_not_mem]
    intro i hi
    obtain ⟨h1, o, ho, _⟩ := mem_ready.1 hi
    have hlt : i < A.size := (Array.getElem?_eq_some_iff.1 ho).1
    have := hL i hlt
    unfold isL at this
    rw [Array.getD_eq_getD_getElem?, Array.getElem?_eq_getElem (by rw [I.size]; exact hlt)] at this h1
    simp at this h1
    rw [this] at h1; cases h1
  | succ fuel ih =>
    intro l listed ρ a w I hl hall
    have ready : ∀ i, isL listed i = false → i < A.size → (∀ o, A[i]? = some o → ∀ e ∈ preds o, isL listed e = true) → i ∈ Region.ready .any A listed := by
      intro i hi hlt hpre
      refine mem_ready.2 ⟨?_, A[i], Array.getElem?_eq_getElem hlt, fun e he hb => hpre _ (Array.getElem?_eq_getElem hlt) e.on ?_⟩
      · unfold isL at hi
        rw [Array.getD_eq_getD_getElem?, Array.getElem?_eq_getElem (by rw [I.size]; exact hlt)] at hi ⊢
        simpa using hi
      · unfold preds
        rw [List.mem_map]
        exact ⟨e, List.mem_filter.2 ⟨by simpa using he, hb⟩, rfl⟩
    refine ⟨fun hempty => hQ listed ρ a w I (fun i => ?_), fun i hi => ?_⟩
    · induction i using Nat.strongRecOn with
      | _ i ihh =>
        intro hlt
        cases h : isL listed i with
        | true => rfl
        | false =>
          exfalso
          have := ready i h hlt (fun o ho e he => by
            have hp := predsOk_spec hpo i o (by simpa using ho) e he
            exact ihh e (by omega) (by omega))
          rw [hempty] at this; simp at this
    · obtain ⟨h1, o, ho, hpre⟩ := mem_ready.1 hi
      have hlt : i < A.size := (Array.getElem?_eq_some_iff.1 ho).1
      have hls : i < listed.size := by rw [I.size]; exact hlt
      have hiL : isL listed i = false := by
        unfold isL
        rw [Array.getD_eq_getD_getElem?, Array.getElem?_eq_getElem (by rw [I.size]; exact hlt)] at h1 ⊢
        simpa using h1
      have hpre' : ∀ e ∈ preds o, isL listed e = true := by
        intro e he
        unfold preds at he
        rw [List.mem_map] at he
        obtain ⟨e', he', rfl⟩ := he
        have := List.mem_filter.1 he'
        exact hpre e' (by simpa using this.1) this.2
      have hoL : A.toList[i]? = some o := by simpa using ho
      obtain ⟨e, g1, s, g3, g4, _, _, g7, g8⟩ := hT.step i o hoL
      rw [Nat.zero_add, ← g7, ← g8] at s
      have G := I.env hT hwr hpo hn ho hiL hpre'
      obtain ⟨c, hc, hev, H, F⟩ := I.world
      -- where the operation looks at the world, the state is its own
      have same : isHp o = true → stA L stE c = e.st := by
        intro hp
        have key : ∀ j p, A[j]? = some p → isEv p = true → (j < c ↔ j < i) := by
          intro j p hj hpe
          rw [← hev j p hj hpe]
          have hjL : A.toList[j]? = some p := by simpa using hj
          constructor
          · intro hL
            rcases Nat.lt_trichotomy j i with h | h | h
            · exact h
            · rw [h, hiL] at hL; cases hL
            · exfalso
              have hh : isHp p = true := by unfold isHp; rw [hpe]; rfl
              have := ordOk_spec hord j p hjL i o (by omega) hoL (by rw [hp, hpe]; simp)
              rw [Nat.zero_add] at this
              have := I.anc_listed hL this
              rw [hiL] at this; cases this
          · intro h
            have := ordOk_spec hord i o hoL j p (by omega) hjL (by rw [hp, hpe]; rfl)
            rw [Nat.zero_add] at this
            exact I.pred ho hpre' this
        rw [← g3]
        rcases Nat.le_total i c with h | h
        · refine hT.stay c h (by simpa using hc) (fun j p h2 h3 hj => ?_)
          cases hp' : isEv p with
          | false => rfl
          | true =>
            have := (key j p (by simpa using hj) hp').1 h3
            omega
        · refine (hT.stay i h (by simp; omega) (fun j p h2 h3 hj => ?_)).symm
          cases hp' : isEv p with
          | false => rfl
          | true =>
            have := (key j p (by simpa using hj) hp').2 h3
            omega
      refine step_sound (st := stA L stE c) (v := e.v) (st' := if isHp o then e.st' else stA L stE c) hko (evD_base _ _ _ _ _ _) ho ?_ G H (fun y ρ' w' k1 k2 k3 => ?_)
      · cases hp : isHp o with
        | true => rw [same hp, if_pos rfl]; exact s
        | false => rw [if_neg (by simp)]; exact s.other hp
      · refine ih (l.erase i) _ ρ' _ w' (I.next hwr hn ho hiL hpre' g1 (k3.ext H) k1 ?_) (by have := List.length_erase_of_mem (hall i hlt hiL); omega) (fun j hj hjL => ?_)
        · cases hpe : isEv o with
          | true =>
            have hp : isHp o = true := by unfold isHp; rw [hpe]; rfl
            rw [if_pos hp] at k2 k3
            refine ⟨i + 1, by omega, fun j p hj hjp => ?_, by rw [g4]; exact k2, by rw [g4]; exact F.trans k3⟩
            rw [isL_set hls, Bool.or_eq_true, decide_eq_true_eq]
            have hjL : A.toList[j]? = some p := by simpa using hj
            have hh : isHp p = true := by unfold isHp; rw [hjp]; rfl
            constructor
            · rintro (hL | rfl)
              · rcases Nat.lt_trichotomy j i with h | h | h
                · omega
                · omega
                · exfalso
                  have := ordOk_spec hord j p hjL i o (by omega) hoL (by rw [hpe, hh]; rfl)
                  rw [Nat.zero_add] at this
                  have := I.anc_listed hL this
                  rw [hiL] at this; cases this
              · omega
            · intro h
              by_cases hji : j = i
              · exact .inr hji
              · have := ordOk_spec hord i o hoL j p (by omega) hjL (by rw [hjp, hp]; rfl)
                rw [Nat.zero_add] at this
                exact .inl (I.pred ho hpre' this)
          | false =>
            have hst : (if isHp o then e.st' else stA L stE c) = stA L stE c := by
              cases hp : isHp o with
              | false => rw [if_neg (by simp)]
              | true => rw [if_pos rfl, s.still hpe, same hp]
            rw [hst] at k2 k3
            refine ⟨c, hc, fun j p hj hjp => ?_, k2, F.trans k3⟩
            rw [isL_set hls, Bool.or_eq_true, decide_eq_true_eq, ← hev j p hj hjp]
            constructor
            · rintro (h | rfl)
              · exact h
              · rw [ho] at hj; cases hj; rw [hpe] at hjp; cases hjp
            · exact .inl
        · rw [isL_set hls, Bool.or_eq_false_iff, decide_eq_false_iff_not] at hjL
          exact (List.mem_erase_of_ne hjL.2).2 (hall j hj hjL.1)

theorem seqD_sound (hko : CallOk P ko) (hm : P.follows .mixedOrders = true) {id : Nat} (hT : TrD P ko keep wr (ancs A.toList 0 .leaf) A.toList A.toList 0 .nil tm0 st0 L locE tmE stE) (hwr : wrs A.toList 0 .leaf = some wr) (hpo : predsOk A.toList 0 = true) (hord : ordOk (ancs A.toList 0 .leaf) A.toList A.toList 0 = true)
    (hn : ∀ (j : Nat) (o : Oper) (d : Nat), A[j]? = some o → o.dst = some d → d < n) {ρ : Rho} {a : Act} {w : World} {Q : Exit → Act → World → Prop} (hA : RelT D ρ keep tm0 n a) (hH : RelH ρ st0 w)
    (hQ : ∀ ρ' a' w', RelT D ρ' keep tmE n a' → RelH ρ' stE w' → Fr ρ st0 w ρ' stE w' → Q .normal a' w') : (Code.region id A true).wp P Q a w := by
  refine wp_region_any hm ?_
  have hL0 : ∀ j, isL (Array.replicate A.size false) j = false := by
    intro j
    unfold isL
    rw [Array.getD_eq_getD_getElem?, Array.getElem?_replicate]
    split <;> rfl
  have hlen : A.toList.length = A.size := by simp
  have I : InvS D A n tm0 st0 L stE ρ w (Array.replicate A.size false) ρ a { w with drawn := w.drawn + 1 } := by
    refine ⟨by simp, fun j o h => ?_, hA.rel.size, hA.rel.defers, fun t v h _ => hA.rel.rel t v h, fun j o e h => ?_, 0, Nat.zero_le _, fun j o _ _ => ?_, ?_, ?_⟩
    · rw [hL0] at h; cases h
    · rw [hL0] at h; cases h
    · rw [hL0]; simp
    · rw [hT.at0.1]; exact hH.drew
    · rw [hT.at0.1]
      exact ⟨Nat.le_refl _, fun _ _ => rfl, fun i p h e => absurd (hH.dom i p e).1 (by omega), fun _ o h _ => ⟨o, h⟩, Nat.le_refl _, rfl, rfl, rfl, fun _ _ _ => rfl, fun i o _ h hc _ => ⟨i, o, h, hc⟩⟩
  refine seqD_any (ρ0 := ρ) (w0 := w) hko hT hwr hpo hord hn (fun listed ρ' a' w' I' hall => ?_) A.size (List.range A.size) (Array.replicate A.size false) ρ a _ I (by simp) (fun i hi _ => List.mem_range.2 hi)
  obtain ⟨c, hc, hev, H, F⟩ := I'.world
  obtain ⟨e1, e2, e3⟩ := hT.ends
  have hst : stA L stE c = stE := by
    have key := hT.stay (k := c) A.toList.length (by omega) (Nat.le_refl _) (fun j p h2 h3 hj => by
      cases hp : isEv p with
      | false => rfl
      | true =>
        have := (hev j p (by simpa using hj) hp).1 (hall j (by omega))
        omega)
    rw [e3] at key
    exact key.symm
  rw [hst] at H F
  refine hQ ρ' a' w' ⟨⟨I'.asize, I'.defers, fun t v ht => ?_⟩, ?_⟩ H F
  · have hk : keep.testBit t = true := hT.dom hA.dom A.toList.length (Nat.le_refl _) t v (by rw [e2]; exact ht)
    have hs : slotE keep (locA L locE A.toList.length) (tmA L tmE A.toList.length) t = some v := by
      rw [e1, e2]
      unfold slotE
      rw [hk]; exact ht
    obtain ⟨_, ws2, _⟩ := wrs_spec hwr
    by_cases hw : ∃ (j : Nat) (o : Oper), A.toList[j]? = some o ∧ o.dst = some t
    · obtain ⟨j, o, h1, h2⟩ := hw
      obtain ⟨e, g1, _⟩ := hT.step j o h1
      have hjl : j < A.size := by
        have := (List.getElem?_eq_some_iff.1 h1).1
        omega
      rw [hT.wrote t h1 h2 g1 (fun j' o' h3 h4 => by
        have a1 := ws2 j o t h1 h2
        have a2 := ws2 j' o' t h3 h4
        rw [a1] at a2; simp at a2; omega) _ (by omega) (Nat.le_refl _)] at hs
      cases hs
      exact ⟨hn j o t (by simpa using h1) h2, I'.vals j o e (hall j hjl) (by simpa using h1) g1 t h2⟩
    · have hno : ∀ (j : Nat) (o : Oper), A.toList[j]? = some o → o.dst ≠ some t := fun j o h1 h2 => hw ⟨j, o, h1, h2⟩
      rw [hT.kept t _ (Nat.le_refl _) (fun j o _ h1 => hno j o h1)] at hs
      unfold slotE at hs
      rw [hk] at hs
      exact I'.init t v hs (fun j o _ h1 => hno j o (by simpa using h1))
  · intro t v ht
    exact hT.dom hA.dom A.toList.length (Nat.le_refl _) t v (by rw [e2]; exact ht)
end
end
end Go.Proofs.Ytfkfejonlfcgoaa.Ev
