/- The evaluator, part 4: EvPan3 EvPan4 EvPan5 EvPan6 EvPan7 EvPan8 EvPan9 EvRd. Made out of the texts of these names. -/
import Derived.Test.YthlcnklbeolhpaaEvAll3
import Derived.LoopN
import Derived.Recover

/-! EvPan3 -/
/- The evaluator in passing style is sound: single steps, regions in the written order. -/
namespace Go.Proofs.Ythlcnklbeolhpaa.Ev
open Go Go.RowKit
section
variable {P : Program} {D : List Deferred}

/-- The slots that an operation may read. -/
structure RelG (D : List Deferred) (ρ : Rho) (ev : Operand → Option AV) (n : Nat) (a : Act) : Prop where
  size : a.tmps.size = n
  defers : a.defers = D
  rel : ∀ t v, ev (.tmp t) = some v → t < n ∧ RelV ρ v (a.tmps.getD t undef)
/-- Constants are what they are. -/
def EvBase (ev : Operand → Option AV) : Prop := ∀ x v, ev x = some v → (∃ t, x = .tmp t) ∨ (∃ u, x = .const u ∧ v = .sc u) ∨ ∃ f, x = .func f ∧ v = .sc (.func (.func f) #[] #[])
theorem evE_base (keep : Nat) (loc : Loc) (tm : T AV) : EvBase (evE keep loc tm) := by
  intro x v h
  cases x with
  | tmp t => exact .inl ⟨t, rfl⟩
  | const u => cases h; exact .inr (.inl ⟨u, rfl, rfl⟩)
  | func f => cases h; exact .inr (.inr ⟨f, rfl, rfl⟩)
  | global g => cases h
theorem evD_base (keep : Nat) (wr anc : T Nat) (i : Nat) (loc : Loc) (tm : T AV) : EvBase (evD keep wr anc i loc tm) := by
  intro x v h
  cases x with
  | tmp t => exact .inl ⟨t, rfl⟩
  | const u => cases h; exact .inr (.inl ⟨u, rfl, rfl⟩)
  | func f => cases h; exact .inr (.inr ⟨f, rfl, rfl⟩)
  | global g => cases h
variable {ρ : Rho} {n : Nat} {a : Act}
theorem RelG.mono {ρ' : Rho} {ev : Operand → Option AV} (h : RelG D ρ ev n a) (hx : Ext ρ ρ') : RelG D ρ' ev n a :=
  ⟨h.size, h.defers, fun t v e => ⟨(h.rel t v e).1, RelV.mono hx _ _ (h.rel t v e).2⟩⟩
theorem RelG.ok {ev : Operand → Option AV} (h : RelG D ρ ev n a) (hb : EvBase ev) : EvOk ρ ev a.eval := by
  intro x v e
  rcases hb x v e with ⟨t, rfl⟩ | ⟨u, rfl, rfl⟩ | ⟨f, rfl, rfl⟩
  · exact (h.rel t v e).2
  · exact RelV.sc _
  · exact RelV.sc _
theorem RelG.wanted {ev : Operand → Option AV} (h : RelG D ρ ev n a) {ops : Array Oper} {o : Oper} {b : Bool} (e : wantedA ops.toList (fun t => ev (.tmp t)) o = some b) : Region.wanted o (yielded ops a.tmps) = b :=
  wantedA_sound (ρ := ρ) (ops := ops) (tmps := a.tmps) (fun d v hd => by rw [h.size]; exact h.rel d v hd) e
theorem RelG.putE {keep : Nat} {loc : Loc} {tm : T AV} (h : RelG D ρ (evE keep loc tm) n a) {dst : Option Tmp} {v : AV} {y : Value} (hd : ∀ d, dst = some d → d < n) (hv : RelV ρ v y) :
    RelG D ρ (evE keep (putL (compD keep dst) v loc) (putT (compD keep dst) v tm)) n (a.put dst y) := by
  refine ⟨by cases dst <;> simp [Act.put, h.size], by cases dst <;> simp [Act.put, h.defers], fun t u hu => ?_⟩
  have hu' : slotE keep (putL (compD keep dst) v loc) (putT (compD keep dst) v tm) t = some u := hu
  rw [slotE_put] at hu'
  by_cases ht : dst = some t
  · rw [if_pos ht] at hu'
    subst ht
    cases hu'
    exact ⟨hd t rfl, by simp [Act.put, h.size, hd t rfl]; exact hv⟩
  · rw [if_neg ht] at hu'
    obtain ⟨h1, h2⟩ := h.rel t u hu'
    refine ⟨h1, ?_⟩
    cases dst with
    | none => exact h2
    | some d =>
      have hne : d ≠ t := fun e => ht (by rw [e])
      have : (a.put (some d) y).tmps.getD t undef = a.tmps.getD t undef := by
        simp [Act.put, Array.getD_eq_getD_getElem?, Array.getElem?_setIfInBounds_ne hne]
      rw [this]; exact h2

variable {st : St} {w : World}
theorem isIfc_rel {v : AV} {y : Value} (h : RelV ρ v y) (hi : isIfc v = true) : ∃ t u, y = .iface t u := by
  unfold isIfc at hi
  split at hi
  · obtain ⟨u, _, rfl⟩ := relV_ifc.1 h; exact ⟨_, _, rfl⟩
  · exact ⟨_, _, relV_sc.1 h⟩
  · cases hi

theorem step_sound {ko : RKO} (hko : CallOk P ko) {ev : Operand → Option AV} (hb : EvBase ev) {A : Array Oper} {i : Nat} {o : Oper} (ho : A[i]? = some o) {v : AV} {st' : St} (s : Step P ko ev A.toList o st v st') (G : RelG D ρ ev n a) (H : RelH ρ st w)
    {K : Act → World → Prop} {Q : Exit → Act → World → Prop} (hK : ∀ y ρ' w', RelV ρ' v y → RelH ρ' st' w' → Fr ρ st w ρ' st' w' → K (a.put o.dst y) w') : wpOp P A Q i K a w := by
  unfold wpOp
  rw [ho]
  simp only
  rcases s with ⟨hw, rfl, rfl⟩ | ⟨hw, s⟩
  · rw [G.wanted hw]
    simp only [Bool.false_eq_true, if_false]
    exact hK undef ρ w (RelV.sc _) H (Fr.refl _ _ _ H)
  · rw [G.wanted hw]
    simp only [if_true]
    rcases s with h1 | ⟨g, as, _, h1, k2⟩
    · exact .inl (evOp_sound hko H (G.ok hb) h1 _ _ fun y ρ' w' g1 g2 g3 => hK y ρ' w' g1 g2 g3)
    · obtain ⟨ys, g1, g2⟩ := h1 ρ a w (G.ok hb)
      refine .inl ?_
      unfold Oper.wp
      rw [g2, Oper.upon_enter]
      refine (k2 ρ ys w g1 H).mono ?_
      rintro e w' ⟨ρ', ⟨y, rfl, q1⟩, q2, q3⟩
      exact hK y ρ' w' q1 q2 q3
theorem stepPan_sound {ev : Operand → Option AV} (hb : EvBase ev) {A : Array Oper} {i : Nat} {o : Oper} (ho : A[i]? = some o) {v : AV} {st' : St} (s : StepPan P ev A.toList o st v st') (G : RelG D ρ ev n a) (H : RelH ρ st w)
    {K : Act → World → Prop} {Q : Exit → Act → World → Prop} (hQ : ∀ y ρ' w', RelV ρ' v y → RelH ρ' st' w' → Fr ρ st w ρ' st' w' → Q (.panic [{ v := y, recovered := false }]) a w') : wpOp P A Q i K a w := by
  unfold wpOp
  rw [ho]
  simp only
  obtain ⟨hw, s⟩ := s
  rw [G.wanted hw]
  simp only [if_true]
  refine .inl ?_
  rcases s with ⟨xo, h1, h2, h3, rfl⟩ | ⟨g, as, h1, k2⟩
  · have hv := (G.ok hb) xo v h2
    obtain ⟨t, u, hy⟩ := isIfc_rel hv h3
    unfold Oper.wp execOp
    rw [h1]
    simp only
    have : (Instr.panic (a.eval xo)).run P w = .halt (.panic (a.eval xo)) w := by rw [hy]; exact run_panic_iface t u w
    rw [Sem.run_bind, this]
    exact hQ _ ρ w hv H (Fr.refl _ _ _ H)
  · obtain ⟨ys, g1, g2⟩ := h1 ρ a w (G.ok hb)
    unfold Oper.wp
    rw [g2, Oper.upon_enter]
    refine (k2 ρ ys w g1 H).mono ?_
    rintro e w' ⟨ρ', ⟨y, rfl, q1⟩, q2, q3⟩
    exact hQ y ρ' w' q1 q2 q3
end

section
variable {R : Type} {P : Program} {D : List Deferred} {bad x : R}

/-- How code goes on. -/
inductive CR where
  | norm (tm : T AV) (st : St)
  | exit (id : Nat) (tm : T AV) (st : St)
  | ret (tm : T AV) (st : St)
  | pan (v : AV) (tm : T AV) (st : St)
/-- The slots behind it. -/
def CR.tm : CR → T AV
  | .norm tm _ => tm
  | .exit _ tm _ => tm
  | .ret tm _ => tm
  | .pan _ tm _ => tm
def CR.to (kn : KN R) (kx : Nat → KN R) (kr : KN R) (kp : KP R) : CR → R
  | .norm tm st => kn tm st
  | .exit id tm st => kx id tm st
  | .ret tm st => kr tm st
  | .pan v _ st => kp v st
/-- Slots in the tree: those that stay. -/
structure RelT (D : List Deferred) (ρ : Rho) (keep : Nat) (tm : T AV) (n : Nat) (a : Act) : Prop where
  rel : RelA D ρ tm n a
  dom : ∀ t v, tm.get t = some v → keep.testBit t = true
theorem RelT.mono {ρ ρ' : Rho} {keep : Nat} {tm : T AV} {n : Nat} {a : Act} (h : RelT D ρ keep tm n a) (hx : Ext ρ ρ') : RelT D ρ' keep tm n a := ⟨h.rel.mono hx, h.dom⟩
def Post (D : List Deferred) (keep n : Nat) (ρ : Rho) (st : St) (w : World) (Q : Exit → Act → World → Prop) : CR → Prop
  | .norm tm' st' => ∀ ρ' a' w', RelT D ρ' keep tm' n a' → RelH ρ' st' w' → Fr ρ st w ρ' st' w' → Q .normal a' w'
  | .exit id tm' st' => ∀ ρ' a' w', RelT D ρ' keep tm' n a' → RelH ρ' st' w' → Fr ρ st w ρ' st' w' → Q (.exit id) a' w'
  | .ret tm' st' => ∀ ρ' a' w', RelT D ρ' keep tm' n a' → RelH ρ' st' w' → Fr ρ st w ρ' st' w' → Q .ret a' w'
  | .pan v tm' st' => ∀ ρ' (a' : Act) w' y, RelT D ρ' keep tm' n a' → RelV ρ' v y → RelH ρ' st' w' → Fr ρ st w ρ' st' w' → Q (.panic [{ v := y, recovered := false }]) a' w'
theorem Post.trans {keep n : Nat} {ρ ρ1 : Rho} {st st1 : St} {w w1 : World} {Q : Exit → Act → World → Prop} (F : Fr ρ st w ρ1 st1 w1) : ∀ {r : CR}, Post D keep n ρ st w Q r → Post D keep n ρ1 st1 w1 Q r
  | .norm _ _, h => fun ρ' a' w' k1 k2 k3 => h ρ' a' w' k1 k2 (F.trans k3)
  | .exit _ _ _, h => fun ρ' a' w' k1 k2 k3 => h ρ' a' w' k1 k2 (F.trans k3)
  | .ret _ _, h => fun ρ' a' w' k1 k2 k3 => h ρ' a' w' k1 k2 (F.trans k3)
  | .pan _ _ _, h => fun ρ' a' w' y k0 k1 k2 k3 => h ρ' a' w' y k0 k1 k2 (F.trans k3)

theorem putT_ne {keep : Nat} {tm : T AV} {dst : Option Tmp} {v : AV} {t : Nat} (h : dst ≠ some t) : (putT (compD keep dst) v tm).get t = tm.get t := by
  cases dst with
  | none => rfl
  | some d =>
    unfold compD
    simp only
    cases hb : keep.testBit d with
    | false => rfl
    | true => exact T.get_put_ne _ _ _ (fun e => h (by rw [e]))
theorem putT_dom {keep : Nat} {tm : T AV} (h : ∀ t v, tm.get t = some v → keep.testBit t = true) (dst : Option Tmp) (v : AV) : ∀ t u, (putT (compD keep dst) v tm).get t = some u → keep.testBit t = true := by
  intro t u hu
  cases dst with
  | none => exact h t u hu
  | some d =>
    unfold compD at hu
    simp only at hu
    cases hb : keep.testBit d with
    | false => rw [hb] at hu; exact h t u hu
    | true =>
      rw [hb] at hu
      have hu' : (tm.put d v).get t = some u := hu
      by_cases ht : t = d
      · rw [ht]; exact hb
      · rw [T.get_put_ne _ _ _ ht] at hu'; exact h t u hu'
/-- From the tree to a region's beginning, and back. -/
theorem RelT.toG {ρ : Rho} {keep : Nat} {tm : T AV} {n : Nat} {a : Act} (h : RelT D ρ keep tm n a) : RelG D ρ (evE keep .nil tm) n a := by
  refine ⟨h.rel.size, h.rel.defers, fun t v e => h.rel.rel t v ?_⟩
  have e' : slotE keep .nil tm t = some v := e
  unfold slotE at e'
  cases hb : keep.testBit t with
  | true => rw [hb] at e'; exact e'
  | false => rw [hb] at e'; cases e'
theorem RelG.toT {ρ : Rho} {keep : Nat} {loc : Loc} {tm : T AV} {n : Nat} {a : Act} (h : RelG D ρ (evE keep loc tm) n a) (hd : ∀ t v, tm.get t = some v → keep.testBit t = true) : RelT D ρ keep tm n a := by
  refine ⟨⟨h.size, h.defers, fun t v e => h.rel t v ?_⟩, hd⟩
  show slotE keep loc tm t = some v
  unfold slotE
  rw [hd t v e]; exact e

theorem okOps_dst {m n : Nat} (hmn : m ≤ n) : ∀ {os : List Oper}, okOps m os = true → ∀ (k : Nat) (o : Oper) (d : Nat), os[k]? = some o → o.dst = some d → d < n
  | [], _, k, o, d, h, _ => by simp at h
  | o :: os, h, k, o', d, hk, hd => by
    simp only [okOps, Bool.and_eq_true] at h
    cases k with
    | zero =>
      simp at hk; subst hk
      have h1 := h.1
      rw [hd] at h1
      exact Nat.lt_of_lt_of_le (Nat.blt_eq ▸ h1) hmn
    | succ k => exact okOps_dst hmn h.2 k o' d (by simpa using hk) hd

theorem seqR_sound {rk : RKK R} {ko : RKO} (hrk : RKOk P bad rk) (hko : CallOk P ko) {keep n : Nat} {ops : Array Oper} (hdst : ∀ (k : Nat) (o : Oper) (d : Nat), ops[k]? = some o → o.dst = some d → d < n) :
    ∀ (os : List Oper) (i : Nat), ops.toList.drop i = os → ∀ (loc : Loc) (tm : T AV) (st : St) (kn : KN R) (kp : KP R) (x : R), seqR P bad keep rk ko ops.toList os loc tm st kn kp = x → x ≠ bad →
      ∃ r : CR, r.to kn (fun _ _ _ => bad) (fun _ _ => bad) kp = x ∧ (∀ t, (∀ o ∈ os, o.dst ≠ some t) → r.tm.get t = tm.get t) ∧ ∀ D ρ a w Q, RelG D ρ (evE keep loc tm) n a → (∀ t v, tm.get t = some v → keep.testBit t = true) → RelH ρ st w → Post D keep n ρ st w Q r → wpOps P ops Q (List.range' i os.length) a w
  | [], i, _, loc, tm, st, kn, kp, x, e, hx => ⟨.norm tm st, e, fun _ _ => rfl, fun D ρ a w Q hA hd hH hQ => hQ ρ a w (hA.toT hd) hH (Fr.refl _ _ _ hH)⟩
  | o :: os, i, hd, loc, tm, st, kn, kp, x, e, hx => by
    have hlt : i < ops.toList.length := by
      rcases Nat.lt_or_ge i ops.toList.length with h | h
      · exact h
      · rw [List.drop_eq_nil_of_le h] at hd; cases hd
    have ho : ops[i]? = some o := by
      rw [List.drop_eq_getElem_cons hlt] at hd
      have := (List.cons.inj hd).1
      rw [← this]; simp at hlt ⊢
    have hd' : ops.toList.drop (i + 1) = os := by
      rw [List.drop_eq_getElem_cons hlt] at hd
      exact (List.cons.inj hd).2
    have ih := seqR_sound hrk hko (keep := keep) hdst (ops := ops) os (i + 1) hd'
    have e' : (opC P bad (compX keep) (evE keep) keep ops.toList o).run rk ko (seqR P bad keep rk ko ops.toList os) loc tm st kn kp = x := e
    have unf : ∀ {Q : Exit → Act → World → Prop} {a : Act} {w : World}, wpOp P ops Q i (wpOps P ops Q (List.range' (i + 1) os.length)) a w → wpOps P ops Q (List.range' i (o :: os).length) a w := by
      intro Q a w h
      rw [List.length_cons, List.range'_succ, wpOps_cons]
      exact h
    rcases opC_inv (cxE_ok keep) hrk e' hx with ⟨v, st', s, h2⟩ | ⟨v, st', s, h2⟩
    · obtain ⟨r, k1, k0, k2⟩ := ih _ _ _ _ _ _ h2 hx
      refine ⟨r, k1, fun t ht => by rw [k0 t (fun o' ho' => ht o' (List.mem_cons_of_mem _ ho')), putT_ne (ht o (List.mem_cons_self ..))], fun D ρ a w Q hA hdm hH hQ => unf (step_sound hko (evE_base _ _ _) ho s hA hH fun y ρ' w' g1 g2 g3 => ?_)⟩
      exact k2 D ρ' _ w' Q ((hA.mono (g3.ext hH)).putE (fun d hd => hdst i o d ho hd) g1) (putT_dom hdm _ _) g2 (hQ.trans g3)
    · refine ⟨.pan v tm st', h2, fun _ _ => rfl, fun D ρ a w Q hA hdm hH hQ => unf (stepPan_sound (evE_base _ _ _) ho s hA hH fun y ρ' w' g1 g2 g3 => ?_)⟩
      exact hQ ρ' a w' y ((hA.mono (g3.ext hH)).toT hdm) g1 g2 g3
end
end Go.Proofs.Ythlcnklbeolhpaa.Ev

/-! EvPan4 -/
/- Regions that draw their order, where what touches the world lies in one row: any order does what the written one does. -/
namespace Go.Proofs.Ythlcnklbeolhpaa.Ev
open Go Go.RowKit
section
variable {P : Program} {D : List Deferred}

/-- What is known of one operation: the slots and the state before it, what it gives, the state behind it. -/
structure TE where
  loc : Loc
  tm : T AV
  st : St
  v : AV
  st' : St
def TrD (P : Program) (ko : RKO) (keep : Nat) (wr anc : T Nat) (all : List Oper) : List Oper → Nat → Loc → T AV → St → List TE → Loc → T AV → St → Prop
  | [], _, loc, tm, st, L, locE, tmE, stE => L = [] ∧ locE = loc ∧ tmE = tm ∧ stE = st
  | o :: os, i, loc, tm, st, L, locE, tmE, stE => ∃ v st' L', L = ⟨loc, tm, st, v, st'⟩ :: L' ∧ Step P ko (evD keep wr anc i loc tm) all o st v st' ∧
      TrD P ko keep wr anc all os (i + 1) (putL (compD keep o.dst) v loc) (putT (compD keep o.dst) v tm) st' L' locE tmE stE

theorem seqD_inv {R : Type} {bad x : R} {rk : RKK R} {ko : RKO} (hrk : RKOk P bad rk) {keep : Nat} {wr anc : T Nat} {all : List Oper} : ∀ (os : List Oper) (i : Nat) (loc : Loc) (tm : T AV) (st : St) (kn : KN R), seqD P bad keep rk ko wr anc all os i loc tm st kn (fun _ _ => bad) = x → x ≠ bad →
    ∃ L locE tmE stE, kn tmE stE = x ∧ TrD P ko keep wr anc all os i loc tm st L locE tmE stE
  | [], i, loc, tm, st, kn, e, _ => ⟨[], loc, tm, st, e, rfl, rfl, rfl, rfl⟩
  | o :: os, i, loc, tm, st, kn, e, hx => by
    have e' : (opC P bad (cxD keep wr anc i) (evD keep wr anc i) keep all o).run rk ko (seqD P bad keep rk ko wr anc all os (Nat.succ i)) loc tm st kn (fun _ _ => bad) = x := e
    rcases opC_inv (cxD_ok keep wr anc i) hrk e' hx with ⟨v, st', s, h2⟩ | ⟨v, st', s, h2⟩
    · obtain ⟨L, locE, tmE, stE, h3, h4⟩ := seqD_inv hrk os (Nat.succ i) _ _ _ _ h2 hx
      exact ⟨⟨loc, tm, st, v, st'⟩ :: L, locE, tmE, stE, h3, v, st', L, rfl, s, h4⟩
    · exact absurd h2.symm hx

/-- The state before operation k. -/
def stA (L : List TE) (stE : St) (k : Nat) : St := match L[k]? with | some e => e.st | none => stE
def locA (L : List TE) (locE : Loc) (k : Nat) : Loc := match L[k]? with | some e => e.loc | none => locE
def tmA (L : List TE) (tmE : T AV) (k : Nat) : T AV := match L[k]? with | some e => e.tm | none => tmE

variable {ko : RKO} {keep : Nat} {wr anc : T Nat} {all : List Oper}
theorem TrD.at0 {os : List Oper} {i : Nat} {loc : Loc} {tm : T AV} {st : St} {L : List TE} {locE : Loc} {tmE : T AV} {stE : St} (h : TrD P ko keep wr anc all os i loc tm st L locE tmE stE) : stA L stE 0 = st ∧ locA L locE 0 = loc ∧ tmA L tmE 0 = tm := by
  cases os with
  | nil => obtain ⟨rfl, rfl, rfl, rfl⟩ := h; exact ⟨rfl, rfl, rfl⟩
  | cons o os => obtain ⟨v, st', L', rfl, _, _⟩ := h; exact ⟨rfl, rfl, rfl⟩
theorem TrD.step : ∀ {os : List Oper} {i : Nat} {loc : Loc} {tm : T AV} {st : St} {L : List TE} {locE : Loc} {tmE : T AV} {stE : St}, TrD P ko keep wr anc all os i loc tm st L locE tmE stE →
    ∀ (k : Nat) (o : Oper), os[k]? = some o → ∃ e, L[k]? = some e ∧ Step P ko (evD keep wr anc (i + k) e.loc e.tm) all o e.st e.v e.st' ∧ stA L stE k = e.st ∧ stA L stE (k + 1) = e.st' ∧
      locA L locE (k + 1) = putL (compD keep o.dst) e.v (locA L locE k) ∧ tmA L tmE (k + 1) = putT (compD keep o.dst) e.v (tmA L tmE k) ∧ locA L locE k = e.loc ∧ tmA L tmE k = e.tm
  | [], i, loc, tm, st, L, locE, tmE, stE, h, k, o, hk => by simp at hk
  | o' :: os, i, loc, tm, st, L, locE, tmE, stE, h, k, o, hk => by
    obtain ⟨v, st', L', rfl, s, h'⟩ := h
    cases k with
    | zero =>
      simp at hk; subst hk
      obtain ⟨g1, g2, g3⟩ := h'.at0
      exact ⟨_, rfl, s, rfl, g1, g2, g3, rfl, rfl⟩
    | succ k =>
      obtain ⟨e, k1, k2, k3⟩ := TrD.step h' k o (by simpa using hk)
      exact ⟨e, k1, by rw [show i + (k + 1) = i + 1 + k by omega]; exact k2, k3⟩
theorem TrD.done : ∀ {os : List Oper} {i : Nat} {loc : Loc} {tm : T AV} {st : St} {L : List TE} {locE : Loc} {tmE : T AV} {stE : St}, TrD P ko keep wr anc all os i loc tm st L locE tmE stE → L.length = os.length
  | [], i, loc, tm, st, L, locE, tmE, stE, h => by obtain ⟨rfl, _⟩ := h; rfl
  | o :: os, i, loc, tm, st, L, locE, tmE, stE, h => by
    obtain ⟨v, st', L', rfl, s, h'⟩ := h
    simp [TrD.done h']

section
variable {os : List Oper} {loc : Loc} {tm : T AV} {st : St} {L : List TE} {locE : Loc} {tmE : T AV} {stE : St}
/-- A slot that no operation before k writes is as it was. -/
theorem TrD.kept (h : TrD P ko keep wr anc all os 0 loc tm st L locE tmE stE) (t : Nat) : ∀ k, k ≤ os.length → (∀ (j : Nat) (o : Oper), j < k → os[j]? = some o → o.dst ≠ some t) → slotE keep (locA L locE k) (tmA L tmE k) t = slotE keep loc tm t
  | 0, _, _ => by rw [h.at0.2.1, h.at0.2.2]
  | k + 1, hk, hn => by
    have ho : os[k]? = some os[k] := List.getElem?_eq_getElem (by omega)
    obtain ⟨e, _, _, _, _, g5, g6, _, _⟩ := h.step k _ ho
    rw [g5, g6, slotE_put, if_neg (hn k _ (Nat.lt_succ_self k) ho)]
    exact TrD.kept h t k (by omega) (fun j o hj hjo => hn j o (by omega) hjo)
/-- A slot that operation j alone writes holds what it gave. -/
theorem TrD.wrote (h : TrD P ko keep wr anc all os 0 loc tm st L locE tmE stE) (t : Nat) {j : Nat} {o : Oper} {e : TE} (ho : os[j]? = some o) (hd : o.dst = some t) (he : L[j]? = some e) (hu : ∀ (j' : Nat) (o' : Oper), os[j']? = some o' → o'.dst = some t → j' = j) :
    ∀ k, j < k → k ≤ os.length → slotE keep (locA L locE k) (tmA L tmE k) t = some e.v
  | 0, hj, _ => absurd hj (Nat.not_lt_zero _)
  | k + 1, hj, hk => by
    have hok : os[k]? = some os[k] := List.getElem?_eq_getElem (by omega)
    obtain ⟨e', g1, _, _, _, g5, g6, _, _⟩ := h.step k _ hok
    rw [g5, g6, slotE_put]
    by_cases hjk : j = k
    · subst hjk
      rw [ho] at hok
      have := Option.some.inj hok
      rw [← this, if_pos hd]
      rw [g1] at he; cases he; rfl
    · rw [if_neg (fun hd' => hjk (hu k _ hok hd').symm)]
      exact TrD.wrote h t ho hd he hu k (by omega) (by omega)
theorem TrD.dom (h : TrD P ko keep wr anc all os 0 loc tm st L locE tmE stE) (hd : ∀ t v, tm.get t = some v → keep.testBit t = true) : ∀ k, k ≤ os.length → ∀ t v, (tmA L tmE k).get t = some v → keep.testBit t = true
  | 0, _ => by rw [h.at0.2.2]; exact hd
  | k + 1, hk => by
    have hok : os[k]? = some os[k] := List.getElem?_eq_getElem (by omega)
    obtain ⟨e, _, _, _, _, _, g6, _, _⟩ := h.step k _ hok
    rw [g6]
    exact putT_dom (TrD.dom h hd k (by omega)) _ _
theorem TrD.unwr (h : TrD P ko keep wr anc all os 0 loc tm st L locE tmE stE) (t : Nat) (hn : ∀ o ∈ os, o.dst ≠ some t) : ∀ k, k ≤ os.length → (tmA L tmE k).get t = tm.get t
  | 0, _ => by rw [h.at0.2.2]
  | k + 1, hk => by
    have hok : os[k]? = some os[k] := List.getElem?_eq_getElem (by omega)
    obtain ⟨e, _, _, _, _, _, g6, _, _⟩ := h.step k _ hok
    rw [g6, putT_ne (hn _ (List.getElem_mem (by omega)))]
    exact TrD.unwr h t hn k (by omega)
theorem TrD.ends (h : TrD P ko keep wr anc all os 0 loc tm st L locE tmE stE) : locA L locE os.length = locE ∧ tmA L tmE os.length = tmE ∧ stA L stE os.length = stE := by
  have : L[os.length]? = none := List.getElem?_eq_none (by rw [h.done]; exact Nat.le_refl _)
  unfold locA tmA stA
  rw [this]; exact ⟨rfl, rfl, rfl⟩

/-- What only looks leaves the state. -/
theorem Step.still {ev : Operand → Option AV} {o : Oper} {st : St} {v : AV} {st' : St} (s : Step P ko ev all o st v st') (hq : isEv o = false) : st' = st := by
  have hk : kindOf o.op = .q := by
    unfold isEv at hq
    cases hk : kindOf o.op <;> simp_all
  rcases s with ⟨_, _, rfl⟩ | ⟨_, s⟩
  · rfl
  · rcases s with h1 | ⟨g, as, h0, _⟩
    · unfold evOp at h1
      rw [hk] at h1
      simp only at h1
      split at h1
      · simp only [Option.some.injEq, Prod.mk.injEq] at h1; exact h1.2.symm
      · cases h1
    · rw [hk] at h0; cases h0
theorem TrD.stay (h : TrD P ko keep wr anc all os 0 loc tm st L locE tmE stE) {k : Nat} : ∀ m, k ≤ m → m ≤ os.length → (∀ (j : Nat) (o : Oper), k ≤ j → j < m → os[j]? = some o → isEv o = false) → stA L stE m = stA L stE k
  | 0, hk, _, _ => by rw [Nat.le_zero.1 hk]
  | m + 1, hk, hm, hn => by
    by_cases hkm : k = m + 1
    · rw [hkm]
    · have hok : os[m]? = some os[m] := List.getElem?_eq_getElem (by omega)
      obtain ⟨e, _, s, g3, g4, _⟩ := h.step m _ hok
      rw [g4, s.still (hn m _ (by omega) (by omega) hok), ← g3]
      exact TrD.stay h m (by omega) (by omega) (fun j o hj hjm ho => hn j o hj (by omega) ho)
/-- What does not look at memory does the same at any state. -/
theorem Step.other {ev : Operand → Option AV} {o : Oper} {st : St} {v : AV} {st' st1 : St} (s : Step P ko ev all o st v st') (hq : isHp o = false) : Step P ko ev all o st1 v st1 := by
  unfold isHp at hq
  rw [Bool.or_eq_false_iff] at hq
  have hk : kindOf o.op = .q := by
    have := hq.1
    unfold isEv at this
    cases hk : kindOf o.op <;> simp_all
  rcases s with ⟨h0, h1, rfl⟩ | ⟨h0, s⟩
  · exact .inl ⟨h0, h1, rfl⟩
  · rcases s with h1 | ⟨g, as, h2, _⟩
    · refine .inr ⟨h0, .inl ?_⟩
      unfold evOp at h1 ⊢
      rw [hk] at h1 ⊢
      simp only at h1 ⊢
      split at h1
      · rename_i u hu
        simp only [Option.some.injEq, Prod.mk.injEq] at h1
        rw [evQ_heap hq.2] at hu
        rw [hu, h1.1]
      · cases h1
    · rw [hk] at h2; cases h2
end

theorem ordOne_spec {anc : T Nat} {i : Nat} {o : Oper} : ∀ {ps : List Oper} {j : Nat}, ordOne anc i o ps j = true → ∀ k p, ps[k]? = some p → ((isEv p && isHp o) || (isHp p && isEv o)) = true → (an anc i).testBit (j + k) = true
  | [], j, _, k, p, h, _ => by simp at h
  | q :: ps, j, h, k, p, hk, hp => by
    simp only [ordOne, Bool.and_eq_true] at h
    cases k with
    | zero =>
      simp at hk; subst hk
      have := h.1
      rw [hp] at this
      simpa using this
    | succ k =>
      rw [show j + (k + 1) = j + 1 + k by omega]
      exact ordOne_spec h.2 k p (by simpa using hk) hp
theorem ordOk_spec {anc : T Nat} {all : List Oper} : ∀ {os : List Oper} {i : Nat}, ordOk anc all os i = true → ∀ k o, os[k]? = some o → ∀ j p, j < i + k → all[j]? = some p → ((isEv p && isHp o) || (isHp p && isEv o)) = true → (an anc (i + k)).testBit j = true
  | [], i, _, k, o, h, _, _, _, _, _ => by simp at h
  | o' :: os, i, h, k, o, hk, j, p, hj, hp, hc => by
    simp only [ordOk, Bool.and_eq_true] at h
    cases k with
    | zero =>
      simp at hk; subst hk
      have := ordOne_spec h.1 j p (by rw [List.getElem?_take, if_pos (by omega)]; exact hp) hc
      simpa using this
    | succ k =>
      rw [show i + (k + 1) = i + 1 + k by omega] at hj ⊢
      exact ordOk_spec h.2 k o (by simpa using hk) j p hj hp hc

section
variable {A : Array Oper} {n : Nat} {tm0 : T AV} {st0 : St} {L : List TE} {locE : Loc} {tmE : T AV} {stE : St} {ρ0 : Rho} {w0 : World}
/-- How far the region is. -/
structure InvS (D : List Deferred) (A : Array Oper) (n : Nat) (tm0 : T AV) (st0 : St) (L : List TE) (stE : St) (ρ0 : Rho) (w0 : World) (listed : Array Bool) (ρ : Rho) (a : Act) (w : World) : Prop where
  size : listed.size = A.size
  closed : ∀ j o, isL listed j = true → A[j]? = some o → ∀ e ∈ preds o, isL listed e = true
  asize : a.tmps.size = n
  defers : a.defers = D
  init : ∀ t v, tm0.get t = some v → (∀ j o, isL listed j = true → A[j]? = some o → o.dst ≠ some t) → t < n ∧ RelV ρ v (a.tmps.getD t undef)
  vals : ∀ j o e, isL listed j = true → A[j]? = some o → L[j]? = some e → ∀ t, o.dst = some t → RelV ρ e.v (a.tmps.getD t undef)
  world : ∃ c, c ≤ A.size ∧ (∀ j o, A[j]? = some o → isEv o = true → (isL listed j = true ↔ j < c)) ∧ RelH ρ (stA L stE c) w ∧ Fr ρ0 st0 w0 ρ (stA L stE c) w

variable {listed : Array Bool} {ρ : Rho} {a : Act} {w : World}
theorem InvS.pred (I : InvS D A n tm0 st0 L stE ρ0 w0 listed ρ a w) {i : Nat} {o : Oper} (ho : A[i]? = some o) (hpre : ∀ e ∈ preds o, isL listed e = true) {j : Nat} (hj : (an (ancs A.toList 0 .leaf) i).testBit j = true) : isL listed j = true := by
  have S := (ancs_spec A.toList 0 .leaf (fun i _ => T.get_leaf i)).2 i o (by simpa using ho)
  obtain ⟨t', g1, g2, g3⟩ := S
  rw [Nat.zero_add] at g1 g2 g3
  unfold an at hj
  rw [g1] at hj
  simp only [Option.getD_some] at hj
  obtain ⟨e, he, hej⟩ := orP_bit hj
  rcases hej with rfl | hej
  · exact hpre _ he
  · by_cases hlt : e < i
    · rw [g2 e hlt] at hej
      exact closed_anc (L := fun k => isL listed k = true) (j := e) (fun k o hk hL hok => I.closed k o hL (by simpa using hok)) e (Nat.le_refl _) (hpre _ he) j hej
    · rw [g3 e (by omega)] at hej; simp at hej
theorem InvS.anc_listed (I : InvS D A n tm0 st0 L stE ρ0 w0 listed ρ a w) {k : Nat} (hk : isL listed k = true) {j : Nat} (hj : (an (ancs A.toList 0 .leaf) k).testBit j = true) : isL listed j = true :=
  closed_anc (L := fun k => isL listed k = true) (j := k) (fun k o _ hL hok => I.closed k o hL (by simpa using hok)) k (Nat.le_refl _) hk j hj

/-- An ancestor lies before. -/
theorem anc_lt (hpo : predsOk A.toList 0 = true) : ∀ (i j : Nat), (an (ancs A.toList 0 .leaf) i).testBit j = true → j < i := by
  intro i j hj
  cases ho : A[i]? with
  | none =>
    exfalso
    have hlen : A.toList.length ≤ i := by
      rcases Nat.lt_or_ge i A.size with h | h
      · rw [Array.getElem?_eq_getElem h] at ho; cases ho
      · simpa using h
    have key : ∀ (os : List Oper) (j : Nat) (t : T Nat) (i : Nat), j + os.length ≤ i → (ancs os j t).get i = t.get i := by
      intro os
      induction os with
      | nil => intro j t i _; rfl
      | cons o os ih => intro j t i h; simp only [ancs]; simp only [List.length_cons] at h; rw [ih _ _ _ (by omega), T.get_put_ne _ _ _ (by omega)]
    unfold an at hj
    rw [key _ _ _ _ (by omega), T.get_leaf] at hj
    simp at hj
  | some o =>
    have hlt := (Array.getElem?_eq_some_iff.1 ho).1
    have : ∀ k o', k < i → k < i → A.toList[k]? = some o' → ∀ e ∈ preds o', e < i := fun k o' hk _ hok e he => by
      have := predsOk_spec hpo k o' hok e he; omega
    obtain ⟨t', g1, g2, g3⟩ := (ancs_spec A.toList 0 .leaf (fun i _ => T.get_leaf i)).2 i o (by simpa using ho)
    rw [Nat.zero_add] at g1 g2 g3
    unfold an at hj
    rw [g1] at hj
    simp only [Option.getD_some] at hj
    obtain ⟨e, he, hej⟩ := orP_bit hj
    have hei : e < i := by have := predsOk_spec hpo i o (by simpa using ho) e he; omega
    rcases hej with rfl | hej
    · exact hei
    · rw [g2 e hei] at hej
      exact closed_anc (L := fun k => k < i) (j := e) (fun k o' _ hk hok e' he' => this k o' hk hk hok e' he') e (Nat.le_refl _) hei j hej

theorem InvS.env (I : InvS D A n tm0 st0 L stE ρ0 w0 listed ρ a w) (hT : TrD P ko keep wr (ancs A.toList 0 .leaf) A.toList A.toList 0 .nil tm0 st0 L locE tmE stE) (hwr : wrs A.toList 0 .leaf = some wr) (hpo : predsOk A.toList 0 = true)
    (hn : ∀ (j : Nat) (o : Oper) (d : Nat), A[j]? = some o → o.dst = some d → d < n) {i : Nat} {o : Oper} (ho : A[i]? = some o) (hi : isL listed i = false) (hpre : ∀ e ∈ preds o, isL listed e = true) :
    RelG D ρ (evD keep wr (ancs A.toList 0 .leaf) i (locA L locE i) (tmA L tmE i)) n a := by
  obtain ⟨_, ws2, ws3⟩ := wrs_spec hwr
  have hlt : i < A.size := (Array.getElem?_eq_some_iff.1 ho).1
  have hlen : A.toList.length = A.size := by simp
  refine ⟨I.asize, I.defers, fun t v e => ?_⟩
  have e' : (bif safeS wr (ancs A.toList 0 .leaf) i t then slotE keep (locA L locE i) (tmA L tmE i) t else none) = some v := e
  cases hs : safeS wr (ancs A.toList 0 .leaf) i t with
  | false => rw [hs] at e'; cases e'
  | true =>
    rw [hs] at e'
    have e1 : slotE keep (locA L locE i) (tmA L tmE i) t = some v := e'
    -- what was there before the region
    have old : (∀ (j : Nat) (o : Oper), j < i → A.toList[j]? = some o → o.dst ≠ some t) → (∀ j o, isL listed j = true → A[j]? = some o → o.dst ≠ some t) → t < n ∧ RelV ρ v (a.tmps.getD t undef) := by
      intro h1 h2
      rw [hT.kept t i (by omega) h1] at e1
      unfold slotE at e1
      cases hb : keep.testBit t with
      | true => rw [hb] at e1; exact I.init t v e1 h2
      | false => rw [hb] at e1; cases e1
    have uniq : ∀ {j j' : Nat} {o o' : Oper}, A.toList[j]? = some o → o.dst = some t → A.toList[j']? = some o' → o'.dst = some t → j' = j := by
      intro j j' o1 o2 h1 h2 h3 h4
      have a1 := ws2 j o1 t h1 h2
      have a2 := ws2 j' o2 t h3 h4
      rw [a1] at a2; simp at a2; omega
    unfold safeS at hs
    cases hw : wr.get t with
    | none =>
      have none' : ∀ (j : Nat) (o : Oper), A.toList[j]? = some o → o.dst ≠ some t := fun j o' h1 h2 => by
        have := ws2 j o' t h1 h2
        rw [hw] at this; cases this
      exact old (fun j o' _ h1 => none' j o' h1) (fun j o' _ h1 => none' j o' (by simpa using h1))
    | some j =>
      rw [hw] at hs
      simp only [Bool.or_eq_true] at hs
      obtain ⟨oj, hj1, hj2⟩ : ∃ oj, A.toList[j]? = some oj ∧ oj.dst = some t := by
        rcases ws3 t j hw with h | ⟨k, o', h1, h2, h3⟩
        · rw [T.get_leaf] at h; cases h
        · rw [Nat.zero_add] at h1; subst h1; exact ⟨o', h2, h3⟩
      rcases hs with (hs | hs) | hs
      · have hL := I.pred ho hpre hs
        have hji := anc_lt hpo i j hs
        obtain ⟨ej, g1, _⟩ := hT.step j oj hj1
        rw [hT.wrote t hj1 hj2 g1 (fun j' o' h1 h2 => uniq hj1 hj2 h1 h2) i hji (by omega)] at e1
        cases e1
        exact ⟨hn j oj t (by simpa using hj1) hj2, I.vals j oj ej hL (by simpa using hj1) g1 t hj2⟩
      · have hji := Nat.eq_of_beq_eq_true hs
        refine old (fun j' o' hj' h1 h2 => ?_) (fun j' o' hL h1 h2 => ?_)
        · have := uniq hj1 hj2 h1 h2; omega
        · have := uniq hj1 hj2 (by simpa using h1) h2
          rw [this, hji, hi] at hL; cases hL
      · have hij := anc_lt hpo j i hs
        refine old (fun j' o' hj' h1 h2 => ?_) (fun j' o' hL h1 h2 => ?_)
        · have := uniq hj1 hj2 h1 h2; omega
        · have := uniq hj1 hj2 (by simpa using h1) h2
          rw [this] at hL
          have := I.anc_listed hL hs
          rw [hi] at this; cases this

/-- The slots behind operation i. -/
theorem InvS.next (I : InvS D A n tm0 st0 L stE ρ0 w0 listed ρ a w) (hwr : wrs A.toList 0 .leaf = some wr)
    (hn : ∀ (j : Nat) (o : Oper) (d : Nat), A[j]? = some o → o.dst = some d → d < n) {i : Nat} {o : Oper} (ho : A[i]? = some o) (hi : isL listed i = false) (hpre : ∀ e ∈ preds o, isL listed e = true) {e : TE} (he : L[i]? = some e)
    {ρ' : Rho} {y : Value} {w' : World} (hx : Ext ρ ρ') (hy : RelV ρ' e.v y)
    (hW : ∃ c, c ≤ A.size ∧ (∀ j o, A[j]? = some o → isEv o = true → (isL (listed.setIfInBounds i true) j = true ↔ j < c)) ∧ RelH ρ' (stA L stE c) w' ∧ Fr ρ0 st0 w0 ρ' (stA L stE c) w') :
    InvS D A n tm0 st0 L stE ρ0 w0 (listed.setIfInBounds i true) ρ' (a.put o.dst y) w' := by
  obtain ⟨_, ws2, ws3⟩ := wrs_spec hwr
  have hlt : i < A.size := (Array.getElem?_eq_some_iff.1 ho).1
  have hls : i < listed.size := by rw [I.size]; exact hlt
  have uniq : ∀ {j j' : Nat} {o1 o2 : Oper} {t : Nat}, A[j]? = some o1 → o1.dst = some t → A[j']? = some o2 → o2.dst = some t → j' = j := by
    intro j j' o1 o2 t h1 h2 h3 h4
    have a1 := ws2 j o1 t (by simpa using h1) h2
    have a2 := ws2 j' o2 t (by simpa using h3) h4
    rw [a1] at a2; simp at a2; omega
  have other : ∀ t, o.dst ≠ some t → (a.put o.dst y).tmps.getD t undef = a.tmps.getD t undef := by
    intro t ht
    cases hd : o.dst with
    | none => rfl
    | some d =>
      have hne : d ≠ t := fun e => ht (by rw [hd, e])
      simp [Act.put, Array.getD_eq_getD_getElem?, Array.getElem?_setIfInBounds_ne hne]
  refine ⟨by simp [I.size], fun j o' hj hjo e' he' => ?_, by cases o.dst <;> simp [Act.put, I.asize], by cases o.dst <;> simp [Act.put, I.defers], fun t v h1 h2 => ?_, fun j o' e' hj hjo hje t hd => ?_, hW⟩
  · rw [isL_set hls, Bool.or_eq_true, decide_eq_true_eq] at hj
    rw [isL_set hls, Bool.or_eq_true]
    rcases hj with hj | rfl
    · exact .inl (I.closed j o' hj hjo e' he')
    · rw [ho] at hjo; cases hjo
      exact .inl (hpre e' he')
  · have hne : o.dst ≠ some t := h2 i o (by rw [isL_set hls]; simp) ho
    obtain ⟨g1, g2⟩ := I.init t v h1 (fun j o' hj hjo => h2 j o' (by rw [isL_set hls, hj]; rfl) hjo)
    exact ⟨g1, by rw [other t hne]; exact RelV.mono hx _ _ g2⟩
  · rw [isL_set hls, Bool.or_eq_true, decide_eq_true_eq] at hj
    by_cases hji : j = i
    · subst hji
      rw [ho] at hjo; cases hjo
      rw [he] at hje; cases hje
      have htn := hn j o t ho hd
      rw [hd]
      simp [Act.put, I.asize, htn]
      exact hy
    · have hL : isL listed j = true := hj.resolve_right hji
      have hne : o.dst ≠ some t := fun h => hji (uniq ho h hjo hd)
      rw [other t hne]
      exact RelV.mono hx _ _ (I.vals j o' e' hL hjo hje t hd)

theorem seqD_any (hko : CallOk P ko) (hT : TrD P ko keep wr (ancs A.toList 0 .leaf) A.toList A.toList 0 .nil tm0 st0 L locE tmE stE) (hwr : wrs A.toList 0 .leaf = some wr) (hpo : predsOk A.toList 0 = true) (hord : ordOk (ancs A.toList 0 .leaf) A.toList A.toList 0 = true)
    (hn : ∀ (j : Nat) (o : Oper) (d : Nat), A[j]? = some o → o.dst = some d → d < n) {Q : Exit → Act → World → Prop}
    (hQ : ∀ listed ρ a w, InvS D A n tm0 st0 L stE ρ0 w0 listed ρ a w → (∀ i, i < A.size → isL listed i = true) → Q .normal a w) :
    ∀ (fuel : Nat) (l : List Nat) (listed : Array Bool) (ρ : Rho) (a : Act) (w : World), InvS D A n tm0 st0 L stE ρ0 w0 listed ρ a w → l.length ≤ fuel → (∀ i, i < A.size → isL listed i = false → i ∈ l) → wpAny P .any A Q fuel listed a w := by
  intro fuel
  induction fuel with
  | zero =>
    intro l listed ρ a w I hl hall
    have hl0 : l = [] := List.length_eq_zero_iff.1 (by omega)
    subst hl0
    have hL : ∀ i, i < A.size → isL listed i = true := fun i hi => by
      cases h : isL listed i with
      | true => rfl
      | false => have := hall i hi h; simp at this
    refine ⟨?_, hQ listed ρ a w I hL⟩
    rw [List.eq_nil_iff_forall_not_mem]
    intro i hi
    obtain ⟨h1, o, ho, _⟩ := mem_ready.1 hi
    have hlt : i < A.size := (Array.getElem?_eq_some_iff.1 ho).1
    have := hL i hlt
    unfold isL at this
    rw [Array.getD_eq_getD_getElem?, Array.getElem?_eq_getElem (by rw [I.size]; exact hlt)] at this h1
    simp at this h1
    rw [this] at h1; cases h1
  | succ fuel ih =>
    intro l listed ρ a w I hl hall
    have ready : ∀ i, isL listed i = false → i < A.size → (∀ o, A[i]? = some o → ∀ e ∈ preds o, isL listed e = true) → i ∈ Region.ready .any A listed := by
      intro i hi hlt hpre
      refine mem_ready.2 ⟨?_, A[i], Array.getElem?_eq_getElem hlt, fun e he hb => hpre _ (Array.getElem?_eq_getElem hlt) e.on ?_⟩
      · unfold isL at hi
        rw [Array.getD_eq_getD_getElem?, Array.getElem?_eq_getElem (by rw [I.size]; exact hlt)] at hi ⊢
        simpa using hi
      · unfold preds
        rw [List.mem_map]
        exact ⟨e, List.mem_filter.2 ⟨by simpa using he, hb⟩, rfl⟩
    refine ⟨fun hempty => hQ listed ρ a w I (fun i => ?_), fun i hi => ?_⟩
    · induction i using Nat.strongRecOn with
      | _ i ihh =>
        intro hlt
        cases h : isL listed i with
        | true => rfl
        | false =>
          exfalso
          have := ready i h hlt (fun o ho e he => by
            have hp := predsOk_spec hpo i o (by simpa using ho) e he
            exact ihh e (by omega) (by omega))
          rw [hempty] at this; simp at this
    · obtain ⟨h1, o, ho, hpre⟩ := mem_ready.1 hi
      have hlt : i < A.size := (Array.getElem?_eq_some_iff.1 ho).1
      have hls : i < listed.size := by rw [I.size]; exact hlt
      have hiL : isL listed i = false := by
        unfold isL
        rw [Array.getD_eq_getD_getElem?, Array.getElem?_eq_getElem (by rw [I.size]; exact hlt)] at h1 ⊢
        simpa using h1
      have hpre' : ∀ e ∈ preds o, isL listed e = true := by
        intro e he
        unfold preds at he
        rw [List.mem_map] at he
        obtain ⟨e', he', rfl⟩ := he
        have := List.mem_filter.1 he'
        exact hpre e' (by simpa using this.1) this.2
      have hoL : A.toList[i]? = some o := by simpa using ho
      obtain ⟨e, g1, s, g3, g4, _, _, g7, g8⟩ := hT.step i o hoL
      rw [Nat.zero_add, ← g7, ← g8] at s
      have G := I.env hT hwr hpo hn ho hiL hpre'
      obtain ⟨c, hc, hev, H, F⟩ := I.world
      -- where the operation looks at the world, the state is its own
      have same : isHp o = true → stA L stE c = e.st := by
        intro hp
        have key : ∀ j p, A[j]? = some p → isEv p = true → (j < c ↔ j < i) := by
          intro j p hj hpe
          rw [← hev j p hj hpe]
          have hjL : A.toList[j]? = some p := by simpa using hj
          constructor
          · intro hL
            rcases Nat.lt_trichotomy j i with h | h | h
            · exact h
            · rw [h, hiL] at hL; cases hL
            · exfalso
              have hh : isHp p = true := by unfold isHp; rw [hpe]; rfl
              have := ordOk_spec hord j p hjL i o (by omega) hoL (by rw [hp, hpe]; simp)
              rw [Nat.zero_add] at this
              have := I.anc_listed hL this
              rw [hiL] at this; cases this
          · intro h
            have := ordOk_spec hord i o hoL j p (by omega) hjL (by rw [hp, hpe]; rfl)
            rw [Nat.zero_add] at this
            exact I.pred ho hpre' this
        rw [← g3]
        rcases Nat.le_total i c with h | h
        · refine hT.stay c h (by simpa using hc) (fun j p h2 h3 hj => ?_)
          cases hp' : isEv p with
          | false => rfl
          | true =>
            have := (key j p (by simpa using hj) hp').1 h3
            omega
        · refine (hT.stay i h (by simp; omega) (fun j p h2 h3 hj => ?_)).symm
          cases hp' : isEv p with
          | false => rfl
          | true =>
            have := (key j p (by simpa using hj) hp').2 h3
            omega
      refine step_sound (st := stA L stE c) (v := e.v) (st' := if isHp o then e.st' else stA L stE c) hko (evD_base _ _ _ _ _ _) ho ?_ G H (fun y ρ' w' k1 k2 k3 => ?_)
      · cases hp : isHp o with
        | true => rw [same hp, if_pos rfl]; exact s
        | false => rw [if_neg (by simp)]; exact s.other hp
      · refine ih (l.erase i) _ ρ' _ w' (I.next hwr hn ho hiL hpre' g1 (k3.ext H) k1 ?_) (by have := List.length_erase_of_mem (hall i hlt hiL); omega) (fun j hj hjL => ?_)
        · cases hpe : isEv o with
          | true =>
            have hp : isHp o = true := by unfold isHp; rw [hpe]; rfl
            rw [if_pos hp] at k2 k3
            refine ⟨i + 1, by omega, fun j p hj hjp => ?_, by rw [g4]; exact k2, by rw [g4]; exact F.trans k3⟩
            rw [isL_set hls, Bool.or_eq_true, decide_eq_true_eq]
            have hjL : A.toList[j]? = some p := by simpa using hj
            have hh : isHp p = true := by unfold isHp; rw [hjp]; rfl
            constructor
            · rintro (hL | rfl)
              · rcases Nat.lt_trichotomy j i with h | h | h
                · omega
                · omega
                · exfalso
                  have := ordOk_spec hord j p hjL i o (by omega) hoL (by rw [hpe, hh]; rfl)
                  rw [Nat.zero_add] at this
                  have := I.anc_listed hL this
                  rw [hiL] at this; cases this
              · omega
            · intro h
              by_cases hji : j = i
              · exact .inr hji
              · have := ordOk_spec hord i o hoL j p (by omega) hjL (by rw [hjp, hp]; rfl)
                rw [Nat.zero_add] at this
                exact .inl (I.pred ho hpre' this)
          | false =>
            have hst : (if isHp o then e.st' else stA L stE c) = stA L stE c := by
              cases hp : isHp o with
              | false => rw [if_neg (by simp)]
              | true => rw [if_pos rfl, s.still hpe, same hp]
            rw [hst] at k2 k3
            refine ⟨c, hc, fun j p hj hjp => ?_, k2, F.trans k3⟩
            rw [isL_set hls, Bool.or_eq_true, decide_eq_true_eq, ← hev j p hj hjp]
            constructor
            · rintro (h | rfl)
              · exact h
              · rw [ho] at hj; cases hj; rw [hpe] at hjp; cases hjp
            · exact .inl
        · rw [isL_set hls, Bool.or_eq_false_iff, decide_eq_false_iff_not] at hjL
          exact (List.mem_erase_of_ne hjL.2).2 (hall j hj hjL.1)

theorem seqD_sound (hko : CallOk P ko) (hm : P.follows .mixedOrders = true) {id : Nat} (hT : TrD P ko keep wr (ancs A.toList 0 .leaf) A.toList A.toList 0 .nil tm0 st0 L locE tmE stE) (hwr : wrs A.toList 0 .leaf = some wr) (hpo : predsOk A.toList 0 = true) (hord : ordOk (ancs A.toList 0 .leaf) A.toList A.toList 0 = true)
    (hn : ∀ (j : Nat) (o : Oper) (d : Nat), A[j]? = some o → o.dst = some d → d < n) {ρ : Rho} {a : Act} {w : World} {Q : Exit → Act → World → Prop} (hA : RelT D ρ keep tm0 n a) (hH : RelH ρ st0 w)
    (hQ : ∀ ρ' a' w', RelT D ρ' keep tmE n a' → RelH ρ' stE w' → Fr ρ st0 w ρ' stE w' → Q .normal a' w') : (Code.region id A true).wp P Q a w := by
  refine wp_region_any hm ?_
  have hL0 : ∀ j, isL (Array.replicate A.size false) j = false := by
    intro j
    unfold isL
    rw [Array.getD_eq_getD_getElem?, Array.getElem?_replicate]
    split <;> rfl
  have hlen : A.toList.length = A.size := by simp
  have I : InvS D A n tm0 st0 L stE ρ w (Array.replicate A.size false) ρ a { w with drawn := w.drawn + 1 } := by
    refine ⟨by simp, fun j o h => ?_, hA.rel.size, hA.rel.defers, fun t v h _ => hA.rel.rel t v h, fun j o e h => ?_, 0, Nat.zero_le _, fun j o _ _ => ?_, ?_, ?_⟩
    · rw [hL0] at h; cases h
    · rw [hL0] at h; cases h
    · rw [hL0]; simp
    · rw [hT.at0.1]; exact hH.drew
    · rw [hT.at0.1]
      exact ⟨Nat.le_refl _, fun _ _ => rfl, fun i p h e => absurd (hH.dom i p e).1 (by omega), fun _ o h _ => ⟨o, h⟩, Nat.le_refl _, rfl, rfl, rfl, fun _ _ _ => rfl, fun i o _ h hc _ => ⟨i, o, h, hc⟩⟩
  refine seqD_any (ρ0 := ρ) (w0 := w) hko hT hwr hpo hord hn (fun listed ρ' a' w' I' hall => ?_) A.size (List.range A.size) (Array.replicate A.size false) ρ a _ I (by simp) (fun i hi _ => List.mem_range.2 hi)
  obtain ⟨c, hc, hev, H, F⟩ := I'.world
  obtain ⟨e1, e2, e3⟩ := hT.ends
  have hst : stA L stE c = stE := by
    have key := hT.stay (k := c) A.toList.length (by omega) (Nat.le_refl _) (fun j p h2 h3 hj => by
      cases hp : isEv p with
      | false => rfl
      | true =>
        have := (hev j p (by simpa using hj) hp).1 (hall j (by omega))
        omega)
    rw [e3] at key
    exact key.symm
  rw [hst] at H F
  refine hQ ρ' a' w' ⟨⟨I'.asize, I'.defers, fun t v ht => ?_⟩, ?_⟩ H F
  · have hk : keep.testBit t = true := hT.dom hA.dom A.toList.length (Nat.le_refl _) t v (by rw [e2]; exact ht)
    have hs : slotE keep (locA L locE A.toList.length) (tmA L tmE A.toList.length) t = some v := by
      rw [e1, e2]
      unfold slotE
      rw [hk]; exact ht
    obtain ⟨_, ws2, _⟩ := wrs_spec hwr
    by_cases hw : ∃ (j : Nat) (o : Oper), A.toList[j]? = some o ∧ o.dst = some t
    · obtain ⟨j, o, h1, h2⟩ := hw
      obtain ⟨e, g1, _⟩ := hT.step j o h1
      have hjl : j < A.size := by
        have := (List.getElem?_eq_some_iff.1 h1).1
        omega
      rw [hT.wrote t h1 h2 g1 (fun j' o' h3 h4 => by
        have a1 := ws2 j o t h1 h2
        have a2 := ws2 j' o' t h3 h4
        rw [a1] at a2; simp at a2; omega) _ (by omega) (Nat.le_refl _)] at hs
      cases hs
      exact ⟨hn j o t (by simpa using h1) h2, I'.vals j o e (hall j hjl) (by simpa using h1) g1 t h2⟩
    · have hno : ∀ (j : Nat) (o : Oper), A.toList[j]? = some o → o.dst ≠ some t := fun j o h1 h2 => hw ⟨j, o, h1, h2⟩
      rw [hT.kept t _ (Nat.le_refl _) (fun j o _ h1 => hno j o h1)] at hs
      unfold slotE at hs
      rw [hk] at hs
      exact I'.init t v hs (fun j o _ h1 => hno j o (by simpa using h1))
  · intro t v ht
    exact hT.dom hA.dom A.toList.length (Nat.le_refl _) t v (by rw [e2]; exact ht)
end
end
end Go.Proofs.Ythlcnklbeolhpaa.Ev

/-! EvPan5 -/
/- The evaluator in passing style is sound: code, calls. -/
namespace Go.Proofs.Ythlcnklbeolhpaa.Ev
open Go Go.RowKit
section
variable {P : Program}

theorem putAll_unw {n : Nat} {vals : T AV} {t : Nat} : ∀ {os : List Oper} {i : Nat} {tm tm' : T AV}, putAll n vals os i tm = some tm' → (∀ o ∈ os, o.dst ≠ some t) → tm'.get t = tm.get t
  | [], i, tm, tm', e, _ => by simp only [putAll, Option.some.injEq] at e; rw [e]
  | o :: os, i, tm, tm', e, hn => by
    simp only [putAll] at e
    split at e
    case h_1 => cases e
    split at e
    case h_2 => cases e
    rename_i tm1 hp
    rw [putAll_unw e (fun o' h => hn o' (List.mem_cons_of_mem _ h))]
    unfold putA at hp
    have h0 := hn o (List.mem_cons_self ..)
    cases hd : o.dst with
    | none => rw [hd] at hp; simp only [Option.some.injEq] at hp; rw [hp]
    | some d =>
      rw [hd] at hp
      simp only at hp
      cases hb : d.blt n with
      | false => rw [hb] at hp; cases hp
      | true =>
        rw [hb] at hp; simp only [cond_true, Option.some.injEq] at hp; subst hp
        exact T.get_put_ne _ _ _ (fun e => h0 (by rw [hd, e]))

theorem evDraw_tm {call : FuncId → List AV → St → Option (AV × St)} {n : Nat} {ops : List Oper} {tm tm' : T AV} {st st' : St} (e : evDraw P call n ops tm st = some (tm', st')) : ∃ vals, putAll n vals ops 0 tm = some tm' := by
  unfold evDraw at e
  split at e
  case h_1 => cases e
  cases hpo : predsOk ops 0 with
  | false => rw [hpo] at e; cases e
  | true =>
  rw [hpo] at e; simp only [cond_true] at e
  split at e
  case h_1 => cases e
  split at e
  case h_1 => cases e
  rename_i phF _
  split at e
  case h_2 => cases e
  rename_i tm1 hput
  simp only [Option.some.injEq, Prod.mk.injEq] at e
  exact ⟨phF.vals, e.1 ▸ hput⟩

theorem okDraw_spec {keep : Nat} : ∀ {os : List Oper}, okDraw keep os = true → ∀ (k : Nat) (o : Oper) (d : Nat), os[k]? = some o → o.dst = some d → keep.testBit d = true
  | [], _, k, o, d, h, _ => by simp at h
  | o :: os, h, k, o', d, hk, hd => by
    simp only [okDraw, Bool.and_eq_true] at h
    cases k with
    | zero =>
      simp at hk; subst hk
      have h1 := h.1
      rw [hd] at h1; exact h1
    | succ k => exact okDraw_spec h.2 k o' d (by simpa using hk) hd

/-- Slots that code does not write. -/
def unwOps (t : Nat) : List Oper → Bool
  | [] => true
  | o :: os => (match o.dst with | none => true | some d => !d.beq t) && unwOps t os
def unw (t : Nat) : Code → Bool
  | .region _ ops _ => unwOps t ops.toList
  | .seq a b | .cond _ a b => unw t a && unw t b
  | .block _ c | .loop c | .scope c => unw t c
  | _ => true
theorem unwOps_spec {t : Nat} : ∀ {os : List Oper}, unwOps t os = true → ∀ o ∈ os, o.dst ≠ some t
  | [], _, o, h => by cases h
  | o' :: os, h, o, ho => by
    simp only [unwOps, Bool.and_eq_true] at h
    cases ho with
    | head =>
      intro hd
      have h1 := h.1
      rw [hd] at h1
      simp at h1
    | tail _ ho => exact unwOps_spec h.2 o ho

section
variable {R : Type} {bad x : R} {rk : RKK R} {ko : RKO}

/-- What is said of code. -/
def SoundC (P : Program) (bad : R) (keep n : Nat) (c : Code) (run : RCK R) : Prop :=
  ∀ tm st kn kx kr kp x, run tm st kn kx kr kp = x → x ≠ bad → ∃ r : CR, r.to kn kx kr kp = x ∧ (∀ t, unw t c = true → r.tm.get t = tm.get t) ∧
    ∀ D ρ a w Q, RelT D ρ keep tm n a → RelH ρ st w → Post D keep n ρ st w Q r → c.wp P Q a w

theorem runC_sound (hrk : RKOk P bad rk) (hko : CallOk P ko) (hm : P.follows .mixedOrders = true) {keep n m F : Nat} (hmn : m ≤ n) : ∀ (c : Code), okC keep m c = true → SoundC P bad keep n c (runC P bad keep rk ko F n c) := by
  intro c
  induction c with
  | skip =>
    intro _ tm st kn kx kr kp x e hx
    exact ⟨.norm tm st, e, fun _ _ => rfl, fun D ρ a w Q hA hH hQ => wp_skip (hQ ρ a w hA hH (Fr.refl _ _ _ hH))⟩
  | label l =>
    intro _ tm st kn kx kr kp x e hx
    exact ⟨.norm tm st, e, fun _ _ => rfl, fun D ρ a w Q hA hH hQ => wp_label (hQ ρ a w hA hH (Fr.refl _ _ _ hH))⟩
  | exit id =>
    intro _ tm st kn kx kr kp x e hx
    exact ⟨.exit id tm st, e, fun _ _ => rfl, fun D ρ a w Q hA hH hQ => wp_exit (hQ ρ a w hA hH (Fr.refl _ _ _ hH))⟩
  | ret =>
    intro _ tm st kn kx kr kp x e hx
    exact ⟨.ret tm st, e, fun _ _ => rfl, fun D ρ a w Q hA hH hQ => wp_ret (hQ ρ a w hA hH (Fr.refl _ _ _ hH))⟩
  | goto l => intro _ tm st kn kx kr kp x e hx; exact absurd e.symm hx
  | refuse s => intro _ tm st kn kx kr kp x e hx; exact absurd e.symm hx
  | rangeFunc f ps as b iha ihb => intro _ tm st kn kx kr kp x e hx; exact absurd e.symm hx
  | seq a b iha ihb =>
    intro hok tm st kn kx kr kp x e hx
    simp only [okC, Bool.and_eq_true] at hok
    have e' : runC P bad keep rk ko F n a tm st (fun tm st => runC P bad keep rk ko F n b tm st kn kx kr kp) kx kr kp = x := e
    obtain ⟨r, h1, h0, h2⟩ := iha hok.1 _ _ _ _ _ _ _ e' hx
    cases r with
    | norm tm1 st1 =>
      obtain ⟨r2, k1, k0, k2⟩ := ihb hok.2 _ _ _ _ _ _ _ h1 hx
      refine ⟨r2, k1, fun t ht => ?_, fun D ρ ac w Q hA hH hQ => wp_seq (h2 D ρ ac w _ hA hH fun ρ1 a1 w1 q1 q2 q3 => k2 D ρ1 a1 w1 Q q1 q2 (hQ.trans q3))⟩
      simp only [unw, Bool.and_eq_true] at ht
      rw [k0 t ht.2]; exact h0 t ht.1
    | exit id tm1 st1 =>
      refine ⟨.exit id tm1 st1, h1, fun t ht => ?_, fun D ρ ac w Q hA hH hQ => wp_seq (h2 D ρ ac w _ hA hH fun ρ1 a1 w1 q1 q2 q3 => hQ ρ1 a1 w1 q1 q2 q3)⟩
      simp only [unw, Bool.and_eq_true] at ht
      exact h0 t ht.1
    | ret tm1 st1 =>
      refine ⟨.ret tm1 st1, h1, fun t ht => ?_, fun D ρ ac w Q hA hH hQ => wp_seq (h2 D ρ ac w _ hA hH fun ρ1 a1 w1 q1 q2 q3 => hQ ρ1 a1 w1 q1 q2 q3)⟩
      simp only [unw, Bool.and_eq_true] at ht
      exact h0 t ht.1
    | pan v tm1 st1 =>
      refine ⟨.pan v tm1 st1, h1, fun t ht => ?_, fun D ρ ac w Q hA hH hQ => wp_seq (h2 D ρ ac w _ hA hH fun ρ1 a1 w1 y q0 q1 q2 q3 => hQ ρ1 a1 w1 y q0 q1 q2 q3)⟩
      simp only [unw, Bool.and_eq_true] at ht
      exact h0 t ht.1
  | cond xo a b iha ihb =>
    intro hok tm st kn kx kr kp x e hx
    simp only [okC, Bool.and_eq_true] at hok
    have e' : getE .nil tm bad (condK bad (runC P bad keep rk ko F n a tm st kn kx kr kp) (runC P bad keep rk ko F n b tm st kn kx kr kp)) (compX keep xo) = x := e
    obtain ⟨v, h1, h2⟩ := cxE_ok keep R bad _ _ _ _ _ e' hx
    unfold condK at h2
    split at h2
    · rename_i bo
      have hev : ∀ {D : List Deferred} {ρ : Rho} {ac : Act}, RelT D ρ keep tm n ac → ac.eval xo = .bool bo := fun hA => relV_sc.1 (hA.toG.ok (evE_base _ _ _) xo _ h1)
      cases bo with
      | true =>
        obtain ⟨r, k1, k0, k2⟩ := iha hok.1 _ _ _ _ _ _ _ h2 hx
        refine ⟨r, k1, fun t ht => ?_, fun D ρ ac w Q hA hH hQ => wp_cond (hev hA) (k2 D ρ ac w Q hA hH hQ)⟩
        simp only [unw, Bool.and_eq_true] at ht
        exact k0 t ht.1
      | false =>
        obtain ⟨r, k1, k0, k2⟩ := ihb hok.2 _ _ _ _ _ _ _ h2 hx
        refine ⟨r, k1, fun t ht => ?_, fun D ρ ac w Q hA hH hQ => wp_cond (hev hA) (k2 D ρ ac w Q hA hH hQ)⟩
        simp only [unw, Bool.and_eq_true] at ht
        exact k0 t ht.2
    · exact absurd h2.symm hx
  | block id c ih =>
    intro hok tm st kn kx kr kp x e hx
    have e' : runC P bad keep rk ko F n c tm st kn (fun id' tm st => ifB (kn tm st) (kx id' tm st) (Nat.beq id' id)) kr kp = x := e
    obtain ⟨r, h1, h0, h2⟩ := ih hok _ _ _ _ _ _ _ e' hx
    cases r with
    | norm tm1 st1 => exact ⟨.norm tm1 st1, h1, h0, fun D ρ ac w Q hA hH hQ => wp_block (h2 D ρ ac w _ hA hH fun ρ1 a1 w1 q1 q2 q3 => hQ ρ1 a1 w1 q1 q2 q3)⟩
    | exit id' tm1 st1 =>
      have h1' : ifB (kn tm1 st1) (kx id' tm1 st1) (Nat.beq id' id) = x := h1
      cases hb : Nat.beq id' id with
      | true =>
        rw [hb] at h1'
        refine ⟨.norm tm1 st1, h1', h0, fun D ρ ac w Q hA hH hQ => wp_block (h2 D ρ ac w _ hA hH fun ρ1 a1 w1 q1 q2 q3 => ?_)⟩
        show (if id' = id then Q .normal a1 w1 else Q (.exit id') a1 w1)
        rw [if_pos (Nat.eq_of_beq_eq_true hb)]
        exact hQ ρ1 a1 w1 q1 q2 q3
      | false =>
        rw [hb] at h1'
        refine ⟨.exit id' tm1 st1, h1', h0, fun D ρ ac w Q hA hH hQ => wp_block (h2 D ρ ac w _ hA hH fun ρ1 a1 w1 q1 q2 q3 => ?_)⟩
        show (if id' = id then Q .normal a1 w1 else Q (.exit id') a1 w1)
        rw [if_neg (Nat.ne_of_beq_eq_false hb)]
        exact hQ ρ1 a1 w1 q1 q2 q3
    | ret tm1 st1 => exact ⟨.ret tm1 st1, h1, h0, fun D ρ ac w Q hA hH hQ => wp_block (h2 D ρ ac w _ hA hH fun ρ1 a1 w1 q1 q2 q3 => hQ ρ1 a1 w1 q1 q2 q3)⟩
    | pan v tm1 st1 => exact ⟨.pan v tm1 st1, h1, h0, fun D ρ ac w Q hA hH hQ => wp_block (h2 D ρ ac w _ hA hH fun ρ1 a1 w1 y q0 q1 q2 q3 => hQ ρ1 a1 w1 y q0 q1 q2 q3)⟩
  | scope c ih =>
    intro hok tm st kn kx kr kp x e hx
    have e' : runC P bad keep rk ko F n c tm st kn kx kr kp = x := e
    obtain ⟨r, h1, h0, h2⟩ := ih hok _ _ _ _ _ _ _ e' hx
    cases r with
    | norm tm1 st1 => exact ⟨.norm tm1 st1, h1, h0, fun D ρ ac w Q hA hH hQ => wp_scope_straight (h2 D ρ ac w _ hA hH fun ρ1 a1 w1 q1 q2 q3 => hQ ρ1 a1 w1 q1 q2 q3)⟩
    | exit id' tm1 st1 => exact ⟨.exit id' tm1 st1, h1, h0, fun D ρ ac w Q hA hH hQ => wp_scope_straight (h2 D ρ ac w _ hA hH fun ρ1 a1 w1 q1 q2 q3 => hQ ρ1 a1 w1 q1 q2 q3)⟩
    | ret tm1 st1 => exact ⟨.ret tm1 st1, h1, h0, fun D ρ ac w Q hA hH hQ => wp_scope_straight (h2 D ρ ac w _ hA hH fun ρ1 a1 w1 q1 q2 q3 => hQ ρ1 a1 w1 q1 q2 q3)⟩
    | pan v tm1 st1 => exact ⟨.pan v tm1 st1, h1, h0, fun D ρ ac w Q hA hH hQ => wp_scope_straight (h2 D ρ ac w _ hA hH fun ρ1 a1 w1 y q0 q1 q2 q3 => hQ ρ1 a1 w1 y q0 q1 q2 q3)⟩
  | loop c ih =>
    intro hok tm st kn kx kr kp x e hx
    have key : ∀ (f : Nat) (tm : T AV) (st : St), @Nat.rec (fun _ => KN R) (fun _ _ => bad) (fun _ ih tm st => runC P bad keep rk ko F n c tm st ih kx kr kp) f tm st = x →
        ∃ r : CR, r.to kn kx kr kp = x ∧ (∀ t, unw t c = true → r.tm.get t = tm.get t) ∧ ∀ D ρ a w Q, RelT D ρ keep tm n a → RelH ρ st w → Post D keep n ρ st w Q r → Code.rounds P c Q f a w := by
      intro f
      induction f with
      | zero => intro tm st e; exact absurd e.symm hx
      | succ f ihf =>
        intro tm st e
        obtain ⟨r, h1, h0, h2⟩ := ih hok _ _ _ _ _ _ _ e hx
        cases r with
        | norm tm1 st1 =>
          obtain ⟨r2, k1, k0, k2⟩ := ihf tm1 st1 h1
          refine ⟨r2, k1, fun t ht => by rw [k0 t ht]; exact h0 t ht, fun D ρ ac w Q hA hH hQ => ?_⟩
          rw [rounds_succ]
          exact h2 D ρ ac w _ hA hH fun ρ1 a1 w1 q1 q2 q3 => k2 D ρ1 a1 w1 Q q1 q2 (hQ.trans q3)
        | exit id' tm1 st1 =>
          refine ⟨.exit id' tm1 st1, h1, h0, fun D ρ ac w Q hA hH hQ => ?_⟩
          rw [rounds_succ]
          exact h2 D ρ ac w _ hA hH fun ρ1 a1 w1 q1 q2 q3 => hQ ρ1 a1 w1 q1 q2 q3
        | ret tm1 st1 =>
          refine ⟨.ret tm1 st1, h1, h0, fun D ρ ac w Q hA hH hQ => ?_⟩
          rw [rounds_succ]
          exact h2 D ρ ac w _ hA hH fun ρ1 a1 w1 q1 q2 q3 => hQ ρ1 a1 w1 q1 q2 q3
        | pan v tm1 st1 =>
          refine ⟨.pan v tm1 st1, h1, h0, fun D ρ ac w Q hA hH hQ => ?_⟩
          rw [rounds_succ]
          exact h2 D ρ ac w _ hA hH fun ρ1 a1 w1 y q0 q1 q2 q3 => hQ ρ1 a1 w1 y q0 q1 q2 q3
    obtain ⟨r, k1, k0, k2⟩ := key F tm st e
    exact ⟨r, k1, k0, fun D ρ a w Q hA hH hQ => wp_loop_rounds F (k2 D ρ a w Q hA hH hQ)⟩
  | region id ops draw =>
    intro hok tm st kn kx kr kp x e hx
    cases draw with
    | false =>
      have e' : seqR P bad keep rk ko ops.toList ops.toList .nil tm st kn kp = x := e
      have hdst : ∀ (k : Nat) (o : Oper) (d : Nat), ops[k]? = some o → o.dst = some d → d < n := fun k o d h => okOps_dst hmn hok k o d (by simpa using h)
      obtain ⟨r, h1, h0, h2⟩ := seqR_sound hrk hko hdst ops.toList 0 rfl _ _ _ _ _ _ e' hx
      have h2' : ∀ D ρ a w Q, RelT D ρ keep tm n a → RelH ρ st w → Post D keep n ρ st w Q r → (Code.region id ops false).wp P Q a w := by
        intro D ρ a w Q hA hH hQ
        refine wp_region ?_
        rw [List.range_eq_range']
        have := h2 D ρ a w Q hA.toG hA.dom hH hQ
        simpa using this
      have h0' : ∀ t, unw t (.region id ops false) = true → r.tm.get t = tm.get t := fun t ht => h0 t (unwOps_spec ht)
      cases r with
      | norm tm1 st1 => exact ⟨.norm tm1 st1, h1, h0', h2'⟩
      | pan v tm1 st1 => exact ⟨.pan v tm1 st1, h1, h0', h2'⟩
      | exit id' tm1 st1 => exact absurd h1.symm hx
      | ret tm1 st1 => exact absurd h1.symm hx
    | true =>
      have hok' : (match compR ops.toList with | .slow => okDraw keep ops.toList | .fast _ _ => okOps m ops.toList) = true := hok
      have e' : @RI.rec (fun _ => RCK R) (fun tm st kn _ _ _ => optK bad (fun p => @Prod.rec (T AV) St (fun _ => R) kn p) (evDraw P ko n ops.toList tm st))
        (fun wr anc tm st kn _ _ _ => seqD P bad keep rk ko wr anc ops.toList ops.toList 0 .nil tm st kn (fun _ _ => bad)) (compR ops.toList) tm st kn kx kr kp = x := e
      cases hc : compR ops.toList with
      | slow =>
        rw [hc] at e' hok'
        have e2 : optK bad (fun p => @Prod.rec (T AV) St (fun _ => R) kn p) (evDraw P ko n ops.toList tm st) = x := e'
        obtain ⟨⟨tm1, st1⟩, h1, h2⟩ := optK_inv e2 hx
        obtain ⟨vals, hput⟩ := evDraw_tm h1
        refine ⟨.norm tm1 st1, h2, fun t ht => putAll_unw hput (unwOps_spec ht), fun D ρ a w Q hA hH hQ => ?_⟩
        refine evDraw_sound hko hm h1 hA.rel hH fun ρ' a' w' k1 k2 k3 => hQ ρ' a' w' ⟨k1, fun t v ht => ?_⟩ k2 k3
        rcases (putAll_spec hput).2 t v ht with ⟨k, o, g1, g2, _⟩ | ⟨g1, _⟩
        · exact okDraw_spec hok' k o t g1 g2
        · exact hA.dom t v g1
      | fast wr anc =>
        have hcc := hc
        rw [hc] at e' hok'
        have e2 : seqD P bad keep rk ko wr anc ops.toList ops.toList 0 .nil tm st kn (fun _ _ => bad) = x := e'
        unfold compR at hcc
        split at hcc
        · cases hcc
        · rename_i wr0 hwr
          cases hb : (predsOk ops.toList 0 && ordOk (ancs ops.toList 0 .leaf) ops.toList ops.toList 0) with
          | false => rw [hb] at hcc; cases hcc
          | true =>
            rw [hb] at hcc
            simp only [cond_true, RI.fast.injEq] at hcc
            obtain ⟨rfl, rfl⟩ := hcc
            rw [Bool.and_eq_true] at hb
            obtain ⟨L, locE, tmE, stE, h1, h2⟩ := seqD_inv hrk _ _ _ _ _ _ e2 hx
            refine ⟨.norm tmE stE, h1, fun t ht => ?_, fun D ρ a w Q hA hH hQ => ?_⟩
            · have hn := unwOps_spec ht
              show tmE.get t = tm.get t
              rw [← h2.ends.2.1]
              exact TrD.unwr h2 t (fun o ho => hn o ho) _ (Nat.le_refl _)
            · exact seqD_sound hko hm h2 hwr hb.1 hb.2 (fun j o d g1 g2 => okOps_dst hmn hok' j o d (by simpa using g1) g2) hA hH hQ
end
end
end Go.Proofs.Ythlcnklbeolhpaa.Ev

/-! EvPan6 -/
/- The evaluator in passing style: calls; functions that defer a function that recovers. -/
namespace Go.Proofs.Ythlcnklbeolhpaa.Ev
open Go Go.RowKit
section
variable {P : Program}

theorem okArgs_spec {keep : Nat} : ∀ {k : Nat}, okArgs keep k = true → ∀ t, t < k → keep.testBit t = true
  | 0, _, t, h => absurd h (Nat.not_lt_zero _)
  | k + 1, h, t, ht => by
    simp only [okArgs, Bool.and_eq_true] at h
    by_cases e : t = k
    · subst e; exact h.1
    · exact okArgs_spec h.2 t (by omega)
theorem enterT_dom : ∀ (args : List AV) (k : Nat) (t0 : T AV) (t : Nat) (v : AV), (enterT args k t0).get t = some v → (k ≤ t ∧ t < k + args.length) ∨ t0.get t = some v
  | [], k, t0, t, v, e => .inr e
  | u :: l, k, t0, t, v, e => by
    simp only [enterT] at e
    rcases enterT_dom l (k + 1) _ t v e with h | h
    · exact .inl ⟨by omega, by simp only [List.length_cons]; omega⟩
    · by_cases ht : t = k
      · subst ht; exact .inl ⟨Nat.le_refl _, by simp⟩
      · rw [T.get_put_ne _ _ _ ht] at h; exact .inr h
theorem enter_relT {ρ : Rho} {args : List AV} {xs : List Value} (hl : RelL ρ args xs) {keep : Nat} (hk : ∀ t, t < args.length → keep.testBit t = true) (nt : Nat) :
    RelT [] ρ keep (enterT args 0 .leaf) (args.length + (nt - args.length)) { tmps := xs.toArray ++ Array.replicate (nt - xs.toArray.size) undef, defers := [] } := by
  have hlen := hl.length
  refine ⟨⟨by simp [hlen], rfl, fun t v ht => ?_⟩, fun t v ht => ?_⟩
  · rcases enterT_get hl 0 .leaf t v ht with ⟨x, g1, _, g3⟩ | g
    · rw [Nat.sub_zero] at g1
      have hlt : t < xs.length := by
        rcases Nat.lt_or_ge t xs.length with h | h
        · exact h
        · rw [List.getElem?_eq_none h] at g1; cases g1
      refine ⟨by omega, ?_⟩
      have : (xs.toArray ++ Array.replicate (nt - xs.toArray.size) undef).getD t undef = x := by
        rw [Array.getD_eq_getD_getElem?, Array.getElem?_append_left (by simpa using hlt)]
        simp [g1]
      show RelV ρ v ((xs.toArray ++ Array.replicate (nt - xs.toArray.size) undef).getD t undef)
      rw [this]; exact g3
    · rw [T.get_leaf] at g; cases g
  · rcases enterT_dom args 0 .leaf t v ht with h | h
    · exact hk t (by omega)
    · rw [T.get_leaf] at h; cases h

section
variable {R : Type} {bad x : R} {rk : RKK R} {ko : RKO}

theorem results_sound {fn : Func} {tm : T AV} {n : Nat} {D : List Deferred} {a : Act} {ρ : Rho} {st : St} {w : World} (hA : RelA D ρ tm n a) (H : RelH ρ st w) {l : List AV} (hl : evRes P tm st.h fn.results.toList = some l) :
    ∃ y, (results fn a.tmps).run P w = .ok y w ∧ RelV ρ (oneOf l) y := by
  obtain ⟨ys, g1, g2⟩ := evRes_sound (P := P) hA H hl
  refine ⟨_, ?_, oneOf_rel g1⟩
  rw [results_eq, Sem.run_bind, list_mapM_toArray fn.results _ w ys g2]
  rfl

theorem endK_inv {rs : List ResultVar} {kret : KP R} {tm : T AV} {st : St} (h : endK P bad rs kret tm st = x) (hx : x ≠ bad) : ∃ l, evRes P tm st.h rs = some l ∧ kret (oneOf l) st = x := optK_inv h hx

/-- What is said of a call. -/
def SoundK (P : Program) (g : FuncId) (args : List AV) (st : St) (kret kpan : KP R) (x : R) : Prop := ∃ out st', Out.to kret kpan st' out = x ∧ CallsOut P g args st out st'

theorem bodyK_sound (hrk : RKOk P bad rk) (hko : CallOk P ko) (hm : P.follows .mixedOrders = true) {F keep : Nat} {g : FuncId} {fn : Func} {c : Code} (hfn : P.funcs[g]? = some fn) (hc : fn.body = some c) (hok : okC keep fn.ntmps c = true) {args : List AV} (hargs : okArgs keep args.length = true)
    {st : St} {kret kpan : KP R} (e : bodyK P bad rk ko F args st kret kpan c keep fn.ntmps fn.results.toList = x) (hx : x ≠ bad) : SoundK P g args st kret kpan x := by
  obtain ⟨r, h1, _, h2⟩ := runC_sound hrk hko hm (n := args.length + (fn.ntmps - args.length)) (by omega) c hok _ _ _ _ _ _ _ e hx
  have fin : ∀ (tm1 : T AV) (st1 : St), endK P bad fn.results.toList kret tm1 st1 = x → (r = .norm tm1 st1 ∨ r = .ret tm1 st1) → SoundK P g args st kret kpan x := by
    intro tm1 st1 he hr
    obtain ⟨l, g1, g2⟩ := endK_inv he hx
    refine ⟨.ret (oneOf l), st1, g2, fun ρ xs w hl hH => calls_of_wp hfn hc (h2 [] ρ _ w _ (enter_relT hl (okArgs_spec hargs) fn.ntmps) hH ?_)⟩
    have main : ∀ ρ' (a' : Act) w', RelT [] ρ' keep tm1 (args.length + (fn.ntmps - args.length)) a' → RelH ρ' st1 w' → Fr ρ st w ρ' st1 w' →
        a'.defers = [] ∧ ∃ v, (results fn a'.tmps).run P w' = .ok v w' ∧ ∃ ρ'', RelOut ρ'' (.ret (oneOf l)) (.returned v) ∧ RelH ρ'' st1 w' ∧ Fr ρ st w ρ'' st1 w' := by
      intro ρ' a' w' k1 k2 k3
      obtain ⟨y, q1, q2⟩ := results_sound (P := P) (fn := fn) k1.rel k2 g1
      exact ⟨k1.rel.defers, y, q1, ρ', ⟨y, rfl, q2⟩, k2, k3⟩
    rcases hr with rfl | rfl
    · exact main
    · exact main
  cases r with
  | norm tm1 st1 => exact fin tm1 st1 h1 (.inl rfl)
  | ret tm1 st1 => exact fin tm1 st1 h1 (.inr rfl)
  | exit id tm1 st1 => exact absurd h1.symm hx
  | pan v tm1 st1 =>
    refine ⟨.pan v, st1, h1, fun ρ xs w hl hH => calls_of_wp hfn hc (h2 [] ρ _ w _ (enter_relT hl (okArgs_spec hargs) fn.ntmps) hH ?_)⟩
    intro ρ' a' w' y k1 k2 k3 k4
    exact ⟨k1.rel.defers, ρ', ⟨y, rfl, k2⟩, k3, k4⟩

theorem funcOf_inv {g : FuncId} {fc : FC} (h : funcOf P g = some fc) : ∃ fn c keep, P.funcs[g]? = some fn ∧ fn.body = some c ∧ okC keep fn.ntmps c = true ∧ okArgs keep (fn.params.size + fn.nfree) = true ∧ fc = .mk c keep (fn.params.size + fn.nfree) fn.ntmps fn.results.toList := by
  unfold funcOf at h
  split at h
  case h_1 => cases h
  rename_i fn hfn
  unfold compF at h
  split at h
  case h_1 => cases h
  rename_i c hc
  cases hb : (okC (keepOf fn c) fn.ntmps c && okArgs (keepOf fn c) (fn.params.size + fn.nfree)) with
  | false => rw [hb] at h; cases h
  | true =>
    rw [hb] at h
    simp only [cond_true, Option.some.injEq] at h
    rw [Bool.and_eq_true] at hb
    exact ⟨fn, c, _, hfn, hc, hb.1, hb.2, h.symm⟩

/-- What hooks do is so. -/
def HksOk (P : Program) (hk : Hks) : Prop :=
  ∀ g args h, hk g args = some h → ∀ (R : Type) (bad : R) (rk : RKK R), RKOk P bad rk → ∀ st kret kpan x, h R bad rk args st kret kpan = x → x ≠ bad → SoundK P g args st kret kpan x

theorem callK_sound {hk : Hks} (hhk : HksOk P hk) (hrk : RKOk P bad rk) (hko : CallOk P ko) (hm : P.follows .mixedOrders = true) {F : Nat} : RKOk P bad (callK P hk F bad rk ko) := by
  intro g args st kret kpan x h hx
  unfold callK at h
  cases hg : hk g args with
  | some hook =>
    rw [hg] at h
    exact hhk g args hook hg R bad rk hrk st kret kpan x h hx
  | none =>
    rw [hg] at h
    obtain ⟨fc, h1, h2⟩ := optK_inv (k := enterK P bad rk ko F args st kret kpan) h hx
    obtain ⟨fn, c, keep, e1, e2, e3, e4, rfl⟩ := funcOf_inv h1
    obtain ⟨h3, h4⟩ := ifB_inv h2 hx
    have hlen : args.length = (fn.params.size + fn.nfree) := Nat.eq_of_beq_eq_true h3
    exact bodyK_sound hrk hko hm e1 e2 e3 (by rw [hlen]; exact e4) h4 hx

theorem runK_sound {hk : Hks} (hhk : HksOk P hk) (hm : P.follows .mixedOrders = true) {F : Nat} : ∀ (d : Nat) (R : Type) (bad : R), RKOk P bad (runK P hk F d R bad)
  | 0, R, bad => fun g args st kret kpan x h hx => absurd h.symm hx
  | d + 1, R, bad => by
    have ih := runK_sound hhk hm (F := F) d
    refine callK_sound hhk (ih R bad) (ko := fun g as st => runK P hk F d (Option (AV × St)) none g as st (fun v st' => some (v, st')) (fun _ _ => none)) ?_ hm
    intro g args st v st' h ρ xs w hl hH
    obtain ⟨out, st1, h1, h2⟩ := ih (Option (AV × St)) none g args st _ _ _ h (by simp)
    cases out with
    | pan u => cases h1
    | ret u =>
      have h1' : some (u, st1) = some (v, st') := h1
      simp only [Option.some.injEq, Prod.mk.injEq] at h1'
      obtain ⟨rfl, rfl⟩ := h1'
      refine (h2 ρ xs w hl hH).mono ?_
      rintro e w' ⟨ρ', ⟨y, rfl, q1⟩, q2, q3⟩
      exact ⟨ρ', y, rfl, q1, q2, q3⟩
end
end
end Go.Proofs.Ythlcnklbeolhpaa.Ev

/-! EvPan7 -/
/- The evaluator in passing style: functions that defer a closure that recovers. -/
namespace Go.Proofs.Ythlcnklbeolhpaa.Ev
open Go Go.RowKit
noncomputable section
/-- A function that recovers first: the slot of what it recovered, its first region, what is behind it there, the code behind. -/
inductive RecC where
  | mk (d : Nat) (all os : List Oper) (c : Code) (keep np nt : Nat)
def keepRC (fn : Func) (c : Code) (d : Nat) : Nat := keepOf fn c ||| 2 ^ d
def compRC (fn : Func) : Option RecC :=
  match fn.body with
  | some (.seq (.region id ops false) c) => match ops.toList with
    | o :: os => match o.op, o.guard, o.dst, fn.results.toList with
      | .call cl, none, some d, [] => match cl.callee with
        | .builtin .recover => bif okOps fn.ntmps (o :: os) && okC (keepRC fn (.seq (.region id ops false) c) d) fn.ntmps c && okArgs (keepRC fn (.seq (.region id ops false) c) d) (fn.params.size + fn.nfree) && (keepRC fn (.seq (.region id ops false) c) d).testBit d then some (.mk d ops.toList os c (keepRC fn (.seq (.region id ops false) c) d) (fn.params.size + fn.nfree) fn.ntmps) else none
        | _ => none
      | _, _, _, _ => none
    | [] => none
  | _ => none
def recOf (P : Program) (g : FuncId) : Option RecC := match P.funcs[g]? with
  | none => none
  | some fn => compRC fn
/-- A function that defers one call of a closure: the code ahead, how the closure is made, the closure, the code behind. -/
inductive DC where
  | mk (A : Code) (o0 : Oper) (f : Operand) (all : List Oper) (B : Code) (keep np nt : Nat) (rs : List ResultVar)
def slotOf : ResultVar → Nat
  | .tmp t => t
  | .cell a _ => a
def unwRs (c : Code) : List ResultVar → Bool
  | [] => true
  | r :: rs => unw (slotOf r) c && unwRs c rs
def compDC (fn : Func) : Option DC :=
  match fn.body with
  | some (.seq A (.seq (.region id ops false) B)) => match ops.toList with
    | [o0, o1] => match o1.op, o1.guard, o1.dst with
      | .defer cl, none, none => match cl.callee, cl.args.toList with
        | .value f, [] => bif okC (keepOf fn (.seq A (.seq (.region id ops false) B))) fn.ntmps A && okC (keepOf fn (.seq A (.seq (.region id ops false) B))) fn.ntmps B && okOps fn.ntmps [o0] && okArgs (keepOf fn (.seq A (.seq (.region id ops false) B))) (fn.params.size + fn.nfree) && unwRs B fn.results.toList
            then some (.mk A o0 f ops.toList B (keepOf fn (.seq A (.seq (.region id ops false) B))) (fn.params.size + fn.nfree) fn.ntmps fn.results.toList) else none
        | _, _ => none
      | _, _, _ => none
    | _ => none
  | _ => none

section
variable {R : Type} (P : Program) (bad : R) (rk : RKK R) (ko : RKO) (F : Nat)
/-- The closure runs; rv: what it recovers. -/
def recK (rv : AV) (args : List AV) (st : St) (kdone : St → R) (rc : RecC) : R :=
  @RecC.rec (fun _ => R) (fun d all os c keep np nt => ifB (seqR P bad keep rk ko all os .nil ((enterT args 0 .leaf).put d rv) st
    (fun tm st => runC P bad keep rk ko F (args.length + (nt - args.length)) c tm st (fun _ st => kdone st) (fun _ _ _ => bad) (fun _ st => kdone st) (fun _ _ => bad)) (fun _ _ => bad)) bad (Nat.beq args.length np)) rc
def resK (rs : List ResultVar) (kret : KP R) (tm : T AV) (st : St) : R := optK bad (fun l => kret (oneOf l) st) (evRes P tm st.h rs)
/-- The code behind, and the closure. -/
def behindK (kret : KP R) (B : Code) (keep n : Nat) (rs : List ResultVar) (tm : T AV) (st : St) (rc : RecC) (as : List AV) : R :=
  runC P bad keep rk ko F n B tm st (fun tmB stB => recK P bad rk ko F (.sc .nilIface) as stB (fun st' => resK P bad rs kret tmB st') rc) (fun _ _ _ => bad)
    (fun tmB stB => recK P bad rk ko F (.sc .nilIface) as stB (fun st' => resK P bad rs kret tmB st') rc)
    (fun v stP => recK P bad rk ko F v as stP (fun st' => resK P bad rs kret tm st') rc)
def defK (args : List AV) (st : St) (kret : KP R) (dc : DC) : R :=
  @DC.rec (fun _ => R) (fun A o0 f all B keep np nt rs => ifB (runC P bad keep rk ko F (args.length + (nt - args.length)) A (enterT args 0 .leaf) st
    (fun tm st => (opC P bad (compX keep) (evE keep) keep all o0).run rk ko (fun loc tm st _ _ => getE loc tm bad (fun fv => optK bad (fun p => @Prod.rec FuncId (List AV) (fun _ => R) (fun g as => ifB
      (optK bad (fun rc => behindK P bad rk ko F kret B keep (args.length + (nt - args.length)) rs tm st rc as) (recOf P g)) bad (callable P g)) p) (calleeA fv [])) (compX keep f)) .nil tm st (fun _ _ => bad) (fun _ _ => bad))
    (fun _ _ _ => bad) (fun _ _ => bad) (fun _ _ => bad)) bad (Nat.beq args.length np)) dc
end
def hookDef (P : Program) (F : Nat) (g : FuncId) : Hook := fun _ bad rk args st kret _ =>
  optK bad (defK P bad rk (fun _ _ _ => none) F args st kret) ((P.funcs[g]?).bind compDC)
end

section
variable {P : Program}
theorem wpS_recover {Q : Exit → Act → List Frame → World → Prop} {a : Act} {cs cs' : List Frame} {w : World} {id : Nat} {ops : Array Oper} {o : Oper} {rv : Value} {l : List Nat} (ho : ops[0]? = some o) (hw : Region.wanted o (yielded ops a.tmps) = true) (hop : (execOp a.eval o).run P w = .ok .recover w)
    (hrec : recoverD cs = some (rv, cs') ∨ (recoverD cs = none ∧ rv = .nilIface ∧ cs' = cs)) (hsz : List.range ops.size = 0 :: l) (h : wpOps P ops (fun e a' w' => Q e a' cs' w') l (a.put o.dst rv) w) : (Code.region id ops false).wpS P Q a cs w := by
  intro b k hb hro
  obtain ⟨e, a', w', hq, harr⟩ := wp_ops _ _ _ h b k cs'
  have hg := stepG_op (P := P) (b := b) (k := k) (cs := cs) (w := w) (rest := l) ho hw
  have hfin : ∀ v, (b.at a (.inRegion ops (0 :: l) :: k)).finish v = b.at (a.put o.dst v) (.inRegion ops l :: k) := by
    intro v; rw [Frame.finish_at, ho]; rfl
  have hk : (b.at a (.inRegion ops (0 :: l) :: k)).kind = .deferred := hb
  have htr := tryRecover_deferred hk cs
  refine ⟨e, a', cs', w', hq, .of_steps (.head step_region (.one ?_)) harr⟩
  rw [hsz]
  refine step_lone_go ?_
  rw [hg, ← hfin]
  simp only [Frame.at] at htr ⊢
  rcases hrec with hrec | ⟨hrec, rfl, rfl⟩
  · simp [stepG.apply, hop, htr, hrec]
  · simp [stepG.apply, hop, htr, hrec]

section
variable {R : Type} {bad x : R} {rk : RKK R} {ko : RKO}
theorem compRC_inv {fn : Func} {rc : RecC} (h : compRC fn = some rc) : ∃ id ops o os c cl d keep, fn.body = some (.seq (.region id ops false) c) ∧ ops.toList = o :: os ∧ o.op = .call cl ∧ o.guard = none ∧ o.dst = some d ∧ fn.results.toList = [] ∧ cl.callee = .builtin .recover ∧
    okOps fn.ntmps (o :: os) = true ∧ okC keep fn.ntmps c = true ∧ okArgs keep (fn.params.size + fn.nfree) = true ∧ keep.testBit d = true ∧ rc = .mk d ops.toList os c keep (fn.params.size + fn.nfree) fn.ntmps := by
  unfold compRC at h
  split at h
  case h_2 => cases h
  rename_i id ops c hb
  split at h
  case h_2 => cases h
  rename_i o os ho
  split at h
  case h_2 => cases h
  rename_i cl d h1 h2 h3 h4
  split at h
  case h_2 => cases h
  rename_i h5
  cases hok : (okOps fn.ntmps (o :: os) && okC (keepRC fn (.seq (.region id ops false) c) d) fn.ntmps c && okArgs (keepRC fn (.seq (.region id ops false) c) d) (fn.params.size + fn.nfree) && (keepRC fn (.seq (.region id ops false) c) d).testBit d) with
  | false => rw [hok] at h; cases h
  | true =>
    rw [hok] at h
    simp only [cond_true, Option.some.injEq] at h
    simp only [Bool.and_eq_true] at hok
    exact ⟨id, ops, o, os, c, cl, d, _, hb, ho, h1, h2, h3, h4, h5, hok.1.1.1, hok.1.1.2, hok.1.2, hok.2, h.symm⟩

/-- How the frame below goes on: what is recovered there, how it goes on then. -/
def Mode (u : FrameMode) (y : Value) (u' : FrameMode) : Prop :=
  (u = .returning ∧ y = .nilIface ∧ u' = .returning) ∨ (u = .panicking [{ v := y, recovered := false }] ∧ u' = .panicking [{ v := y, recovered := true }])
theorem Mode.settle {u u' : FrameMode} {y : Value} (h : Mode u y u') : Go.settle u' = .returning := by
  rcases h with ⟨_, _, rfl⟩ | ⟨_, rfl⟩ <;> rfl
theorem Mode.ne {u u' : FrameMode} {y : Value} (h : Mode u y u') : u ≠ .run := by
  rcases h with ⟨rfl, _, _⟩ | ⟨rfl, _⟩ <;> intro h <;> cases h

theorem recK_sound (hrk : RKOk P bad rk) (hko : CallOk P ko) (hm : P.follows .mixedOrders = true) {F : Nat} {g : FuncId} {fn : Func} {rc : RecC} (hfn : P.funcs[g]? = some fn) (hrc : compRC fn = some rc) {rv : AV} {args : List AV} {st : St} {kdone : St → R}
    (e : recK P bad rk ko F rv args st kdone rc = x) (hx : x ≠ bad) : ∃ st', kdone st' = x ∧ ∀ ρ ys w y u u', RelL ρ args ys → RelV ρ rv y → RelH ρ st w → Mode u y u' →
      CallsD P g ys.toArray u w fun e u1 w' => u1 = u' ∧ ∃ v, e = .returned v ∧ ∃ ρ', RelH ρ' st' w' ∧ Fr ρ st w ρ' st' w' := by
  obtain ⟨id, ops, o, os, c, cl, d, keep, hb, ho, h1, h2, h3, h4, h5, k1, k2, k3, k4, rfl⟩ := compRC_inv hrc
  obtain ⟨hnp, e1⟩ := ifB_inv (a := seqR P bad keep rk ko ops.toList os .nil ((enterT args 0 .leaf).put d rv) st
    (fun tm st => runC P bad keep rk ko F (args.length + (fn.ntmps - args.length)) c tm st (fun _ st => kdone st) (fun _ _ _ => bad) (fun _ st => kdone st) (fun _ _ => bad)) (fun _ _ => bad)) e hx
  have hlen : args.length = (fn.params.size + fn.nfree) := Nat.eq_of_beq_eq_true hnp
  have hmn : fn.ntmps ≤ args.length + (fn.ntmps - args.length) := by omega
  have hdst : ∀ (k : Nat) (o' : Oper) (d : Nat), ops[k]? = some o' → o'.dst = some d → d < args.length + (fn.ntmps - args.length) := fun k o' d hk hd => by
    refine okOps_dst hmn (os := ops.toList) (by rw [ho]; exact k1) k o' d (by simpa using hk) hd
  have ho0 : ops[0]? = some o := by
    have : ops.toList[0]? = some o := by rw [ho]; rfl
    simpa using this
  have hsize : ops.size = os.length + 1 := by
    have := congrArg List.length ho
    simpa using this
  obtain ⟨r, g1, _, g2⟩ := seqR_sound hrk hko hdst os 1 (by rw [ho]; rfl) _ _ _ _ _ _ e1 hx
  cases r with
  | exit id' tm1 st1 => exact absurd g1.symm hx
  | ret tm1 st1 => exact absurd g1.symm hx
  | pan v tm1 st1 => exact absurd g1.symm hx
  | norm tm1 st1 =>
  obtain ⟨r2, q1, _, q2⟩ := runC_sound hrk hko hm hmn c k2 _ _ _ _ _ _ _ g1 hx
  have fin : ∀ tm2 st2, (r2 = .norm tm2 st2 ∨ r2 = .ret tm2 st2) → kdone st2 = x → ∃ st', kdone st' = x ∧ ∀ ρ ys w y u u', RelL ρ args ys → RelV ρ rv y → RelH ρ st w → Mode u y u' →
      CallsD P g ys.toArray u w fun e u1 w' => u1 = u' ∧ ∃ v, e = .returned v ∧ ∃ ρ', RelH ρ' st' w' ∧ Fr ρ st w ρ' st' w' := by
    intro tm2 st2 hr2 hk
    refine ⟨st2, hk, fun ρ ys w y u u' hl hv hH hmode => callsD_of_wpS hfn hb fun c₀ cs hu => ?_⟩
    refine wpS_seq ?_
    have hE := enter_relT hl (keep := keep) (fun t ht => okArgs_spec k3 t (by omega)) fn.ntmps
    have hdl : d < args.length + (fn.ntmps - args.length) := hdst 0 o d ho0 h3
    have hw : ∀ (y : Nat → Option Bool), Region.wanted o y = true := fun y => by unfold Region.wanted; rw [h2]
    have hop : ∀ (a : Act), (execOp a.eval o).run P w = .ok .recover w := fun a => by
      unfold execOp
      rw [h1]
      obtain ⟨callee, ar, at'⟩ := cl
      simp only at h5
      subst h5
      rfl
    have hput : RelG [] ρ (evE keep .nil ((enterT args 0 .leaf).put d rv)) (args.length + (fn.ntmps - args.length)) (({ tmps := ys.toArray ++ Array.replicate (fn.ntmps - ys.toArray.size) undef, defers := [] } : Act).put o.dst y) := by
      have key := hE.toG.putE (keep := keep) (dst := o.dst) (fun d' hd' => by rw [h3] at hd'; cases hd'; exact hdl) hv
      rw [h3] at key ⊢
      unfold compD at key
      simp only [k4, cond_true] at key
      exact key
    have hdom : ∀ t v, ((enterT args 0 .leaf).put d rv).get t = some v → keep.testBit t = true := by
      intro t v ht
      by_cases htd : t = d
      · rw [htd]; exact k4
      · rw [T.get_put_ne _ _ _ htd] at ht; exact hE.dom t v ht
    have hlist : List.range ops.size = 0 :: List.range' 1 os.length := by
      rw [hsize, List.range_eq_range', List.range'_succ]
    have tail : ∀ cs', (∃ u1, cs' = { c₀ with mode := u1 } :: cs ∧ u1 = u') → wpOps P ops (fun e a' w' => Exit.thenS (c.wpS P (bodyPostS P fn c₀ cs fun e u1 w' => u1 = u' ∧ ∃ v, e = .returned v ∧ ∃ ρ', RelH ρ' st2 w' ∧ Fr ρ st w ρ' st2 w'))
        (bodyPostS P fn c₀ cs fun e u1 w' => u1 = u' ∧ ∃ v, e = .returned v ∧ ∃ ρ', RelH ρ' st2 w' ∧ Fr ρ st w ρ' st2 w') e a' cs' w') (List.range' 1 os.length) (({ tmps := ys.toArray ++ Array.replicate (fn.ntmps - ys.toArray.size) undef, defers := [] } : Act).put o.dst y) w := by
      rintro cs' ⟨u1, rfl, rfl⟩
      refine g2 [] ρ _ w _ hput hdom hH ?_
      intro ρ1 a1 w1 p1 p2 p3
      refine wpS_of_wp (q2 [] ρ1 a1 w1 _ p1 p2 ?_)
      have main : ∀ ρ2 (a2 : Act) w2, RelT [] ρ2 keep tm2 (args.length + (fn.ntmps - args.length)) a2 → RelH ρ2 st2 w2 → Fr ρ1 st1 w1 ρ2 st2 w2 →
          a2.defers = [] ∧ ∃ u', ({ c₀ with mode := u1 } : Frame) :: cs = { c₀ with mode := u' } :: cs ∧ ∃ v, (results fn a2.tmps).run P w2 = .ok v w2 ∧ (u' = u1 ∧ ∃ v', Ending.returned v = .returned v' ∧ ∃ ρ', RelH ρ' st2 w2 ∧ Fr ρ st w ρ' st2 w2) := by
        intro ρ2 a2 w2 s1 s2 s3
        refine ⟨s1.rel.defers, u1, rfl, .tuple #[], ?_, rfl, _, rfl, ρ2, s2, p3.trans s3⟩
        · rw [results_eq, Sem.run_bind, list_mapM_toArray fn.results _ w2 [] (by rw [h4]; rfl)]
          rfl
      rcases hr2 with rfl | rfl
      · exact main
      · exact main
    refine wpS_recover (rv := y) ho0 (hw _) (hop _) ?_ hlist (tail ({ c₀ with mode := u' } :: cs) ⟨u', rfl, rfl⟩)
    rcases hmode with ⟨rfl, rfl, rfl⟩ | ⟨rfl, rfl⟩
    · refine .inr ⟨?_, rfl, ?_⟩
      · simp only [recoverD, hu]
      · congr 1
        obtain ⟨⟩ := c₀
        simp only at hu
        subst hu; rfl
    · refine .inl ?_
      simp only [recoverD, hu]
  cases r2 with
  | norm tm2 st2 => exact fin tm2 st2 (.inl rfl) q1
  | ret tm2 st2 => exact fin tm2 st2 (.inr rfl) q1
  | exit id' tm2 st2 => exact absurd q1.symm hx
  | pan v tm2 st2 => exact absurd q1.symm hx
end
end
end Go.Proofs.Ythlcnklbeolhpaa.Ev

/-! EvPan8 -/
/- The evaluator in passing style: what defers a closure that recovers is sound. -/
namespace Go.Proofs.Ythlcnklbeolhpaa.Ev
open Go Go.RowKit
section
variable {P : Program}
section
variable {R : Type} {bad x : R} {rk : RKK R} {ko : RKO}

theorem compDC_inv {fn : Func} {dc : DC} (h : compDC fn = some dc) : ∃ A id ops o0 o1 cl f B keep, fn.body = some (.seq A (.seq (.region id ops false) B)) ∧ ops.toList = [o0, o1] ∧ o1.op = .defer cl ∧ o1.guard = none ∧ o1.dst = none ∧ cl.callee = .value f ∧ cl.args.toList = [] ∧
    okC keep fn.ntmps A = true ∧ okC keep fn.ntmps B = true ∧ okOps fn.ntmps [o0] = true ∧ okArgs keep (fn.params.size + fn.nfree) = true ∧ unwRs B fn.results.toList = true ∧ dc = .mk A o0 f ops.toList B keep (fn.params.size + fn.nfree) fn.ntmps fn.results.toList := by
  unfold compDC at h
  split at h
  case h_2 => cases h
  rename_i A id ops B hb
  split at h
  case h_2 => cases h
  rename_i o0 o1 ho
  split at h
  case h_2 => cases h
  rename_i cl h1 h2 h3
  split at h
  case h_2 => cases h
  rename_i f h4 h5
  cases hok : (okC (keepOf fn (.seq A (.seq (.region id ops false) B))) fn.ntmps A && okC (keepOf fn (.seq A (.seq (.region id ops false) B))) fn.ntmps B && okOps fn.ntmps [o0] && okArgs (keepOf fn (.seq A (.seq (.region id ops false) B))) (fn.params.size + fn.nfree) && unwRs B fn.results.toList) with
  | false => rw [hok] at h; cases h
  | true =>
    rw [hok] at h
    simp only [cond_true, Option.some.injEq] at h
    simp only [Bool.and_eq_true] at hok
    exact ⟨A, id, ops, o0, o1, cl, f, B, _, hb, ho, h1, h2, h3, h4, h5, hok.1.1.1.1, hok.1.1.1.2, hok.1.1.2, hok.1.2, hok.2, h.symm⟩

theorem evRes_congr {tm tm' : T AV} {h : T AO} : ∀ {rs : List ResultVar}, (∀ r ∈ rs, tm'.get (slotOf r) = tm.get (slotOf r)) → evRes P tm' h rs = evRes P tm h rs
  | [], _ => rfl
  | .tmp t :: rs, hr => by
    have h0 : tm'.get t = tm.get t := hr (.tmp t) (List.mem_cons_self ..)
    simp only [evRes, h0, evRes_congr (rs := rs) (fun r m => hr r (List.mem_cons_of_mem _ m))]
  | .cell p t :: rs, hr => by
    have h0 : tm'.get p = tm.get p := hr (.cell p t) (List.mem_cons_self ..)
    simp only [evRes, h0, evRes_congr (rs := rs) (fun r m => hr r (List.mem_cons_of_mem _ m))]
theorem unwRs_spec {c : Code} : ∀ {rs : List ResultVar}, unwRs c rs = true → ∀ r ∈ rs, unw (slotOf r) c = true
  | [], _, r, h => by cases h
  | r' :: rs, h, r, hr => by
    simp only [unwRs, Bool.and_eq_true] at h
    cases hr with
    | head => exact h.1
    | tail _ m => exact unwRs_spec h.2 r m

/-- A closure that is deferred. -/
theorem deferA_sound {ρ : Rho} {f : AV} {as : List AV} {y : Value} {g : FuncId} (hx : RelV ρ f y) (e : calleeA f [] = some (g, as)) (hc : callable P g = true) :
    ∃ cap dargs : Array Value, (∀ w, (Deferred.ofValue y #[]).run P w = .ok { target := .fn (.func g) cap, args := dargs } w) ∧ ∃ ys : List Value, RelL ρ as ys ∧ ∀ w, (invoke (.fn (.func g) cap) dargs).run P w = .ok (.enter g ys.toArray) w := by
  unfold calleeA at e
  split at e
  · rename_i g' first captured
    simp only [Option.some.injEq, Prod.mk.injEq] at e
    obtain ⟨rfl, rfl⟩ := e
    obtain ⟨fs, cs, h1, h2, rfl⟩ := relV_fn.1 hx
    refine ⟨_, _, fun w => rfl, fs ++ [] ++ cs, (h1.append (RelL.nil_iff.2 rfl)).append h2, fun w => ?_⟩
    simp only [invoke]
    rw [callFunc_run hc]; simp
  · rename_i g' first captured
    simp only [Option.some.injEq, Prod.mk.injEq] at e
    obtain ⟨rfl, rfl⟩ := e
    rw [relV_sc.1 hx]
    refine ⟨_, _, fun w => rfl, first.toList ++ [] ++ captured.toList, ((RelL.scs _).append (RelL.nil_iff.2 rfl)).append (RelL.scs _), fun w => ?_⟩
    simp only [invoke]
    rw [callFunc_run hc]
    congr 2
    apply Array.toList_inj.1; simp
  · cases e

theorem recOf_inv {g : FuncId} {rc : RecC} (h : recOf P g = some rc) : ∃ fn, P.funcs[g]? = some fn ∧ compRC fn = some rc := by
  unfold recOf at h
  split at h
  case h_1 => cases h
  rename_i fn hfn
  exact ⟨fn, hfn, h⟩

theorem resK_inv {rs : List ResultVar} {kret : KP R} {tm : T AV} {st : St} (h : resK P bad rs kret tm st = x) (hx : x ≠ bad) : ∃ l, evRes P tm st.h rs = some l ∧ kret (oneOf l) st = x := optK_inv h hx

theorem defK_sound (hrk : RKOk P bad rk) (hko : CallOk P ko) (hm : P.follows .mixedOrders = true) {F : Nat} {g : FuncId} {fn : Func} {dc : DC} (hfn : P.funcs[g]? = some fn) (hdc : compDC fn = some dc) {args : List AV} {st : St} {kret kpan : KP R}
    (e : defK P bad rk ko F args st kret dc = x) (hx : x ≠ bad) : SoundK P g args st kret kpan x := by
  obtain ⟨A, id, ops, o0, o1, cl, f, B, keep, hb, ho, h1, h2, h3, h4, h5, kA, kB, k0, kargs, kun, rfl⟩ := compDC_inv hdc
  obtain ⟨hnp, e1⟩ := ifB_inv (a := runC P bad keep rk ko F (args.length + (fn.ntmps - args.length)) A (enterT args 0 .leaf) st
    (fun tm st => (opC P bad (compX keep) (evE keep) keep ops.toList o0).run rk ko (fun loc tm st _ _ => getE loc tm bad (fun fv => optK bad (fun p => @Prod.rec FuncId (List AV) (fun _ => R) (fun g as => ifB
      (optK bad (fun rc => behindK P bad rk ko F kret B keep (args.length + (fn.ntmps - args.length)) fn.results.toList tm st rc as) (recOf P g)) bad (callable P g)) p) (calleeA fv [])) (compX keep f)) .nil tm st (fun _ _ => bad) (fun _ _ => bad))
    (fun _ _ _ => bad) (fun _ _ => bad) (fun _ _ => bad)) e hx
  have hlen : args.length = (fn.params.size + fn.nfree) := Nat.eq_of_beq_eq_true hnp
  have hmn : fn.ntmps ≤ args.length + (fn.ntmps - args.length) := by omega
  have hsize : ops.size = 2 := by
    have := congrArg List.length ho
    simpa using this
  have ho0 : ops[0]? = some o0 := by
    have : ops.toList[0]? = some o0 := by rw [ho]; rfl
    simpa using this
  have ho1 : ops[1]? = some o1 := by
    have : ops.toList[1]? = some o1 := by rw [ho]; rfl
    simpa using this
  obtain ⟨r, g1, _, g2⟩ := runC_sound hrk hko hm hmn A kA _ _ _ _ _ _ _ e1 hx
  cases r with
  | exit id' tm1 st1 => exact absurd g1.symm hx
  | ret tm1 st1 => exact absurd g1.symm hx
  | pan v tm1 st1 => exact absurd g1.symm hx
  | norm tm1 st1 =>
  rcases opC_inv (cxE_ok keep) hrk g1 hx with ⟨v0, st2, s0, e2⟩ | ⟨v0, st2, _, e2⟩
  case inr => exact absurd e2.symm hx
  obtain ⟨fv, e3, e4⟩ := cxE_ok keep R bad _ _ _ _ _ e2 hx
  obtain ⟨⟨gd, as⟩, e5, e6⟩ := optK_inv e4 hx
  obtain ⟨e7, e8⟩ := ifB_inv (a := optK bad (fun rc => behindK P bad rk ko F kret B keep (args.length + (fn.ntmps - args.length)) fn.results.toList (putT (compD keep o0.dst) v0 tm1) st2 rc as) (recOf P gd)) e6 hx
  obtain ⟨rc, e9, e10⟩ := optK_inv e8 hx
  obtain ⟨fnd, hfnd, hcompd⟩ := recOf_inv e9
  obtain ⟨rB, b1, b0, b2⟩ := runC_sound hrk hko hm hmn B kB _ _ _ _ _ _ _ e10 hx
  -- what happens, up to the code behind
  have enter : ∀ (R' : Ending → World → Prop) ρ (xs : List Value) (w : World), RelL ρ args xs → RelH ρ st w →
      (∀ ρ' (a' : Act) w' (d : Deferred) cap dargs (ys : List Value), RelT [d] ρ' keep (putT (compD keep o0.dst) v0 tm1) (args.length + (fn.ntmps - args.length)) a' → RelH ρ' st2 w' → Fr ρ st w ρ' st2 w' → d = { target := .fn (.func gd) cap, args := dargs } → RelL ρ' as ys →
        (∀ w, (invoke (.fn (.func gd) cap) dargs).run P w = .ok (.enter gd ys.toArray) w) → B.wp P (bodyPostD P fn R') a' w') →
      Calls P g xs.toArray w R' := by
    intro R' ρ xs w hl hH next
    refine calls_of_wp_defers hfn hb (wp_seq ?_)
    refine g2 [] ρ _ w _ (enter_relT hl (fun t ht => okArgs_spec kargs t (by omega)) fn.ntmps) hH ?_
    intro ρ1 a1 w1 p1 p2 p3
    refine wp_seq (wp_region ?_)
    rw [hsize]
    show wpOps P ops _ (0 :: 1 :: []) a1 w1
    rw [wpOps_cons]
    refine step_sound hko (evE_base _ _ _) ho0 s0 p1.toG p2 fun y ρ2 w2 q1 q2 q3 => ?_
    have G2 := (p1.toG.mono (q3.ext p2)).putE (dst := o0.dst) (fun d hd => okOps_dst hmn k0 0 o0 d rfl hd) q1
    have T2 := G2.toT (putT_dom p1.dom o0.dst v0)
    have hv : RelV ρ2 fv ((a1.put o0.dst y).eval f) := G2.ok (evE_base _ _ _) f fv e3
    obtain ⟨cap, dargs, d1, ys, d2, d3⟩ := deferA_sound (P := P) hv e5 e7
    rw [wpOps_cons]
    unfold wpOp
    rw [ho1]
    simp only
    have hw1 : Region.wanted o1 (yielded ops (a1.put o0.dst y).tmps) = true := by unfold Region.wanted; rw [h2]
    rw [hw1]
    simp only [if_true]
    refine .inl ?_
    have hrun : (execOp (a1.put o0.dst y).eval o1).run P w2 = .ok (.defer { target := .fn (.func gd) cap, args := dargs }) w2 := by
      unfold execOp
      rw [h1]
      obtain ⟨callee, ar, at'⟩ := cl
      simp only at h4 h5
      subst h4
      have har : ar = #[] := by apply Array.toList_inj.1; rw [h5]
      subst har
      simp only [resolve]
      rw [Sem.run_bind]
      have hmap : Array.map (a1.put o0.dst y).eval #[] = #[] := by simp
      rw [hmap, d1 w2]; rfl
    unfold Oper.wp
    rw [hrun, Oper.upon_defer, h3]
    show Exit.then (B.wp P (bodyPostD P fn R')) (bodyPostD P fn R') .normal _ w2
    refine next ρ2 _ w2 _ cap dargs ys ⟨⟨?_, ?_, ?_⟩, T2.dom⟩ q2 (p3.trans q3) rfl d2 d3
    · exact T2.rel.size
    · show _ :: (a1.put o0.dst y).defers = _
      rw [T2.rel.defers]
    · exact T2.rel.rel
  -- how it leaves
  have leave : ∀ (tmX : T AV) (stX : St) (rv : AV), recK P bad rk ko F rv as stX (fun st' => resK P bad fn.results.toList kret (putT (compD keep o0.dst) v0 tm1) st') rc = x ∨ recK P bad rk ko F rv as stX (fun st' => resK P bad fn.results.toList kret tmX st') rc = x →
      (∀ r ∈ fn.results.toList, tmX.get (slotOf r) = (putT (compD keep o0.dst) v0 tm1).get (slotOf r)) → ∃ l st', kret (oneOf l) st' = x ∧ ∀ ρ0 w0 ρ' (a' : Act) w' (d : Deferred) cap dargs (ys : List Value) y u u', RelT [d] ρ' keep tmX (args.length + (fn.ntmps - args.length)) a' → RelH ρ' stX w' → Fr ρ0 st w0 ρ' stX w' → d = { target := .fn (.func gd) cap, args := dargs } → RelL ρ' as ys →
        (∀ w, (invoke (.fn (.func gd) cap) dargs).run P w = .ok (.enter gd ys.toArray) w) → RelV ρ' rv y → Mode u y u' → Leaves P fn a'.tmps (fun e w' => ∃ ρ', RelOut ρ' (.ret (oneOf l)) e ∧ RelH ρ' st' w' ∧ Fr ρ0 st w0 ρ' st' w') a'.defers u w' := by
    intro tmX stX rv hrec hsame
    have hrec' : recK P bad rk ko F rv as stX (fun st' => resK P bad fn.results.toList kret tmX st') rc = x := by
      rcases hrec with h | h
      · have : (fun st' => resK P bad fn.results.toList kret (putT (compD keep o0.dst) v0 tm1) st') = fun st' => resK P bad fn.results.toList kret tmX st' := by
          funext st'
          unfold resK
          rw [evRes_congr hsame]
        rw [← this]; exact h
      · exact h
    obtain ⟨st', c1, c2⟩ := recK_sound hrk hko hm hfnd hcompd hrec' hx
    obtain ⟨l, c3, c4⟩ := resK_inv c1 hx
    refine ⟨l, st', c4, fun ρ0 w0 ρ' a' w' d cap dargs ys y u u' t1 t2 t3 t4 t5 t6 t7 t8 => ?_⟩
    subst t4
    rw [t1.rel.defers]
    refine leaves_cons t8.ne (t6 w') ((c2 ρ' ys w' y u u' t5 t7 t2 t8).mono ?_)
    rintro e u1 w'' ⟨rfl, vv, rfl, ρ'', m1, m2⟩
    show Leaves P fn a'.tmps _ [] (settle u1) w''
    rw [t8.settle]
    obtain ⟨yy, n1, n2⟩ := results_sound (P := P) (fn := fn) (t1.rel.mono (m2.ext t2)) m1 c3
    exact ⟨yy, n1, ρ'', ⟨yy, rfl, n2⟩, m1, t3.trans m2⟩
  have norm : ∀ tmB stB, (rB = .norm tmB stB ∨ rB = .ret tmB stB) → recK P bad rk ko F (.sc .nilIface) as stB (fun st' => resK P bad fn.results.toList kret tmB st') rc = x → SoundK P g args st kret kpan x := by
    intro tmB stB hr hrec
    have hsame : ∀ r ∈ fn.results.toList, tmB.get (slotOf r) = (putT (compD keep o0.dst) v0 tm1).get (slotOf r) := fun r hm => by
      have := b0 (slotOf r) (unwRs_spec kun r hm)
      rcases hr with rfl | rfl
      · exact this
      · exact this
    obtain ⟨l, st', c1, c2⟩ := leave tmB stB _ (.inr hrec) hsame
    refine ⟨.ret (oneOf l), st', c1, fun ρ xs w hl hH => enter _ ρ xs w hl hH fun ρ' a' w' d cap dargs ys t1 t2 t3 t4 t5 t6 => ?_⟩
    refine b2 [d] ρ' a' w' _ t1 t2 ?_
    have main : ∀ ρ2 (a2 : Act) w2, RelT [d] ρ2 keep tmB (args.length + (fn.ntmps - args.length)) a2 → RelH ρ2 stB w2 → Fr ρ' st2 w' ρ2 stB w2 →
        Leaves P fn a2.tmps (fun e w' => ∃ ρ', RelOut ρ' (.ret (oneOf l)) e ∧ RelH ρ' st' w' ∧ Fr ρ st w ρ' st' w') a2.defers .returning w2 := by
      intro ρ2 a2 w2 s1 s2 s3
      exact c2 ρ w ρ2 a2 w2 d cap dargs ys _ _ _ s1 s2 (t3.trans s3) t4 (RelL.mono (s3.ext t2) _ _ t5) t6 (RelV.sc _) (.inl ⟨rfl, rfl, rfl⟩)
    rcases hr with rfl | rfl
    · exact main
    · exact main
  cases rB with
  | norm tmB stB => exact norm tmB stB (.inl rfl) b1
  | ret tmB stB => exact norm tmB stB (.inr rfl) b1
  | exit id' tmB stB => exact absurd b1.symm hx
  | pan v tmB stB =>
    obtain ⟨l, st', c1, c2⟩ := leave tmB stB v (.inl b1) (fun r hm => b0 (slotOf r) (unwRs_spec kun r hm))
    refine ⟨.ret (oneOf l), st', c1, fun ρ xs w hl hH => enter _ ρ xs w hl hH fun ρ' a' w' d cap dargs ys t1 t2 t3 t4 t5 t6 => ?_⟩
    refine b2 [d] ρ' a' w' _ t1 t2 ?_
    intro ρ2 a2 w2 y s1 s0 s2 s3
    exact c2 ρ w ρ2 a2 w2 d cap dargs ys y _ _ s1 s2 (t3.trans s3) t4 (RelL.mono (s3.ext t2) _ _ t5) t6 s0 (.inr ⟨rfl, rfl⟩)
end
theorem hookDef_ok (hm : P.follows .mixedOrders = true) {F : Nat} {g : FuncId} : ∀ (R : Type) (bad : R) (rk : RKK R), RKOk P bad rk → ∀ args st kret kpan x, hookDef P F g R bad rk args st kret kpan = x → x ≠ bad → SoundK P g args st kret kpan x := by
  intro R bad rk hrk args st kret kpan x h hx
  unfold hookDef at h
  obtain ⟨dc, h1, h2⟩ := optK_inv (k := defK P bad rk (fun _ _ _ => none) F args st kret) h hx
  rw [Option.bind_eq_some_iff] at h1
  obtain ⟨fn, h3, h4⟩ := h1
  exact defK_sound hrk (fun g args st v st' h => by cases h) hm h3 h4 h2 hx
end
end Go.Proofs.Ythlcnklbeolhpaa.Ev

/-! EvPan9 -/
/- The evaluator in passing style: closed calls; what is known of some calls in their places. -/
namespace Go.Proofs.Ythlcnklbeolhpaa.Ev
open Go Go.RowKit
noncomputable section

/-- Hooks by a list. -/
structure Entry where
  g : FuncId
  fits : List AV → Bool
  hook : Hook
def hksOf (l : List Entry) : Hks := fun g args => @List.rec Entry (fun _ => Option Hook) none (fun p _ ih => @Entry.rec (fun _ => Option Hook) (fun g' t h => @Bool.rec (fun _ => Option Hook) ih (@Bool.rec (fun _ => Option Hook) ih (some h) (t args)) (Nat.beq g g')) p) l
def always : List AV → Bool := fun _ => true

/-- A closed call that returns a scalar. -/
def chkP (P : Program) (hk : Hks) (F d : Nat) (g : FuncId) (args : List AV) : Option Value :=
  runK P hk F d (Option Value) none g args ⟨.leaf, 1⟩ (fun v _ => v.toV) (fun _ _ => none)
def listOf (v : AV) (st : St) : Option (List Int × Option Nat) :=
  match v with
  | .sl i k n z c => bif z.beq 1 && Nat.ble 1 n then match rdCells st.h i k n with
      | some l => match allI l with
        | some xs => some (xs, c)
        | none => none
      | none => none
    else none
  | _ => none
/-- A closed call that returns a list of numbers that is new. -/
def chkPL (P : Program) (hk : Hks) (F d : Nat) (g : FuncId) (args : List AV) : Option (List Int × Option Nat) :=
  runK P hk F d (Option (List Int × Option Nat)) none g args ⟨.leaf, 1⟩ listOf (fun _ _ => none)
/-- A known number in a call's place. -/
def hookNum (f : List AV → Option Value) : Hook := fun _ bad _ args st kret _ => optK bad (fun v => kret (.sc v) st) (f args)
/-- A known list, new, in a call's place. -/
def hookList (f : List AV → Option (List Int × Option Nat)) : Hook := fun _ bad _ args st kret _ => optK bad (fun p => @Prod.rec (List Int) (Option Nat) (fun _ => _) (fun xs c =>
  optK bad (fun ao => kret (.sl st.nx 0 xs.length 1 c) ⟨st.h.put st.nx ao, Nat.succ st.nx⟩) (rowOf st.nx (xs.map fun x => .sc (.int .i64 x)))) p) (f args)
end

section
variable {P : Program}
theorem H0 (w : World) : RelH (fun _ => none) ⟨.leaf, 1⟩ w :=
  ⟨(fun i o hg => by simp [T.get_leaf] at hg), (fun i p hp => by cases hp), (fun i j oi oj p q hi => by simp [T.get_leaf] at hi), (fun i c lo hi cls t hg => by simp [T.get_leaf] at hg), Nat.one_pos⟩
theorem Fr.below {ρ' : Rho} {st' : St} {w w' : World} (h : Fr (fun _ => none) ⟨.leaf, 1⟩ w ρ' st' w') : Below w.heap.size w w' :=
  ⟨h.os, h.tape, h.output, h.size, fun b hb => h.keep b hb (by rintro ⟨j, o, q, hj, _⟩; rw [T.get_leaf] at hj; cases hj)⟩

/-- What is said of a call that returns a scalar. -/
def GivesV (P : Program) (g : FuncId) (vs : List Value) (v : Value) : Prop := ∀ w, Calls P g vs.toArray w fun e w' => e = .returned v ∧ Below w.heap.size w w'
/-- What is said of a call that returns a list of numbers that is new. -/
def GivesL (P : Program) (g : FuncId) (vs : List Value) (xs : List Int) (cap : Option Nat) : Prop := ∀ w, Calls P g vs.toArray w fun e w' => ∃ (b o c : Nat), e = .returned (.slice (some ⟨b, o, none⟩) xs.length c) ∧ xs.length ≤ c ∧ (∀ m, cap = some m → c = m) ∧ w.heap.size ≤ b ∧ b < w'.heap.size ∧
  (∀ k, k < c → w'.frozen? ⟨b, o + k, none⟩ = false ∧ ∃ x, w'.cell? ⟨b, o + k, none⟩ = some x ∧ ∀ v, xs[k]? = some v → x = .int .i64 v) ∧ Below w.heap.size w w'

theorem chkP_sound {hk : Hks} (hhk : HksOk P hk) (hm : P.follows .mixedOrders = true) {F d : Nat} {g : FuncId} {args : List AV} {vs : List Value} (hr : RelL (fun _ => none) args vs) {v : Value} (h : chkP P hk F d g args = some v) : GivesV P g vs v := by
  intro w
  obtain ⟨out, st', h1, h2⟩ := runK_sound hhk hm (F := F) d (Option Value) none g args _ _ _ _ h (by simp)
  cases out with
  | pan u => cases h1
  | ret u =>
    have h1' : u.toV = some v := h1
    refine (h2 _ vs w hr (H0 w)).mono ?_
    rintro e w' ⟨ρ', ⟨y, rfl, q1⟩, q2, q3⟩
    exact ⟨by rw [RelV.toV _ _ _ q1 h1'], q3.below⟩

theorem chkPL_sound {hk : Hks} (hhk : HksOk P hk) (hm : P.follows .mixedOrders = true) {F d : Nat} {g : FuncId} {args : List AV} {vs : List Value} (hr : RelL (fun _ => none) args vs) {xs : List Int} {c : Option Nat} (h : chkPL P hk F d g args = some (xs, c)) : GivesL P g vs xs c := by
  intro w
  obtain ⟨out, st', h1, h2⟩ := runK_sound hhk hm (F := F) d (Option (List Int × Option Nat)) none g args _ _ _ _ h (by simp)
  cases out with
  | pan u => cases h1
  | ret u =>
    have h1' : listOf u st' = some (xs, c) := h1
    refine (h2 _ vs w hr (H0 w)).mono ?_
    rintro e w' ⟨ρ', ⟨y, rfl, q1⟩, q2, q3⟩
    unfold listOf at h1'
    split at h1'
    case h_2 => cases h1'
    rename_i i k n z c'
    cases hz : (z.beq 1 && Nat.ble 1 n) with
    | false => rw [hz] at h1'; cases h1'
    | true =>
      rw [hz] at h1'
      simp only [cond_true] at h1'
      rw [Bool.and_eq_true] at hz
      have hz1 : z = 1 := Nat.eq_of_beq_eq_true hz.1
      have hn1 : 1 ≤ n := Nat.le_of_ble_eq_true hz.2
      subst hz1
      split at h1'
      case h_2 => cases h1'
      rename_i l hl
      split at h1'
      case h_2 => cases h1'
      rename_i xs' hxs
      simp only [Option.some.injEq, Prod.mk.injEq] at h1'
      obtain ⟨rfl, rfl⟩ := h1'
      obtain ⟨a, cap, p1, p2, p3, rfl⟩ := relV_sl.1 q1
      obtain ⟨ha, hroom⟩ := p1 (by omega)
      obtain ⟨zs, k1, k2, k3⟩ := q2.rds hl ha
      have k4 := allI_rel hxs k1
      subst k4
      have hlen : xs'.length = n := by simpa using k2
      obtain ⟨b, o, e, e1, e2, e3, e4⟩ := ha
      obtain ⟨b', o', e', r1, r2⟩ := hroom
      rw [e1] at r1; cases r1
      obtain ⟨a_b, a_o, a_s⟩ := a
      simp only at e2 e3 e4
      subst e2; subst e3
      have hrd : ∃ v, rdCell st'.h i k = some v := by
        cases n with
        | zero => omega
        | succ m =>
          simp only [rdCells] at hl
          split at hl
          · exact ⟨_, by assumption⟩
          · cases hl
      obtain ⟨v0, hv0⟩ := hrd
      unfold rdCell at hv0
      split at hv0
      case h_2 => cases hv0
      rename_i cc lo hi cls ww hobj
      cases hlo : (lo.ble k && k.blt hi) with
      | false => rw [hlo] at hv0; cases hv0
      | true =>
      rw [Bool.and_eq_true] at hlo
      have hlok : lo ≤ k := Nat.le_of_ble_eq_true hlo.1
      obtain ⟨b2, o2, e2, g1, g2, g3⟩ := q2.obj i _ hobj
      rw [e1] at g1; cases g1
      have hb0 := q2.dom i _ e1
      have hnew : w.heap.size ≤ a_b := by
        have hi0 : 1 ≤ i := by
          cases i with
          | zero => have := q3.old 0 (by exact Nat.one_pos); rw [e1] at this; cases this
          | succ m => omega
        rcases q3.new i _ hi0 e1 with h | ⟨j, o, q, hj, _⟩
        · exact h
        · rw [T.get_leaf] at hj; cases hj
      refine ⟨a_b, a_o, cap, by rw [hlen], by omega, p3, hnew, hb0.2, fun j hj => ?_, q3.below⟩
      obtain ⟨m, m1, m2, x, m3, _⟩ := g3 (k + j) (by omega) (by omega)
      have hm' : m = a_o + j := by omega
      subst hm'
      refine ⟨m2, x, m3, fun v hv => ?_⟩
      have k5 := k3 j (.int .i64 v) (by simp [hv])
      have hadd : (Addr.add ⟨a_b, a_o, none⟩ j) = ⟨a_b, a_o + j, none⟩ := Addr.add_lit _ _ _
      rw [hadd, m3] at k5
      exact Option.some.inj k5

theorem hookNum_ok {g : FuncId} {f : List AV → Option Value} (h : ∀ args v, f args = some v → ∃ vs, toVs args = some vs ∧ GivesV P g vs v) :
    ∀ (R : Type) (bad : R) (rk : RKK R), RKOk P bad rk → ∀ args st kret kpan x, hookNum f R bad rk args st kret kpan = x → x ≠ bad → SoundK P g args st kret kpan x := by
  intro R bad rk _ args st kret kpan x e hx
  obtain ⟨v, h1, h2⟩ := optK_inv (k := fun v => kret (.sc v) st) e hx
  obtain ⟨vs, h3, h4⟩ := h args v h1
  refine ⟨.ret (.sc v), st, h2, fun ρ xs w hl hH => ?_⟩
  have := RelL.toVs _ _ _ hl h3
  subst this
  refine (h4 w).mono ?_
  rintro e w' ⟨rfl, B⟩
  exact ⟨ρ, ⟨v, rfl, RelV.sc _⟩, ⟨fun i o hg => (hH.obj i o hg).mono (Ext.refl _) (fun p hp => B.block _ (hH.dom _ _ hp).2) (fun _ _ _ _ h => h), fun i p hp => ⟨(hH.dom i p hp).1, Nat.lt_of_lt_of_le (hH.dom i p hp).2 B.size⟩, hH.sep, hH.stamp, hH.pos⟩,
    ⟨Nat.le_refl _, fun _ _ => rfl, fun i p h e => absurd (hH.dom i p e).1 (by omega), fun _ o h _ => ⟨o, h⟩, B.size, B.os, B.tape, B.output, fun b hb _ => B.block b hb, fun i o _ h hc _ => ⟨i, o, h, hc⟩⟩⟩

theorem hookList_ok {g : FuncId} {f : List AV → Option (List Int × Option Nat)} (h : ∀ args xs c, f args = some (xs, c) → ∃ vs, toVs args = some vs ∧ GivesL P g vs xs c) :
    ∀ (R : Type) (bad : R) (rk : RKK R), RKOk P bad rk → ∀ args st kret kpan x, hookList f R bad rk args st kret kpan = x → x ≠ bad → SoundK P g args st kret kpan x := by
  intro R bad rk _ args st kret kpan x e hx
  unfold hookList at e
  obtain ⟨⟨xs, c⟩, h1, h2⟩ := optK_inv e hx
  obtain ⟨ao, h3, h4⟩ := optK_inv (k := fun ao => kret (.sl st.nx 0 xs.length 1 c) ⟨st.h.put st.nx ao, Nat.succ st.nx⟩) h2 hx
  obtain ⟨vs, h5, h6⟩ := h args xs c h1
  refine ⟨.ret _, _, h4, fun ρ ys w hl hH => ?_⟩
  have := RelL.toVs _ _ _ hl h5
  subst this
  refine (h6 w).mono ?_
  rintro e w' ⟨b, o, cp, rfl, g1, g2, g3, g4, g5, B⟩
  have hcls := rowOf_cls h3
  unfold rowOf at h3
  cases hone : allOne (xs.map fun x => AV.sc (.int .i64 x)) with
  | false => rw [hone] at h3; cases h3
  | true =>
  rw [hone] at h3
  simp only [cond_true, Option.some.injEq] at h3
  have hnone := hH.none_nx (Nat.le_refl st.nx)
  have hx' : Ext ρ (upd ρ st.nx (b, (o : Int), cp)) := ext_upd _ hnone
  refine ⟨upd ρ st.nx (b, (o : Int), cp), ⟨_, rfl, relV_sl.2 ⟨⟨b, o, none⟩, cp, fun _ => ⟨⟨b, o, cp, upd_same _ _ _, rfl, rfl, by simp⟩, ⟨b, o, cp, upd_same _ _ _, by omega⟩⟩, g1, g2, rfl⟩⟩, ?_, ?_⟩
  · refine hH.new hnone (Nat.lt_succ_self _) (Nat.le_succ _) B g3 g4 ?_ ?_
    · subst h3
      refine ⟨b, o, cp, upd_same _ _ _, by simpa using g1, fun k _ hk => ?_⟩
      obtain ⟨q1, x, q2, q3⟩ := g5 k hk
      refine ⟨o + k, by omega, q1, x, q2, fun v s hh hc _ => ?_⟩
      rw [get_lay] at hc
      rw [if_pos ⟨Nat.zero_le _, by omega⟩] at hc
      simp only [Nat.sub_zero, Option.map_eq_some_iff] at hc
      obtain ⟨u, hu, huv⟩ := hc
      cases huv
      rw [List.getElem?_map, Option.map_eq_some_iff] at hu
      obtain ⟨z, hz, rfl⟩ := hu
      rw [q3 z hz]
      exact RelV.sc _
    · intro c' lo hi cls t hao
      subst h3
      simp only [AO.cells.injEq] at hao
      obtain ⟨rfl, rfl, rfl, rfl, rfl⟩ := hao
      refine ⟨.inl rfl, fun k v s hc => ?_, fun k s hc => by simp [T.get_leaf] at hc⟩
      rw [get_lay] at hc
      split at hc
      · simp only [Option.map_eq_some_iff] at hc
        obtain ⟨u, _, huv⟩ := hc; cases huv; exact Nat.succ_pos _
      · simp [T.get_leaf] at hc
  · exact (Fr.refl _ _ _ hH).fresh (Nat.le_refl _) (Nat.le_succ _) ao hcls B g3

theorem hksOf_ok : ∀ {l : List Entry}, (∀ en ∈ l, ∀ (R : Type) (bad : R) (rk : RKK R), RKOk P bad rk → ∀ args st kret kpan x, en.hook R bad rk args st kret kpan = x → x ≠ bad → SoundK P en.g args st kret kpan x) → HksOk P (hksOf l)
  | [], _ => fun g args h e => by cases e
  | ⟨g', t, h'⟩ :: l, hl => fun g args h e => by
    have e' : @Bool.rec (fun _ => Option Hook) (hksOf l g args) (@Bool.rec (fun _ => Option Hook) (hksOf l g args) (some h') (t args)) (Nat.beq g g') = some h := e
    have rest : hksOf l g args = some h → ∀ (R : Type) (bad : R) (rk : RKK R), RKOk P bad rk → ∀ st kret kpan x, h R bad rk args st kret kpan = x → x ≠ bad → SoundK P g args st kret kpan x :=
      fun e2 => hksOf_ok (fun en m => hl en (List.mem_cons_of_mem _ m)) g args h e2
    cases hb : Nat.beq g g' with
    | true =>
      rw [hb] at e'
      cases ht : t args with
      | true =>
        rw [ht] at e'
        have e2 : some h' = some h := e'
        cases e2
        have := Nat.eq_of_beq_eq_true hb
        subst this
        exact fun R bad rk hrk => hl ⟨g, t, h'⟩ (List.mem_cons_self ..) R bad rk hrk args
      | false => rw [ht] at e'; exact rest e'
    | false => rw [hb] at e'; exact rest e'
end
end Go.Proofs.Ythlcnklbeolhpaa.Ev

/-! EvRd -/
/- The evaluator in passing style: a call that only reads, by its contract: what it returns is found from the arguments and from what they reach. -/
namespace Go.Proofs.Ythlcnklbeolhpaa.Ev
open Go Go.RowKit
noncomputable section
def hookRd (f : List AV → St → Option Value) : Hook := fun _ bad _ args st kret _ => optK bad (fun v => kret (.sc v) st) (f args st)
/-- Numbers that are not below 0. -/
def natR (ih : Option (List Nat)) (v : AV) : Option (List Nat) :=
  match v with
  | .sc (.int .i64 (.ofNat x)) => optK none (fun xs => some (x :: xs)) ih
  | _ => none
def natsR (l : List AV) : Option (List Nat) := @List.rec AV (fun _ => Option (List Nat)) (some []) (fun v _ ih => natR ih v) l
end
section
variable {P : Program}
theorem RelH.below {ρ : Rho} {st : St} {w w' : World} (hH : RelH ρ st w) (B : Below w.heap.size w w') : RelH ρ st w' ∧ Fr ρ st w ρ st w' :=
  ⟨⟨fun i o hg => (hH.obj i o hg).mono (Ext.refl _) (fun p hp => B.block _ (hH.dom _ _ hp).2) (fun _ _ _ _ h => h), fun i p hp => ⟨(hH.dom i p hp).1, Nat.lt_of_lt_of_le (hH.dom i p hp).2 B.size⟩, hH.sep, hH.stamp, hH.pos⟩,
    ⟨Nat.le_refl _, fun _ _ => rfl, fun i p h e => absurd (hH.dom i p e).1 (by omega), fun _ o h _ => ⟨o, h⟩, B.size, B.os, B.tape, B.output, fun b hb _ => B.block b hb, fun i o _ h hc _ => ⟨i, o, h, hc⟩⟩⟩
theorem hookRd_ok {g : FuncId} {f : List AV → St → Option Value} (h : ∀ args st v, f args st = some v → ∀ ρ vs w, RelL ρ args vs → RelH ρ st w → Calls P g vs.toArray w fun e w' => e = .returned v ∧ Below w.heap.size w w') :
    ∀ (R : Type) (bad : R) (rk : RKK R), RKOk P bad rk → ∀ args st kret kpan x, hookRd f R bad rk args st kret kpan = x → x ≠ bad → SoundK P g args st kret kpan x := by
  intro R bad rk _ args st kret kpan x e hx
  obtain ⟨v, h1, h2⟩ := optK_inv (k := fun v => kret (.sc v) st) e hx
  refine ⟨.ret (.sc v), st, h2, fun ρ xs w hl hH => ?_⟩
  refine (h args st v h1 ρ xs w hl hH).mono ?_
  rintro e w' ⟨rfl, B⟩
  obtain ⟨q1, q2⟩ := hH.below B
  exact ⟨ρ, ⟨v, rfl, RelV.sc _⟩, q1, q2⟩
theorem natsR_rel {ρ : Rho} : ∀ {l : List AV} {xs : List Nat} {vs : List Value}, natsR l = some xs → RelL ρ l vs → vs = xs.map fun x => .int .i64 (Int.ofNat x)
  | [], xs, vs, h, hr => by
    have h' : some [] = some xs := h
    simp only [Option.some.injEq] at h'; subst h'
    exact RelL.nil_iff.1 hr
  | u :: l, xs, vs, h, hr => by
    obtain ⟨y, ys, h1, h2, rfl⟩ := hr.cons_inv
    have h' : natR (natsR l) u = some xs := h
    unfold natR at h'
    split at h'
    case h_2 => cases h'
    rename_i x
    cases hz : natsR l with
    | none => rw [hz] at h'; cases h'
    | some zs =>
      rw [hz] at h'
      have h2' : some (x :: zs) = some xs := h'
      simp only [Option.some.injEq] at h2'; subst h2'
      rw [relV_sc.1 h1, natsR_rel hz h2]; rfl
/-- A slice of numbers, read. -/
theorem rd_nats {ρ : Rho} {st : St} {w : World} (hH : RelH ρ st w) {i k n z : Nat} {c : Option Nat} {x : Value} (hx : RelV ρ (.sl i k n z c) x) (hn : 1 ≤ n) {N : Nat} {l : List AV} (hl : rdsF st.h i k N = some l) {xs : List Nat} (hxs : natsR l = some xs) :
    ∃ b o cap, x = .slice (some ⟨b, o, none⟩) n cap ∧ xs.length = N ∧ ∀ j (h : j < xs.length), w.cell? ⟨b, o + j, none⟩ = some (.int .i64 (xs[j] : Nat)) := by
  rw [rdsF_eq] at hl
  obtain ⟨a, cap, p1, p2, _, rfl⟩ := relV_sl.1 hx
  obtain ⟨ha, _⟩ := p1 (by omega)
  obtain ⟨zs, k1, k2, k3⟩ := hH.rds hl ha
  have k4 := natsR_rel hxs k1
  subst k4
  obtain ⟨b, o, e', e1, e2, e3, e4⟩ := ha
  obtain ⟨a_b, a_o, a_s⟩ := a
  simp only at e2 e3 e4
  subst e2; subst e3
  refine ⟨a_b, a_o, cap, rfl, by simpa using k2, fun j hj => ?_⟩
  have := k3 j (.int .i64 (Int.ofNat xs[j])) (by simp [hj])
  have hadd : (Addr.add ⟨a_b, a_o, none⟩ j) = ⟨a_b, a_o + j, none⟩ := Addr.add_lit _ _ _
  rw [hadd] at this
  rw [this]
  rfl
end
end Go.Proofs.Ythlcnklbeolhpaa.Ev
