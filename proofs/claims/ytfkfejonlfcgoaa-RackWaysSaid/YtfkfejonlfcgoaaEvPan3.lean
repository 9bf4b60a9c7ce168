/- The evaluator in passing style is sound: single steps, regions in the written order. -/
import Derived.Test.YtfkfejonlfcgoaaEvPan2
namespace Go.Proofs.Ytfkfejonlfcgoaa.Ev
open Go Go.RowKit
section
variable {P : Program} {D : List Deferred}

/-- The slots that an operation may read. -/
structure RelG (D : List Deferred) (ρ : Rho) (ev : Operand → Option AV) (n : Nat) (a : Act) : Prop where
  size : a.tmps.size = n
  defers : a.defers = D
  rel : ∀ t v, ev (.tmp t) = some v → t < n ∧ RelV ρ v (a.tmps.getD t undef)
/-- Constants are what they are. -/
def EvBase (ev : Operand → Option AV) : Prop := ∀ x v, ev x = some v → (∃ t, x = .tmp t) ∨ (∃ u, x = .const u ∧ v = .sc u) ∨ ∃ f, x = .func f ∧ v = .sc (.func (.func f) #[] #[])
theorem evE_base (keep : Nat) (loc : Loc) (tm : T AV) : EvBase (evE keep loc tm) := by
  intro x v h
  cases x with
  | tmp t => exact .inl ⟨t, rfl⟩
  | const u => cases h; exact .inr (.inl ⟨u, rfl, rfl⟩)
  | func f => cases h; exact .inr (.inr ⟨f, rfl, rfl⟩)
  | global g => cases h
theorem evD_base (keep : Nat) (wr anc : T Nat) (i : Nat) (loc : Loc) (tm : T AV) : EvBase (evD keep wr anc i loc tm) := by
  intro x v h
  cases x with
  | tmp t => exact .inl ⟨t, rfl⟩
  | const u => cases h; exact .inr (.inl ⟨u, rfl, rfl⟩)
  | func f => cases h; exact .inr (.inr ⟨f, rfl, rfl⟩)
  | global g => cases h
variable {ρ : Rho} {n : Nat} {a : Act}
theorem RelG.mono {ρ' : Rho} {ev : Operand → Option AV} (h : RelG D ρ ev n a) (hx : Ext ρ ρ') : RelG D ρ' ev n a :=
  ⟨h.size, h.defers, fun t v e => ⟨(h.rel t v e).1, RelV.mono hx _ _ (h.rel t v e).2⟩⟩
theorem RelG.ok {ev : Operand → Option AV} (h : RelG D ρ ev n a) (hb : EvBase ev) : EvOk ρ ev a.eval := by
  intro x v e
  rcases hb x v e with ⟨t, rfl⟩ | ⟨u, rfl, rfl⟩ | ⟨f, rfl, rfl⟩
  · exact (h.rel t v e).2
  · exact RelV.sc _
  · exact RelV.sc _
theorem RelG.wanted {ev : Operand → Option AV} (h : RelG D ρ ev n a) {ops : Array Oper} {o : Oper} {b : Bool} (e : wantedA ops.toList (fun t => ev (.tmp t)) o = some b) : Region.wanted o (yielded ops a.tmps) = b :=
  wantedA_sound (ρ := ρ) (ops := ops) (tmps := a.tmps) (fun d v hd => by rw [h.size]; exact h.rel d v hd) e
theorem RelG.putE {keep : Nat} {loc : Loc} {tm : T AV} (h : RelG D ρ (evE keep loc tm) n a) {dst : Option Tmp} {v : AV} {y : Value} (hd : ∀ d, dst = some d → d < n) (hv : RelV ρ v y) :
    RelG D ρ (evE keep (putL (compD keep dst) v loc) (putT (compD keep dst) v tm)) n (a.put dst y) := by
  refine ⟨by cases dst <;> simp [Act.put, h.size], by cases dst <;> simp [Act.put, h.defers], fun t u hu => ?_⟩
  have hu' : slotE keep (putL (compD keep dst) v loc) (putT (compD keep dst) v tm) t = some u := hu
  rw [slotE_put] at hu'
  by_cases ht : dst = some t
  · rw [if_pos ht] at hu'
    subst ht
    cases hu'
    exact ⟨hd t rfl, by simp [Act.put, h.size, hd t rfl]; exact hv⟩
  · rw [if_neg ht] at hu'
    obtain ⟨h1, h2⟩ := h.rel t u hu'
    refine ⟨h1, ?_⟩
    cases dst with
    | none => exact h2
    | some d =>
      have hne : d ≠ t := fun e => ht (by rw [e])
      have : (a.put (some d) y).tmps.getD t undef = a.tmps.getD t undef := by
        simp [Act.put, Array.getD_eq_getD_getElem?, Array.getElem?_setIfInBounds_ne hne]
      rw [this]; exact h2

variable {st : St} {w : World}
theorem isIfc_rel {v : AV} {y : Value} (h : RelV ρ v y) (hi : isIfc v = true) : ∃ t u, y = .iface t u := by
  unfold isIfc at hi
  split at hi
  · obtain ⟨u, _, rfl⟩ := relV_ifc.1 h; exact ⟨_, _, rfl⟩
  · exact ⟨_, _, relV_sc.1 h⟩
  · cases hi

theorem step_sound {ko : RKO} (hko : CallOk P ko) {ev : Operand → Option AV} (hb : EvBase ev) {A : Array Oper} {i : Nat} {o : Oper} (ho : A[i]? = some o) {v : AV} {st' : St} (s : Step P ko ev A.toList o st v st') (G : RelG D ρ ev n a) (H : RelH ρ st w)
    {K : Act → World → Prop} {Q : Exit → Act → World → Prop} (hK : ∀ y ρ' w', RelV ρ' v y → RelH ρ' st' w' → Fr ρ st w ρ' st' w' → K (a.put o.dst y) w') : wpOp P A Q i K a w := by
  unfold wpOp
  rw [ho]
  simp only
  rcases s with ⟨hw, rfl, rfl⟩ | ⟨hw, s⟩
  · rw [G.wanted hw]
    simp only [Bool.false_eq_true, if_false]
    exact hK undef ρ w (RelV.sc _) H (Fr.refl _ _ _ H)
  · rw [G.wanted hw]
    simp only [if_true]
    rcases s with h1 | ⟨g, as, _, h1, k2⟩
    · exact .inl (evOp_sound hko H (G.ok hb) h1 _ _ fun y ρ' w' g1 g2 g3 => hK y ρ' w' g1 g2 g3)
    · obtain ⟨ys, g1, g2⟩ := h1 ρ a w (G.ok hb)
      refine .inl ?_
      unfold Oper.wp
      rw [g2, Oper.upon_enter]
      refine (k2 ρ ys w g1 H).mono ?_
      rintro e w' ⟨ρ', ⟨y, rfl, q1⟩, q2, q3⟩
      exact hK y ρ' w' q1 q2 q3
theorem stepPan_sound {ev : Operand → Option AV} (hb : EvBase ev) {A : Array Oper} {i : Nat} {o : Oper} (ho : A[i]? = some o) {v : AV} {st' : St} (s : StepPan P ev A.toList o st v st') (G : RelG D ρ ev n a) (H : RelH ρ st w)
    {K : Act → World → Prop} {Q : Exit → Act → World → Prop} (hQ : ∀ y ρ' w', RelV ρ' v y → RelH ρ' st' w' → Fr ρ st w ρ' st' w' → Q (.panic [{ v := y, recovered := false }]) a w') : wpOp P A Q i K a w := by
  unfold wpOp
  rw [ho]
  simp only
  obtain ⟨hw, s⟩ := s
  rw [G.wanted hw]
  simp only [if_true]
  refine .inl ?_
  rcases s with ⟨xo, h1, h2, h3, rfl⟩ | ⟨g, as, h1, k2⟩
  · have hv := (G.ok hb) xo v h2
    obtain ⟨t, u, hy⟩ := isIfc_rel hv h3
    unfold Oper.wp execOp
    rw [h1]
    simp only
    have : (Instr.panic (a.eval xo)).run P w = .halt (.panic (a.eval xo)) w := by rw [hy]; exact run_panic_iface t u w
    rw [Sem.run_bind, this]
    exact hQ _ ρ w hv H (Fr.refl _ _ _ H)
  · obtain ⟨ys, g1, g2⟩ := h1 ρ a w (G.ok hb)
    unfold Oper.wp
    rw [g2, Oper.upon_enter]
    refine (k2 ρ ys w g1 H).mono ?_
    rintro e w' ⟨ρ', ⟨y, rfl, q1⟩, q2, q3⟩
    exact hQ y ρ' w' q1 q2 q3
end

section
variable {R : Type} {P : Program} {D : List Deferred} {bad x : R}

/-- How code goes on. -/
inductive CR where
  | norm (tm : T AV) (st : St)
  | exit (id : Nat) (tm : T AV) (st : St)
  | ret (tm : T AV) (st : St)
  | pan (v : AV) (tm : T AV) (st : St)
/-- The slots behind it. -/
def CR.tm : CR → T AV
  | .norm tm _ => tm
  | .exit _ tm _ => tm
  | .ret tm _ => tm
  | .pan _ tm _ => tm
def CR.to (kn : KN R) (kx : Nat → KN R) (kr : KN R) (kp : KP R) : CR → R
  | .norm tm st => kn tm st
  | .exit id tm st => kx id tm st
  | .ret tm st => kr tm st
  | .pan v _ st => kp v st
/-- Slots in the tree: those that stay. -/
structure RelT (D : List Deferred) (ρ : Rho) (keep : Nat) (tm : T AV) (n : Nat) (a : Act) : Prop where
  rel : RelA D ρ tm n a
  dom : ∀ t v, tm.get t = some v → keep.testBit t = true
theorem RelT.mono {ρ ρ' : Rho} {keep : Nat} {tm : T AV} {n : Nat} {a : Act} (h : RelT D ρ keep tm n a) (hx : Ext ρ ρ') : RelT D ρ' keep tm n a := ⟨h.rel.mono hx, h.dom⟩
def Post (D : List Deferred) (keep n : Nat) (ρ : Rho) (st : St) (w : World) (Q : Exit → Act → World → Prop) : CR → Prop
  | .norm tm' st' => ∀ ρ' a' w', RelT D ρ' keep tm' n a' → RelH ρ' st' w' → Fr ρ st w ρ' st' w' → Q .normal a' w'
  | .exit id tm' st' => ∀ ρ' a' w', RelT D ρ' keep tm' n a' → RelH ρ' st' w' → Fr ρ st w ρ' st' w' → Q (.exit id) a' w'
  | .ret tm' st' => ∀ ρ' a' w', RelT D ρ' keep tm' n a' → RelH ρ' st' w' → Fr ρ st w ρ' st' w' → Q .ret a' w'
  | .pan v tm' st' => ∀ ρ' (a' : Act) w' y, RelT D ρ' keep tm' n a' → RelV ρ' v y → RelH ρ' st' w' → Fr ρ st w ρ' st' w' → Q (.panic [{ v := y, recovered := false }]) a' w'
theorem Post.trans {keep n : Nat} {ρ ρ1 : Rho} {st st1 : St} {w w1 : World} {Q : Exit → Act → World → Prop} (F : Fr ρ st w ρ1 st1 w1) : ∀ {r : CR}, Post D keep n ρ st w Q r → Post D keep n ρ1 st1 w1 Q r
  | .norm _ _, h => fun ρ' a' w' k1 k2 k3 => h ρ' a' w' k1 k2 (F.trans k3)
  | .exit _ _ _, h => fun ρ' a' w' k1 k2 k3 => h ρ' a' w' k1 k2 (F.trans k3)
  | .ret _ _, h => fun ρ' a' w' k1 k2 k3 => h ρ' a' w' k1 k2 (F.trans k3)
  | .pan _ _ _, h => fun ρ' a' w' y k0 k1 k2 k3 => h ρ' a' w' y k0 k1 k2 (F.trans k3)

theorem putT_ne {keep : Nat} {tm : T AV} {dst : Option Tmp} {v : AV} {t : Nat} (h : dst ≠ some t) : (putT (compD keep dst) v tm).get t = tm.get t := by
  cases dst with
  | none => rfl
  | some d =>
    unfold compD
    simp only
    cases hb : keep.testBit d with
    | false => rfl
    | true => exact T.get_put_ne _ _ _ (fun e => h (by rw [e]))
theorem putT_dom {keep : Nat} {tm : T AV} (h : ∀ t v, tm.get t = some v → keep.testBit t = true) (dst : Option Tmp) (v : AV) : ∀ t u, (putT (compD keep dst) v tm).get t = some u → keep.testBit t = true := by
  intro t u hu
  cases dst with
  | none => exact h t u hu
  | some d =>
    unfold compD at hu
    simp only at hu
    cases hb : keep.testBit d with
    | false => rw [hb] at hu; exact h t u hu
    | true =>
      rw [hb] at hu
      have hu' : (tm.put d v).get t = some u := hu
      by_cases ht : t = d
      · rw [ht]; exact hb
      · rw [T.get_put_ne _ _ _ ht] at hu'; exact h t u hu'
/-- From the tree to a region's beginning, and back. -/
theorem RelT.toG {ρ : Rho} {keep : Nat} {tm : T AV} {n : Nat} {a : Act} (h : RelT D ρ keep tm n a) : RelG D ρ (evE keep .nil tm) n a := by
  refine ⟨h.rel.size, h.rel.defers, fun t v e => h.rel.rel t v ?_⟩
  have e' : slotE keep .nil tm t = some v := e
  unfold slotE at e'
  cases hb : keep.testBit t with
  | true => rw [hb] at e'; exact e'
  | false => rw [hb] at e'; cases e'
theorem RelG.toT {ρ : Rho} {keep : Nat} {loc : Loc} {tm : T AV} {n : Nat} {a : Act} (h : RelG D ρ (evE keep loc tm) n a) (hd : ∀ t v, tm.get t = some v → keep.testBit t = true) : RelT D ρ keep tm n a := by
  refine ⟨⟨h.size, h.defers, fun t v e => h.rel t v ?_⟩, hd⟩
  show slotE keep loc tm t = some v
  unfold slotE
  rw [hd t v e]; exact e

theorem okOps_dst {m n : Nat} (hmn : m ≤ n) : ∀ {os : List Oper}, okOps m os = true → ∀ (k : Nat) (o : Oper) (d : Nat), os[k]? = some o → o.dst = some d → d < n
  | [], _, k, o, d, h, _ => by simp at h
  | o :: os, h, k, o', d, hk, hd => by
    simp only [okOps, Bool.and_eq_true] at h
    cases k with
    | zero =>
      simp at hk; subst hk
      have h1 := h.1
      rw [hd] at h1
      exact Nat.lt_of_lt_of_le (Nat.blt_eq ▸ h1) hmn
    | succ k => exact okOps_dst hmn h.2 k o' d (by simpa using hk) hd

theorem seqR_sound {rk : RKK R} {ko : RKO} (hrk : RKOk P bad rk) (hko : CallOk P ko) {keep n : Nat} {ops : Array Oper} (hdst : ∀ (k : Nat) (o : Oper) (d : Nat), ops[k]? = some o → o.dst = some d → d < n) :
    ∀ (os : List Oper) (i : Nat), ops.toList.drop i = os → ∀ (loc : Loc) (tm : T AV) (st : St) (kn : KN R) (kp : KP R) (x : R), seqR P bad keep rk ko ops.toList os loc tm st kn kp = x → x ≠ bad →
      ∃ r : CR, r.to kn (fun _ _ _ => bad) (fun _ _ => bad) kp = x ∧ (∀ t, (∀ o ∈ os, o.dst ≠ some t) → r.tm.get t = tm.get t) ∧ ∀ D ρ a w Q, RelG D ρ (evE keep loc tm) n a → (∀ t v, tm.get t = some v → keep.testBit t = true) → RelH ρ st w → Post D keep n ρ st w Q r → wpOps P ops Q (List.range' i os.length) a w
  | [], i, _, loc, tm, st, kn, kp, x, e, hx => ⟨.norm tm st, e, fun _ _ => rfl, fun D ρ a w Q hA hd hH hQ => hQ ρ a w (hA.toT hd) hH (Fr.refl _ _ _ hH)⟩
  | o :: os, i, hd, loc, tm, st, kn, kp, x, e, hx => by
    have hlt : i < ops.toList.length := by
      rcases Nat.lt_or_ge i ops.toList.length with h | h
      · exact h
      · rw [List.drop_eq_nil_of_le h] at hd; cases hd
    have ho : ops[i]? = some o := by
      rw [List.drop_eq_getElem_cons hlt] at hd
      have := (List.cons.inj hd).1
      rw [← this]; simp at hlt ⊢
    have hd' : ops.toList.drop (i + 1) = os := by
      rw [List.drop_eq_getElem_cons hlt] at hd
      exact (List.cons.inj hd).2
    have ih := seqR_sound hrk hko (keep := keep) hdst (ops := ops) os (i + 1) hd'
    have e' : (opC P bad (compX keep) (evE keep) keep ops.toList o).run rk ko (seqR P bad keep rk ko ops.toList os) loc tm st kn kp = x := e
    have unf : ∀ {Q : Exit → Act → World → Prop} {a : Act} {w : World}, wpOp P ops Q i (wpOps P ops Q (List.range' (i + 1) os.length)) a w → wpOps P ops Q (List.range' i (o :: os).length) a w := by
      intro Q a w h
      rw [List.length_cons, List.range'_succ, wpOps_cons]
      exact h
    rcases opC_inv (cxE_ok keep) hrk e' hx with ⟨v, st', s, h2⟩ | ⟨v, st', s, h2⟩
    · obtain ⟨r, k1, k0, k2⟩ := ih _ _ _ _ _ _ h2 hx
      refine ⟨r, k1, fun t ht => by rw [k0 t (fun o' ho' => ht o' (List.mem_cons_of_mem _ ho')), putT_ne (ht o (List.mem_cons_self ..))], fun D ρ a w Q hA hdm hH hQ => unf (step_sound hko (evE_base _ _ _) ho s hA hH fun y ρ' w' g1 g2 g3 => ?_)⟩
      exact k2 D ρ' _ w' Q ((hA.mono (g3.ext hH)).putE (fun d hd => hdst i o d ho hd) g1) (putT_dom hdm _ _) g2 (hQ.trans g3)
    · refine ⟨.pan v tm st', h2, fun _ _ => rfl, fun D ρ a w Q hA hdm hH hQ => unf (stepPan_sound (evE_base _ _ _) ho s hA hH fun y ρ' w' g1 g2 g3 => ?_)⟩
      exact hQ ρ' a w' y ((hA.mono (g3.ext hH)).toT hdm) g1 g2 g3
end
end Go.Proofs.Ytfkfejonlfcgoaa.Ev
