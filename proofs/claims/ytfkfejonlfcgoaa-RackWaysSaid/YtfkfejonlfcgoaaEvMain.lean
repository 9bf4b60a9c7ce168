import Derived.Test.YtfkfejonlfcgoaaEvDraw5
import Derived.LoopN
namespace Go.Proofs.Ytfkfejonlfcgoaa.Ev
open Go Go.RowKit
section
variable {P : Program} {D : List Deferred}

theorem putAll_spec {n : Nat} {vals : T AV} : ∀ {os : List Oper} {i : Nat} {tm tm' : T AV}, putAll n vals os i tm = some tm' →
    (∀ (k : Nat) (o : Oper) (d : Nat), os[k]? = some o → o.dst = some d → d < n) ∧
    (∀ t v, tm'.get t = some v → (∃ (k : Nat) (o : Oper), os[k]? = some o ∧ o.dst = some t ∧ vals.get (i + k) = some v) ∨ (tm.get t = some v ∧ ∀ (k : Nat) (o : Oper), os[k]? = some o → o.dst ≠ some t))
  | [], i, tm, tm', e => by
    simp only [putAll, Option.some.injEq] at e; subst e
    exact ⟨fun k o d h => by simp at h, fun t v h => .inr ⟨h, fun k o h => by simp at h⟩⟩
  | o :: os, i, tm, tm', e => by
    simp only [putAll] at e
    split at e
    case h_1 => cases e
    rename_i v0 hv0
    split at e
    case h_2 => cases e
    rename_i tm1 hp
    obtain ⟨h1, h2⟩ := putAll_spec e
    unfold putA at hp
    refine ⟨fun k o' d hk hd => ?_, fun t v h => ?_⟩
    · cases k with
      | zero =>
        simp at hk; subst hk
        rw [hd] at hp
        simp only at hp
        cases hb : d.blt n with
        | false => rw [hb] at hp; cases hp
        | true => simpa [Nat.blt_eq] using hb
      | succ k => exact h1 k o' d (by simpa using hk) hd
    · rcases h2 t v h with ⟨k, o', g1, g2, g3⟩ | ⟨g1, g2⟩
      · exact .inl ⟨k + 1, o', by simpa using g1, g2, by rw [show i + (k + 1) = i + 1 + k by omega]; exact g3⟩
      · have step : ∀ k o', (o :: os)[k]? = some o' → (k = 0 ∧ o' = o) ∨ ∃ k', k = k' + 1 ∧ os[k']? = some o' := by
          intro k o' hk
          cases k with
          | zero => simp at hk; exact .inl ⟨rfl, hk.symm⟩
          | succ k => exact .inr ⟨k, rfl, by simpa using hk⟩
        cases hd : o.dst with
        | none =>
          rw [hd] at hp
          simp only [Option.some.injEq] at hp; subst hp
          refine .inr ⟨g1, fun k o' hk => ?_⟩
          rcases step k o' hk with ⟨_, rfl⟩ | ⟨k', _, hk'⟩
          · rw [hd]; simp
          · exact g2 k' o' hk'
        | some d =>
          rw [hd] at hp
          simp only at hp
          cases hb : d.blt n with
          | false => rw [hb] at hp; cases hp
          | true =>
            rw [hb] at hp; simp only [cond_true, Option.some.injEq] at hp; subst hp
            by_cases ht : t = d
            · subst ht
              rw [T.get_put_same] at g1; cases g1
              exact .inl ⟨0, o, rfl, hd, hv0⟩
            · rw [T.get_put_ne _ _ _ ht] at g1
              refine .inr ⟨g1, fun k o' hk => ?_⟩
              rcases step k o' hk with ⟨_, rfl⟩ | ⟨k', _, hk'⟩
              · rw [hd]; intro h; exact ht (Option.some.inj h).symm
              · exact g2 k' o' hk'

theorem evDraw_sound {call : FuncId → List AV → St → Option (AV × St)} (hcall : CallOk P call) (hm : P.follows .mixedOrders = true) {n id : Nat} {A : Array Oper} {tm tm' : T AV} {st st' : St} (e : evDraw P call n A.toList tm st = some (tm', st'))
    {ρ : Rho} {a : Act} {w : World} {Q : Exit → Act → World → Prop} (hA : RelA D ρ tm n a) (hH : RelH ρ st w) (hQ : ∀ ρ' a' w', RelA D ρ' tm' n a' → RelH ρ' st' w' → Fr ρ st w ρ' st' w' → Q .normal a' w') : (Code.region id A true).wp P Q a w := by
  unfold evDraw at e
  split at e
  case h_1 => cases e
  rename_i wr hwr
  cases hpo : predsOk A.toList 0 with
  | false => rw [hpo] at e; cases e
  | true =>
  rw [hpo] at e; simp only [cond_true] at e
  split at e
  case h_1 => cases e
  rename_i ph hpass
  split at e
  case h_1 => cases e
  rename_i phF hrest
  split at e
  case h_2 => cases e
  rename_i tm1 hput
  simp only [Option.some.injEq, Prod.mk.injEq] at e
  obtain ⟨rfl, rfl⟩ := e
  obtain ⟨hn0, hslots⟩ := putAll_spec hput
  have hn : ∀ (j : Nat) (o : Oper) (d : Nat), A[j]? = some o → o.dst = some d → d < n := fun j o d h1 h2 => hn0 j o d (by simpa using h1) h2
  obtain ⟨hle, hok, hp⟩ := passG_ok (P := P) (wr := wr) (xm := maskOf (xsOf A.toList 0)) (tm := tm) (anc := ancs A.toList 0 .leaf) A.toList 0 rfl (ph := ⟨.leaf, st, [], 0, 0⟩)
    ⟨fun i u o _ _ h => by simp [T.get_leaf] at h, fun e he => by simp at he, List.Pairwise.nil, fun e he => by simp at he⟩ (fun j hj => absurd hj (Nat.not_lt_zero _)) hpass
  have hnew : ∀ e ∈ ph.pend, st.nx ≤ e.2.1 := fun e he => by
    rcases hle.newp e he with h | h
    · simp at h
    · exact h.1
  have hh : ph.st.h = st.h := hle.heap
  refine wp_region_any hm ?_
  have hL0 : ∀ j, isL (Array.replicate A.size false) j = false := by
    intro j
    unfold isL
    rw [Array.getD_eq_getD_getElem?, Array.getElem?_replicate]
    split <;> rfl
  have hview : ∀ k o, (viewP (isL (Array.replicate A.size false)) ph.pend ph.st.h).get k = some o → st.h.get k = some o := by
    intro k o hg
    rw [viewP_other (fun e _ hp' => by rw [hL0] at hp'; cases hp'), hh] at hg; exact hg
  have hst : (⟨st.h, st.nx⟩ : St) = st := rfl
  have I : InvR D A tm n (xsOf A.toList 0) (xsOf A.toList 0) ρ st w ph (Array.replicate A.size false) ρ a { w with drawn := w.drawn + 1 } := by
    refine ⟨by simp, fun j o h => ?_, fun i => ?_, fun i => ?_, fun i h => ?_, hA.size, hA.defers, fun t v h _ => hA.rel t v h, fun j o h => ?_, (hH.drew.up hle.nx).sub hview, ?_, fun e he => ?_, hnew, fun e he _ => hH.none_nx (hnew e he), fun e he j o hj hc => ?_, fun e he h => ?_⟩
    · rw [hL0] at h; cases h
    · rw [hle.done, hL0]; simp
    · rw [hL0]; simp
    · rw [hle.gone] at h; simp at h
    · rw [hL0] at h; cases h
    · exact (show Fr ρ st w ρ ⟨st.h, st.nx⟩ w.drew from ⟨Nat.le_refl _, fun _ _ => rfl, fun i p h e => absurd (hH.dom i p e).1 (by omega), fun _ o h _ => ⟨o, h⟩, Nat.le_refl _, rfl, rfl, rfl, fun _ _ _ => rfl, fun i o _ h hc _ => ⟨i, o, h, hc⟩⟩).congr hview hle.nx
    · rw [hh]
      cases hg : st.h.get e.2.1 with
      | none => rfl
      | some o => have := hH.has hg; have := hnew e he; omega
    · rw [hh] at hj
      cases o with
      | map es cl => simp [AO.cls?] at hc
      | cells c lo hi cls t =>
        simp only [AO.cls?, Option.some.injEq] at hc
        obtain ⟨q, hq⟩ := (hH.stamp _ _ _ _ _ _ hj).1
        have := (hH.dom _ _ hq).1
        have := hnew e he
        omega
    · rw [hL0] at h; cases h
  refine drawAny hcall rfl hwr hn hpo (fun listed ρ' a' w' I' hokF hall => ?_) (xsOf A.toList 0) ph (xsOf_lt).1 hok hp hrest A.size (List.range A.size) (Array.replicate A.size false) ρ a _ I (by simp) (fun i hi _ => List.mem_range.2 hi)
  have hsub : ∀ k o, (viewP (fun _ => true) phF.pend phF.st.h).get k = some o → (viewP (isL listed) phF.pend phF.st.h).get k = some o := fun k o hg =>
    viewP_sub hokF.apart hokF.apart (fun e he _ => ⟨he, by
      obtain ⟨o', _, _, g1, _⟩ := hokF.pend e he
      exact hall e.1 (Array.getElem?_eq_some_iff.1 (by simpa using g1)).1⟩) I'.pnone hg
  refine hQ ρ' a' w' ⟨I'.asize, I'.defers, fun t v ht => ?_⟩ (I'.heap.sub hsub) (I'.fr.congr hsub (Nat.le_refl _))
  rcases hslots t v ht with ⟨k, o, g1, g2, g3⟩ | ⟨g1, g2⟩
  · rw [Nat.zero_add] at g3
    have g1' : A[k]? = some o := by simpa using g1
    obtain ⟨v2, k1, k2⟩ := I'.vals k o (hall k (Array.getElem?_eq_some_iff.1 g1').1) g1'
    rw [g3] at k1; cases k1
    exact ⟨hn k o t g1' g2, k2 t g2⟩
  · exact I'.slots t v g1 (fun j o _ ho => g2 j o (by simpa using ho))

/-- What an oracle says of a function is so. -/
def OrcOk (P : Program) (orc : Orc) : Prop :=
  ∀ g f vs v, orc g = some f → f vs = some v → ∀ w, Calls P g vs.toArray w fun e w' => e = .returned v ∧ Below w.heap.size w w'

def exOf : Ex → Exit
  | .normal => .normal
  | .exit id => .exit id
  | .ret => .ret

def resOne (tmps : Array Value) : ResultVar → Sem Value
  | .tmp t => pure (tmps.getD t undef)
  | .cell a t => do loadVar t (← asAddr (tmps.getD a undef))
theorem results_eq (fn : Func) (tmps : Array Value) : results fn tmps = fn.results.mapM (resOne tmps) >>= fun vs => pure (if h : vs.size = 1 then vs[0] else .tuple vs) := by
  unfold results
  congr 2

theorem evRes_sound {tm : T AV} {n : Nat} {a : Act} {ρ : Rho} {st : St} {w : World} (hA : RelA D ρ tm n a) (H : RelH ρ st w) : ∀ {rs : List ResultVar} {l : List AV}, evRes P tm st.h rs = some l →
    ∃ xs : List Value, RelL ρ l xs ∧ (rs.mapM (resOne a.tmps)).run P w = .ok xs w
  | [], l, e => by
    simp only [evRes, Option.some.injEq] at e; subst e
    exact ⟨[], RelL.nil_iff.2 rfl, rfl⟩
  | .tmp t :: rs, l, e => by
    simp only [evRes] at e
    split at e
    case h_1 => cases e
    rename_i v hv
    split at e
    case h_2 => cases e
    rename_i l' hl
    simp only [Option.some.injEq] at e; subst e
    obtain ⟨xs, h1, h2⟩ := evRes_sound hA H hl
    refine ⟨_ :: xs, RelL.cons (hA.rel t v hv).2 h1, ?_⟩
    rw [List.mapM_cons, Sem.run_bind]
    simp only [resOne, Sem.run_pure, Result.andThen_ok]
    rw [Sem.run_bind, h2]; rfl
  | .cell p t :: rs, l, e => by
    simp only [evRes] at e
    split at e
    case h_2 => cases e
    rename_i i k hp
    split at e
    case h_1 => cases e
    rename_i v hv
    split at e
    case h_2 => cases e
    rename_i l' hl
    simp only [Option.some.injEq] at e; subst e
    obtain ⟨xs, h1, h2⟩ := evRes_sound hA H hl
    obtain ⟨ad, had, hpt⟩ := relV_ptr.1 (hA.rel p _ hp).2
    obtain ⟨y, g1, g2⟩ := loadA_sound (P := P) H hv had
    refine ⟨y :: xs, RelL.cons g2 h1, ?_⟩
    rw [List.mapM_cons, Sem.run_bind]
    have : (resOne a.tmps (.cell p t)).run P w = .ok y w := by
      unfold resOne
      simp only
      rw [hpt, Sem.run_bind]; exact g1
    rw [this]; simp only [Result.andThen_ok]
    rw [Sem.run_bind, h2]; rfl

theorem oneOf_rel {ρ : Rho} {l : List AV} {xs : List Value} (h : RelL ρ l xs) : RelV ρ (oneOf l) (if h : xs.toArray.size = 1 then xs.toArray[0] else .tuple xs.toArray) := by
  cases l with
  | nil =>
    have := RelL.nil_iff.1 h
    subst this
    exact relV_tup.2 ⟨[], h, rfl⟩
  | cons u l =>
    obtain ⟨y, ys, h1, h2, rfl⟩ := h.cons_inv
    cases l with
    | nil =>
      have := RelL.nil_iff.1 h2
      subst this
      exact h1
    | cons u2 l =>
      obtain ⟨y2, ys2, h3, h4, rfl⟩ := h2.cons_inv
      exact relV_tup.2 ⟨y :: y2 :: ys2, h, rfl⟩

theorem enterT_get {ρ : Rho} : ∀ {args : List AV} {xs : List Value} (_ : RelL ρ args xs) (k : Nat) (t0 : T AV) (t : Nat) (v : AV), (enterT args k t0).get t = some v →
    (∃ x, xs[t - k]? = some x ∧ k ≤ t ∧ RelV ρ v x) ∨ t0.get t = some v
  | [], _, _, k, t0, t, v, e => .inr e
  | u :: l, _, h, k, t0, t, v, e => by
    obtain ⟨y, ys, h1, h2, rfl⟩ := h.cons_inv
    simp only [enterT] at e
    rcases enterT_get h2 (k + 1) _ t v e with ⟨x, g1, g2, g3⟩ | g
    · exact .inl ⟨x, by rw [show t - k = (t - (k + 1)) + 1 by omega, List.getElem?_cons_succ]; exact g1, by omega, g3⟩
    · by_cases ht : t = k
      · subst ht
        rw [T.get_put_same] at g; cases g
        exact .inl ⟨y, by simp, Nat.le_refl _, h1⟩
      · rw [T.get_put_ne _ _ _ ht] at g; exact .inr g

theorem list_mapM_toArray {α β : Type} (a : Array α) (g : α → Sem β) (w : World) (l : List β) (h : (a.toList.mapM g).run P w = .ok l w) : (a.mapM g).run P w = .ok l.toArray w := by
  rw [Array.mapM_eq_mapM_toList]
  rw [Sem.run_map, h]; rfl

theorem ev_sound (hm : P.follows .mixedOrders = true) {orc : Orc} (horc : OrcOk P orc) : ∀ f,
    (∀ (n : Nat) (c : Code) (tm : T AV) (st : St) (r : Ex × T AV × St), evC P orc f n c tm st = some r → ∀ (ρ : Rho) (a : Act) (w : World) (Q : Exit → Act → World → Prop), RelA [] ρ tm n a → RelH ρ st w →
      (∀ ρ' a' w', RelA [] ρ' r.2.1 n a' → RelH ρ' r.2.2 w' → Fr ρ st w ρ' r.2.2 w' → Q (exOf r.1) a' w') →
      (match c with | .loop c' => Code.rounds P c' Q f a w | c => c.wp P Q a w)) ∧ CallOk P (evCall P orc f) := by
  intro f
  induction f with
  | zero =>
    refine ⟨fun n c tm st r e => by simp [evC] at e, fun g args st v st' e => by simp [evCall] at e⟩
  | succ f ih =>
    obtain ⟨ihC, ihK⟩ := ih
    have ihW : ∀ (n : Nat) (c : Code) (tm : T AV) (st : St) (r : Ex × T AV × St), evC P orc f n c tm st = some r → ∀ (ρ : Rho) (a : Act) (w : World) (Q : Exit → Act → World → Prop), RelA [] ρ tm n a → RelH ρ st w →
      (∀ ρ' a' w', RelA [] ρ' r.2.1 n a' → RelH ρ' r.2.2 w' → Fr ρ st w ρ' r.2.2 w' → Q (exOf r.1) a' w') → c.wp P Q a w := by
      intro n c tm st r e ρ a w Q hA hH hQ
      have := ihC n c tm st r e ρ a w Q hA hH hQ
      cases c <;> first | exact this | exact wp_loop_rounds f this
    refine ⟨fun n c tm st r e ρ a w Q hA hH hQ => ?_, fun g args st v st' e ρ xs w hl hH => ?_⟩
    · cases c with
      | skip =>
        simp only [evC, Option.some.injEq] at e; subst e
        exact wp_skip (hQ ρ a w hA hH (Fr.refl _ _ _ hH))
      | label l =>
        simp only [evC, Option.some.injEq] at e; subst e
        exact wp_label (hQ ρ a w hA hH (Fr.refl _ _ _ hH))
      | exit id =>
        simp only [evC, Option.some.injEq] at e; subst e
        exact wp_exit (hQ ρ a w hA hH (Fr.refl _ _ _ hH))
      | ret =>
        simp only [evC, Option.some.injEq] at e; subst e
        exact wp_ret (hQ ρ a w hA hH (Fr.refl _ _ _ hH))
      | seq x y =>
        simp only [evC] at e
        refine wp_seq ?_
        split at e
        · rename_i tm1 st1 h1
          refine ihW n x tm st _ h1 ρ a w _ hA hH (fun ρ1 a1 w1 k1 k2 k3 => ?_)
          exact ihW n y tm1 st1 r e ρ1 a1 w1 Q k1 k2 (fun ρ2 a2 w2 q1 q2 q3 => hQ ρ2 a2 w2 q1 q2 (k3.trans q3))
        · rename_i hne
          refine ihW n x tm st r e ρ a w _ hA hH (fun ρ1 a1 w1 k1 k2 k3 => ?_)
          have hq := hQ ρ1 a1 w1 k1 k2 k3
          obtain ⟨ex, tm1, st1⟩ := r
          cases ex with
          | normal => exact absurd e (hne tm1 st1)
          | exit id => exact hq
          | ret => exact hq
      | cond x y z =>
        simp only [evC] at e
        split at e
        · rename_i hx
          exact wp_cond (relV_sc.1 (hA.ok x _ hx)) (ihW n y tm st r e ρ a w Q hA hH hQ)
        · rename_i hx
          exact wp_cond (relV_sc.1 (hA.ok x _ hx)) (ihW n z tm st r e ρ a w Q hA hH hQ)
        · cases e
      | block id c =>
        simp only [evC] at e
        refine wp_block ?_
        split at e
        · rename_i id' tm1 st1 h1
          refine ihW n c tm st _ h1 ρ a w _ hA hH (fun ρ1 a1 w1 k1 k2 k3 => ?_)
          show (if id' = id then Q .normal a1 w1 else Q (.exit id') a1 w1)
          cases hb : id'.beq id with
          | true =>
            rw [hb] at e; simp only [cond_true, Option.some.injEq] at e; subst e
            rw [if_pos (Nat.eq_of_beq_eq_true hb)]
            exact hQ ρ1 a1 w1 k1 k2 k3
          | false =>
            rw [hb] at e; simp only [cond_false, Option.some.injEq] at e; subst e
            rw [if_neg (Nat.ne_of_beq_eq_false hb)]
            exact hQ ρ1 a1 w1 k1 k2 k3
        · rename_i hne
          refine ihW n c tm st r e ρ a w _ hA hH (fun ρ1 a1 w1 k1 k2 k3 => ?_)
          have hq := hQ ρ1 a1 w1 k1 k2 k3
          obtain ⟨ex, tm1, st1⟩ := r
          cases ex with
          | normal => exact hq
          | exit id' => exact absurd e (hne id' tm1 st1)
          | ret => exact hq
      | loop c =>
        simp only [evC] at e
        show Code.rounds P c Q (f + 1) a w
        rw [rounds_succ]
        split at e
        · rename_i tm1 st1 h1
          refine ihW n c tm st _ h1 ρ a w _ hA hH (fun ρ1 a1 w1 k1 k2 k3 => ?_)
          exact ihC n (.loop c) tm1 st1 r e ρ1 a1 w1 Q k1 k2 (fun ρ2 a2 w2 q1 q2 q3 => hQ ρ2 a2 w2 q1 q2 (k3.trans q3))
        · rename_i hne
          refine ihW n c tm st r e ρ a w _ hA hH (fun ρ1 a1 w1 k1 k2 k3 => ?_)
          have hq := hQ ρ1 a1 w1 k1 k2 k3
          obtain ⟨ex, tm1, st1⟩ := r
          cases ex with
          | normal => exact absurd e (hne tm1 st1)
          | exit id => exact hq
          | ret => exact hq
      | scope c =>
        simp only [evC] at e
        refine wp_scope_straight ?_
        refine ihW n c tm st r e ρ a w _ hA hH (fun ρ1 a1 w1 k1 k2 k3 => ?_)
        have hq := hQ ρ1 a1 w1 k1 k2 k3
        obtain ⟨ex, tm1, st1⟩ := r
        cases ex <;> exact hq
      | region id ops draw =>
        cases draw with
        | false =>
          simp only [evC] at e
          split at e
          case h_2 => cases e
          rename_i tm1 st1 h1
          simp only [Option.some.injEq] at e; subst e
          refine wp_region ?_
          rw [List.range_eq_range']
          have := evSeq_sound ihK ops.toList 0 rfl h1 hA hH (Q := Q) (fun ρ1 a1 w1 k1 k2 k3 => hQ ρ1 a1 w1 k1 k2 k3)
          simpa using this
        | true =>
          simp only [evC] at e
          split at e
          case h_2 => cases e
          rename_i tm1 st1 h1
          simp only [Option.some.injEq] at e; subst e
          exact evDraw_sound ihK hm h1 hA hH (fun ρ1 a1 w1 k1 k2 k3 => hQ ρ1 a1 w1 k1 k2 k3)
      | rangeFunc _ _ _ _ => simp [evC] at e
      | goto _ => simp [evC] at e
      | refuse _ => simp [evC] at e
    · simp only [evCall] at e
      split at e
      · cases e
      · rename_i v0 hask
        simp only [Option.some.injEq, Prod.mk.injEq] at e
        obtain ⟨rfl, rfl⟩ := e
        unfold askO at hask
        split at hask
        case h_1 => cases hask
        rename_i fo ho
        split at hask
        case h_1 => cases hask
        rename_i vs hvs
        split at hask
        case h_2 => cases hask
        rename_i v1 hv1
        simp only [Option.some.injEq] at hask; subst hask
        have hx := RelL.toVs _ _ _ hl hvs
        subst hx
        refine (horc g fo xs v1 ho hv1 w).mono ?_
        rintro e w' ⟨rfl, B⟩
        have Hn : RelH ρ st w' := by
          refine ⟨fun i o hg => (hH.obj i o hg).mono (Ext.refl _) (fun p hp => B.block _ (hH.dom _ _ hp).2) (fun _ _ _ _ h => h), fun i p hp => ⟨(hH.dom i p hp).1, Nat.lt_of_lt_of_le (hH.dom i p hp).2 B.size⟩, hH.sep, hH.stamp, hH.pos⟩
        exact ⟨ρ, v1, rfl, RelV.sc _, Hn, ⟨Nat.le_refl _, fun _ _ => rfl, fun i p h e => absurd (hH.dom i p e).1 (by omega), fun _ o h _ => ⟨o, h⟩, B.size, B.os, B.tape, B.output, fun b hb _ => B.block b hb, fun i o _ h hc _ => ⟨i, o, h, hc⟩⟩⟩
      · split at e
        case h_1 => cases e
        rename_i fn hfn
        split at e
        case h_1 => cases e
        rename_i c hc
        have hlen := hl.length
        have hA0 : RelA [] ρ (enterT args 0 .leaf) (args.length + (fn.ntmps - args.length)) { tmps := xs.toArray ++ Array.replicate (fn.ntmps - xs.toArray.size) undef, defers := [] } := by
          refine ⟨by simp [hlen], rfl, fun t v ht => ?_⟩
          rcases enterT_get hl 0 .leaf t v ht with ⟨x, g1, _, g3⟩ | g
          · rw [Nat.sub_zero] at g1
            have hlt : t < xs.length := by
              rcases Nat.lt_or_ge t xs.length with h | h
              · exact h
              · rw [List.getElem?_eq_none h] at g1; cases g1
            refine ⟨by omega, ?_⟩
            have : (xs.toArray ++ Array.replicate (fn.ntmps - xs.toArray.size) undef).getD t undef = x := by
              rw [Array.getD_eq_getD_getElem?, Array.getElem?_append_left (by simpa using hlt)]
              simp [g1]
            show RelV ρ v ((xs.toArray ++ Array.replicate (fn.ntmps - xs.toArray.size) undef).getD t undef)
            rw [this]; exact g3
          · rw [T.get_leaf] at g; cases g
        have fin : ∀ {ex : Ex} {tm1 : T AV} {st1 : St}, evC P orc f (args.length + (fn.ntmps - args.length)) c (enterT args 0 .leaf) st = some (ex, tm1, st1) → (exOf ex = .normal ∨ exOf ex = .ret) → ∀ l, evRes P tm1 st1.h fn.results.toList = some l → v = oneOf l → st' = st1 →
            Calls P g xs.toArray w fun e w' => ∃ ρ' y, e = .returned y ∧ RelV ρ' v y ∧ RelH ρ' st' w' ∧ Fr ρ st w ρ' st' w' := by
          intro ex tm1 st1 hev hex l hl' hv hst
          subst hv; subst hst
          refine calls_of_wp hfn hc ?_
          refine ihW _ c _ st _ hev ρ _ w _ hA0 hH (fun ρ1 a1 w1 k1 k2 k3 => ?_)
          obtain ⟨ys, g1, g2⟩ := evRes_sound (P := P) k1 k2 hl'
          have hres : (results fn a1.tmps).run P w1 = .ok (if h : ys.toArray.size = 1 then ys.toArray[0] else .tuple ys.toArray) w1 := by
            rw [results_eq, Sem.run_bind, list_mapM_toArray fn.results _ w1 ys g2]
            rfl
          have hb : a1.defers = [] ∧ ∃ v, (results fn a1.tmps).run P w1 = .ok v w1 ∧ (∃ ρ' y, Ending.returned v = .returned y ∧ RelV ρ' (oneOf l) y ∧ RelH ρ' st' w1 ∧ Fr ρ st w ρ' st' w1) :=
            ⟨k1.defers, _, hres, ρ1, _, rfl, oneOf_rel g1, k2, k3⟩
          rcases hex with h | h
          · rw [h]; exact hb
          · rw [h]; exact hb
        split at e
        · rename_i tm1 st1 hev
          split at e
          case h_2 => cases e
          rename_i l hl'
          simp only [Option.some.injEq, Prod.mk.injEq] at e
          exact fin hev (.inl rfl) l hl' e.1.symm e.2.symm
        · rename_i tm1 st1 hev
          split at e
          case h_2 => cases e
          rename_i l hl'
          simp only [Option.some.injEq, Prod.mk.injEq] at e
          exact fin hev (.inr rfl) l hl' e.1.symm e.2.symm
        · cases e

/-- WHAT THE EVALUATOR SAYS OF A CLOSED CALL. -/
theorem chk_sound (hm : P.follows .mixedOrders = true) {orc : Orc} (horc : OrcOk P orc) {f : Nat} {g : FuncId} {args : List Value} {v : Value} (h : chk P orc f g args = some v) (w : World) :
    Calls P g args.toArray w fun e w' => e = .returned v ∧ Below w.heap.size w w' := by
  unfold chk at h
  split at h
  case h_2 => cases h
  rename_i u st' he
  have H0 : RelH (fun _ => none) ⟨.leaf, 1⟩ w := ⟨(fun i o hg => by simp [T.get_leaf] at hg), (fun i p hp => by cases hp), (fun i j oi oj p q hi => by simp [T.get_leaf] at hi), (fun i c lo hi cls t hg => by simp [T.get_leaf] at hg), Nat.one_pos⟩
  refine ((ev_sound hm horc f).2 g (scs args) ⟨.leaf, 1⟩ u st' he _ args w (RelL.scs _) H0).mono ?_
  rintro e w' ⟨ρ', y, rfl, h1, h2, h3⟩
  refine ⟨by rw [RelV.toV _ _ _ h1 h], ⟨h3.os, h3.tape, h3.output, h3.size, fun b hb => h3.keep b hb ?_⟩⟩
  rintro ⟨j, o, q, hj, _⟩
  rw [T.get_leaf] at hj; cases hj
end
end Go.Proofs.Ytfkfejonlfcgoaa.Ev
