/- The evaluator in passing style: functions that defer a closure that recovers. -/
import Derived.Test.YtfkfejonlfcgoaaEvPan6
namespace Go.Proofs.Ytfkfejonlfcgoaa.Ev
open Go Go.RowKit
noncomputable section
/-- A function that recovers first: the slot of what it recovered, its first region, what is behind it there, the code behind. -/
inductive RecC where
  | mk (d : Nat) (all os : List Oper) (c : Code) (keep np nt : Nat)
def keepRC (fn : Func) (c : Code) (d : Nat) : Nat := keepOf fn c ||| 2 ^ d
def compRC (fn : Func) : Option RecC :=
  match fn.body with
  | some (.seq (.region id ops false) c) => match ops.toList with
    | o :: os => match o.op, o.guard, o.dst, fn.results.toList with
      | .call cl, none, some d, [] => match cl.callee with
        | .builtin .recover => bif okOps fn.ntmps (o :: os) && okC (keepRC fn (.seq (.region id ops false) c) d) fn.ntmps c && okArgs (keepRC fn (.seq (.region id ops false) c) d) (fn.params.size + fn.nfree) && (keepRC fn (.seq (.region id ops false) c) d).testBit d then some (.mk d ops.toList os c (keepRC fn (.seq (.region id ops false) c) d) (fn.params.size + fn.nfree) fn.ntmps) else none
        | _ => none
      | _, _, _, _ => none
    | [] => none
  | _ => none
def recOf (P : Program) (g : FuncId) : Option RecC := match P.funcs[g]? with
  | none => none
  | some fn => compRC fn
/-- A function that defers one call of a closure: the code ahead, how the closure is made, the closure, the code behind. -/
inductive DC where
  | mk (A : Code) (o0 : Oper) (f : Operand) (all : List Oper) (B : Code) (keep np nt : Nat) (rs : List ResultVar)
def slotOf : ResultVar → Nat
  | .tmp t => t
  | .cell a _ => a
def unwRs (c : Code) : List ResultVar → Bool
  | [] => true
  | r :: rs => unw (slotOf r) c && unwRs c rs
def compDC (fn : Func) : Option DC :=
  match fn.body with
  | some (.seq A (.seq (.region id ops false) B)) => match ops.toList with
    | [o0, o1] => match o1.op, o1.guard, o1.dst with
      | .defer cl, none, none => match cl.callee, cl.args.toList with
        | .value f, [] => bif okC (keepOf fn (.seq A (.seq (.region id ops false) B))) fn.ntmps A && okC (keepOf fn (.seq A (.seq (.region id ops false) B))) fn.ntmps B && okOps fn.ntmps [o0] && okArgs (keepOf fn (.seq A (.seq (.region id ops false) B))) (fn.params.size + fn.nfree) && unwRs B fn.results.toList
            then some (.mk A o0 f ops.toList B (keepOf fn (.seq A (.seq (.region id ops false) B))) (fn.params.size + fn.nfree) fn.ntmps fn.results.toList) else none
        | _, _ => none
      | _, _, _ => none
    | _ => none
  | _ => none

section
variable {R : Type} (P : Program) (bad : R) (rk : RKK R) (ko : RKO) (F : Nat)
/-- The closure runs; rv: what it recovers. -/
def recK (rv : AV) (args : List AV) (st : St) (kdone : St → R) (rc : RecC) : R :=
  @RecC.rec (fun _ => R) (fun d all os c keep np nt => ifB (seqR P bad keep rk ko all os .nil ((enterT args 0 .leaf).put d rv) st
    (fun tm st => runC P bad keep rk ko F (args.length + (nt - args.length)) c tm st (fun _ st => kdone st) (fun _ _ _ => bad) (fun _ st => kdone st) (fun _ _ => bad)) (fun _ _ => bad)) bad (Nat.beq args.length np)) rc
def resK (rs : List ResultVar) (kret : KP R) (tm : T AV) (st : St) : R := optK bad (fun l => kret (oneOf l) st) (evRes P tm st.h rs)
/-- The code behind, and the closure. -/
def behindK (kret : KP R) (B : Code) (keep n : Nat) (rs : List ResultVar) (tm : T AV) (st : St) (rc : RecC) (as : List AV) : R :=
  runC P bad keep rk ko F n B tm st (fun tmB stB => recK P bad rk ko F (.sc .nilIface) as stB (fun st' => resK P bad rs kret tmB st') rc) (fun _ _ _ => bad)
    (fun tmB stB => recK P bad rk ko F (.sc .nilIface) as stB (fun st' => resK P bad rs kret tmB st') rc)
    (fun v stP => recK P bad rk ko F v as stP (fun st' => resK P bad rs kret tm st') rc)
def defK (args : List AV) (st : St) (kret : KP R) (dc : DC) : R :=
  @DC.rec (fun _ => R) (fun A o0 f all B keep np nt rs => ifB (runC P bad keep rk ko F (args.length + (nt - args.length)) A (enterT args 0 .leaf) st
    (fun tm st => (opC P bad (compX keep) (evE keep) keep all o0).run rk ko (fun loc tm st _ _ => getE loc tm bad (fun fv => optK bad (fun p => @Prod.rec FuncId (List AV) (fun _ => R) (fun g as => ifB
      (optK bad (fun rc => behindK P bad rk ko F kret B keep (args.length + (nt - args.length)) rs tm st rc as) (recOf P g)) bad (callable P g)) p) (calleeA fv [])) (compX keep f)) .nil tm st (fun _ _ => bad) (fun _ _ => bad))
    (fun _ _ _ => bad) (fun _ _ => bad) (fun _ _ => bad)) bad (Nat.beq args.length np)) dc
end
def hookDef (P : Program) (F : Nat) (g : FuncId) : Hook := fun _ bad rk args st kret _ =>
  optK bad (defK P bad rk (fun _ _ _ => none) F args st kret) ((P.funcs[g]?).bind compDC)
end

section
variable {P : Program}
theorem wpS_recover {Q : Exit → Act → List Frame → World → Prop} {a : Act} {cs cs' : List Frame} {w : World} {id : Nat} {ops : Array Oper} {o : Oper} {rv : Value} {l : List Nat} (ho : ops[0]? = some o) (hw : Region.wanted o (yielded ops a.tmps) = true) (hop : (execOp a.eval o).run P w = .ok .recover w)
    (hrec : recoverD cs = some (rv, cs') ∨ (recoverD cs = none ∧ rv = .nilIface ∧ cs' = cs)) (hsz : List.range ops.size = 0 :: l) (h : wpOps P ops (fun e a' w' => Q e a' cs' w') l (a.put o.dst rv) w) : (Code.region id ops false).wpS P Q a cs w := by
  intro b k hb hro
  obtain ⟨e, a', w', hq, harr⟩ := wp_ops _ _ _ h b k cs'
  have hg := stepG_op (P := P) (b := b) (k := k) (cs := cs) (w := w) (rest := l) ho hw
  have hfin : ∀ v, (b.at a (.inRegion ops (0 :: l) :: k)).finish v = b.at (a.put o.dst v) (.inRegion ops l :: k) := by
    intro v; rw [Frame.finish_at, ho]; rfl
  have hk : (b.at a (.inRegion ops (0 :: l) :: k)).kind = .deferred := hb
  have htr := tryRecover_deferred hk cs
  refine ⟨e, a', cs', w', hq, .of_steps (.head step_region (.one ?_)) harr⟩
  rw [hsz]
  refine step_lone_go ?_
  rw [hg, ← hfin]
  simp only [Frame.at] at htr ⊢
  rcases hrec with hrec | ⟨hrec, rfl, rfl⟩
  · simp [stepG.apply, hop, htr, hrec]
  · simp [stepG.apply, hop, htr, hrec]

section
variable {R : Type} {bad x : R} {rk : RKK R} {ko : RKO}
theorem compRC_inv {fn : Func} {rc : RecC} (h : compRC fn = some rc) : ∃ id ops o os c cl d keep, fn.body = some (.seq (.region id ops false) c) ∧ ops.toList = o :: os ∧ o.op = .call cl ∧ o.guard = none ∧ o.dst = some d ∧ fn.results.toList = [] ∧ cl.callee = .builtin .recover ∧
    okOps fn.ntmps (o :: os) = true ∧ okC keep fn.ntmps c = true ∧ okArgs keep (fn.params.size + fn.nfree) = true ∧ keep.testBit d = true ∧ rc = .mk d ops.toList os c keep (fn.params.size + fn.nfree) fn.ntmps := by
  unfold compRC at h
  split at h
  case h_2 => cases h
  rename_i id ops c hb
  split at h
  case h_2 => cases h
  rename_i o os ho
  split at h
  case h_2 => cases h
  rename_i cl d h1 h2 h3 h4
  split at h
  case h_2 => cases h
  rename_i h5
  cases hok : (okOps fn.ntmps (o :: os) && okC (keepRC fn (.seq (.region id ops false) c) d) fn.ntmps c && okArgs (keepRC fn (.seq (.region id ops false) c) d) (fn.params.size + fn.nfree) && (keepRC fn (.seq (.region id ops false) c) d).testBit d) with
  | false => rw [hok] at h; cases h
  | true =>
    rw [hok] at h
    simp only [cond_true, Option.some.injEq] at h
    simp only [Bool.and_eq_true] at hok
    exact ⟨id, ops, o, os, c, cl, d, _, hb, ho, h1, h2, h3, h4, h5, hok.1.1.1, hok.1.1.2, hok.1.2, hok.2, h.symm⟩

/-- How the frame below goes on: what is recovered there, how it goes on then. -/
def Mode (u : FrameMode) (y : Value) (u' : FrameMode) : Prop :=
  (u = .returning ∧ y = .nilIface ∧ u' = .returning) ∨ (u = .panicking [{ v := y, recovered := false }] ∧ u' = .panicking [{ v := y, recovered := true }])
theorem Mode.settle {u u' : FrameMode} {y : Value} (h : Mode u y u') : Go.settle u' = .returning := by
  rcases h with ⟨_, _, rfl⟩ | ⟨_, rfl⟩ <;> rfl
theorem Mode.ne {u u' : FrameMode} {y : Value} (h : Mode u y u') : u ≠ .run := by
  rcases h with ⟨rfl, _, _⟩ | ⟨rfl, _⟩ <;> intro h <;> cases h

theorem recK_sound (hrk : RKOk P bad rk) (hko : CallOk P ko) (hm : P.follows .mixedOrders = true) {F : Nat} {g : FuncId} {fn : Func} {rc : RecC} (hfn : P.funcs[g]? = some fn) (hrc : compRC fn = some rc) {rv : AV} {args : List AV} {st : St} {kdone : St → R}
    (e : recK P bad rk ko F rv args st kdone rc = x) (hx : x ≠ bad) : ∃ st', kdone st' = x ∧ ∀ ρ ys w y u u', RelL ρ args ys → RelV ρ rv y → RelH ρ st w → Mode u y u' →
      CallsD P g ys.toArray u w fun e u1 w' => u1 = u' ∧ ∃ v, e = .returned v ∧ ∃ ρ', RelH ρ' st' w' ∧ Fr ρ st w ρ' st' w' := by
  obtain ⟨id, ops, o, os, c, cl, d, keep, hb, ho, h1, h2, h3, h4, h5, k1, k2, k3, k4, rfl⟩ := compRC_inv hrc
  obtain ⟨hnp, e1⟩ := ifB_inv (a := seqR P bad keep rk ko ops.toList os .nil ((enterT args 0 .leaf).put d rv) st
    (fun tm st => runC P bad keep rk ko F (args.length + (fn.ntmps - args.length)) c tm st (fun _ st => kdone st) (fun _ _ _ => bad) (fun _ st => kdone st) (fun _ _ => bad)) (fun _ _ => bad)) e hx
  have hlen : args.length = (fn.params.size + fn.nfree) := Nat.eq_of_beq_eq_true hnp
  have hmn : fn.ntmps ≤ args.length + (fn.ntmps - args.length) := by omega
  have hdst : ∀ (k : Nat) (o' : Oper) (d : Nat), ops[k]? = some o' → o'.dst = some d → d < args.length + (fn.ntmps - args.length) := fun k o' d hk hd => by
    refine okOps_dst hmn (os := ops.toList) (by rw [ho]; exact k1) k o' d (by simpa using hk) hd
  have ho0 : ops[0]? = some o := by
    have : ops.toList[0]? = some o := by rw [ho]; rfl
    simpa using this
  have hsize : ops.size = os.length + 1 := by
    have := congrArg List.length ho
    simpa using this
  obtain ⟨r, g1, _, g2⟩ := seqR_sound hrk hko hdst os 1 (by rw [ho]; rfl) _ _ _ _ _ _ e1 hx
  cases r with
  | exit id' tm1 st1 => exact absurd g1.symm hx
  | ret tm1 st1 => exact absurd g1.symm hx
  | pan v tm1 st1 => exact absurd g1.symm hx
  | norm tm1 st1 =>
  obtain ⟨r2, q1, _, q2⟩ := runC_sound hrk hko hm hmn c k2 _ _ _ _ _ _ _ g1 hx
  have fin : ∀ tm2 st2, (r2 = .norm tm2 st2 ∨ r2 = .ret tm2 st2) → kdone st2 = x → ∃ st', kdone st' = x ∧ ∀ ρ ys w y u u', RelL ρ args ys → RelV ρ rv y → RelH ρ st w → Mode u y u' →
      CallsD P g ys.toArray u w fun e u1 w' => u1 = u' ∧ ∃ v, e = .returned v ∧ ∃ ρ', RelH ρ' st' w' ∧ Fr ρ st w ρ' st' w' := by
    intro tm2 st2 hr2 hk
    refine ⟨st2, hk, fun ρ ys w y u u' hl hv hH hmode => callsD_of_wpS hfn hb fun c₀ cs hu => ?_⟩
    refine wpS_seq ?_
    have hE := enter_relT hl (keep := keep) (fun t ht => okArgs_spec k3 t (by omega)) fn.ntmps
    have hdl : d < args.length + (fn.ntmps - args.length) := hdst 0 o d ho0 h3
    have hw : ∀ (y : Nat → Option Bool), Region.wanted o y = true := fun y => by unfold Region.wanted; rw [h2]
    have hop : ∀ (a : Act), (execOp a.eval o).run P w = .ok .recover w := fun a => by
      unfold execOp
      rw [h1]
      obtain ⟨callee, ar, at'⟩ := cl
      simp only at h5
      subst h5
      rfl
    have hput : RelG [] ρ (evE keep .nil ((enterT args 0 .leaf).put d rv)) (args.length + (fn.ntmps - args.length)) (({ tmps := ys.toArray ++ Array.replicate (fn.ntmps - ys.toArray.size) undef, defers := [] } : Act).put o.dst y) := by
      have key := hE.toG.putE (keep := keep) (dst := o.dst) (fun d' hd' => by rw [h3] at hd'; cases hd'; exact hdl) hv
      rw [h3] at key ⊢
      unfold compD at key
      simp only [k4, cond_true] at key
      exact key
    have hdom : ∀ t v, ((enterT args 0 .leaf).put d rv).get t = some v → keep.testBit t = true := by
      intro t v ht
      by_cases htd : t = d
      · rw [htd]; exact k4
      · rw [T.get_put_ne _ _ _ htd] at ht; exact hE.dom t v ht
    have hlist : List.range ops.size = 0 :: List.range' 1 os.length := by
      rw [hsize, List.range_eq_range', List.range'_succ]
    have tail : ∀ cs', (∃ u1, cs' = { c₀ with mode := u1 } :: cs ∧ u1 = u') → wpOps P ops (fun e a' w' => Exit.thenS (c.wpS P (bodyPostS P fn c₀ cs fun e u1 w' => u1 = u' ∧ ∃ v, e = .returned v ∧ ∃ ρ', RelH ρ' st2 w' ∧ Fr ρ st w ρ' st2 w'))
        (bodyPostS P fn c₀ cs fun e u1 w' => u1 = u' ∧ ∃ v, e = .returned v ∧ ∃ ρ', RelH ρ' st2 w' ∧ Fr ρ st w ρ' st2 w') e a' cs' w') (List.range' 1 os.length) (({ tmps := ys.toArray ++ Array.replicate (fn.ntmps - ys.toArray.size) undef, defers := [] } : Act).put o.dst y) w := by
      rintro cs' ⟨u1, rfl, rfl⟩
      refine g2 [] ρ _ w _ hput hdom hH ?_
      intro ρ1 a1 w1 p1 p2 p3
      refine wpS_of_wp (q2 [] ρ1 a1 w1 _ p1 p2 ?_)
      have main : ∀ ρ2 (a2 : Act) w2, RelT [] ρ2 keep tm2 (args.length + (fn.ntmps - args.length)) a2 → RelH ρ2 st2 w2 → Fr ρ1 st1 w1 ρ2 st2 w2 →
          a2.defers = [] ∧ ∃ u', ({ c₀ with mode := u1 } : Frame) :: cs = { c₀ with mode := u' } :: cs ∧ ∃ v, (results fn a2.tmps).run P w2 = .ok v w2 ∧ (u' = u1 ∧ ∃ v', Ending.returned v = .returned v' ∧ ∃ ρ', RelH ρ' st2 w2 ∧ Fr ρ st w ρ' st2 w2) := by
        intro ρ2 a2 w2 s1 s2 s3
        refine ⟨s1.rel.defers, u1, rfl, .tuple #[], ?_, rfl, _, rfl, ρ2, s2, p3.trans s3⟩
        · rw [results_eq, Sem.run_bind, list_mapM_toArray fn.results _ w2 [] (by rw [h4]; rfl)]
          rfl
      rcases hr2 with rfl | rfl
      · exact main
      · exact main
    refine wpS_recover (rv := y) ho0 (hw _) (hop _) ?_ hlist (tail ({ c₀ with mode := u' } :: cs) ⟨u', rfl, rfl⟩)
    rcases hmode with ⟨rfl, rfl, rfl⟩ | ⟨rfl, rfl⟩
    · refine .inr ⟨?_, rfl, ?_⟩
      · simp only [recoverD, hu]
      · congr 1
        obtain ⟨⟩ := c₀
        simp only at hu
        subst hu; rfl
    · refine .inl ?_
      simp only [recoverD, hu]
  cases r2 with
  | norm tm2 st2 => exact fin tm2 st2 (.inl rfl) q1
  | ret tm2 st2 => exact fin tm2 st2 (.inr rfl) q1
  | exit id' tm2 st2 => exact absurd q1.symm hx
  | pan v tm2 st2 => exact absurd q1.symm hx
end
end
end Go.Proofs.Ytfkfejonlfcgoaa.Ev
