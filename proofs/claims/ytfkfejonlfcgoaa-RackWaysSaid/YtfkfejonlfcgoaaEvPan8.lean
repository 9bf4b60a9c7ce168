/- The evaluator in passing style: what defers a closure that recovers is sound. -/
import Derived.Test.YtfkfejonlfcgoaaEvPan7
namespace Go.Proofs.Ytfkfejonlfcgoaa.Ev
open Go Go.RowKit
section
variable {P : Program}
section
variable {R : Type} {bad x : R} {rk : RKK R} {ko : RKO}

theorem compDC_inv {fn : Func} {dc : DC} (h : compDC fn = some dc) : ∃ A id ops o0 o1 cl f B keep, fn.body = some (.seq A (.seq (.region id ops false) B)) ∧ ops.toList = [o0, o1] ∧ o1.op = .defer cl ∧ o1.guard = none ∧ o1.dst = none ∧ cl.callee = .value f ∧ cl.args.toList = [] ∧
    okC keep fn.ntmps A = true ∧ okC keep fn.ntmps B = true ∧ okOps fn.ntmps [o0] = true ∧ okArgs keep (fn.params.size + fn.nfree) = true ∧ unwRs B fn.results.toList = true ∧ dc = .mk A o0 f ops.toList B keep (fn.params.size + fn.nfree) fn.ntmps fn.results.toList := by
  unfold compDC at h
  split at h
  case h_2 => cases h
  rename_i A id ops B hb
  split at h
  case h_2 => cases h
  rename_i o0 o1 ho
  split at h
  case h_2 => cases h
  rename_i cl h1 h2 h3
  split at h
  case h_2 => cases h
  rename_i f h4 h5
  cases hok : (okC (keepOf fn (.seq A (.seq (.region id ops false) B))) fn.ntmps A && okC (keepOf fn (.seq A (.seq (.region id ops false) B))) fn.ntmps B && okOps fn.ntmps [o0] && okArgs (keepOf fn (.seq A (.seq (.region id ops false) B))) (fn.params.size + fn.nfree) && unwRs B fn.results.toList) with
  | false => rw [hok] at h; cases h
  | true =>
    rw [hok] at h
    simp only [cond_true, Option.some.injEq] at h
    simp only [Bool.and_eq_true] at hok
    exact ⟨A, id, ops, o0, o1, cl, f, B, _, hb, ho, h1, h2, h3, h4, h5, hok.1.1.1.1, hok.1.1.1.2, hok.1.1.2, hok.1.2, hok.2, h.symm⟩

theorem evRes_congr {tm tm' : T AV} {h : T AO} : ∀ {rs : List ResultVar}, (∀ r ∈ rs, tm'.get (slotOf r) = tm.get (slotOf r)) → evRes P tm' h rs = evRes P tm h rs
  | [], _ => rfl
  | .tmp t :: rs, hr => by
    have h0 : tm'.get t = tm.get t := hr (.tmp t) (List.mem_cons_self ..)
    simp only [evRes, h0, evRes_congr (rs := rs) (fun r m => hr r (List.mem_cons_of_mem _ m))]
  | .cell p t :: rs, hr => by
    have h0 : tm'.get p = tm.get p := hr (.cell p t) (List.mem_cons_self ..)
    simp only [evRes, h0, evRes_congr (rs := rs) (fun r m => hr r (List.mem_cons_of_mem _ m))]
theorem unwRs_spec {c : Code} : ∀ {rs : List ResultVar}, unwRs c rs = true → ∀ r ∈ rs, unw (slotOf r) c = true
  | [], _, r, h => by cases h
  | r' :: rs, h, r, hr => by
    simp only [unwRs, Bool.and_eq_true] at h
    cases hr with
    | head => exact h.1
    | tail _ m => exact unwRs_spec h.2 r m

/-- A closure that is deferred. -/
theorem deferA_sound {ρ : Rho} {f : AV} {as : List AV} {y : Value} {g : FuncId} (hx : RelV ρ f y) (e : calleeA f [] = some (g, as)) (hc : callable P g = true) :
    ∃ cap dargs : Array Value, (∀ w, (Deferred.ofValue y #[]).run P w = .ok { target := .fn (.func g) cap, args := dargs } w) ∧ ∃ ys : List Value, RelL ρ as ys ∧ ∀ w, (invoke (.fn (.func g) cap) dargs).run P w = .ok (.enter g ys.toArray) w := by
  unfold calleeA at e
  split at e
  · rename_i g' first captured
    simp only [Option.some.injEq, Prod.mk.injEq] at e
    obtain ⟨rfl, rfl⟩ := e
    obtain ⟨fs, cs, h1, h2, rfl⟩ := relV_fn.1 hx
    refine ⟨_, _, fun w => rfl, fs ++ [] ++ cs, (h1.append (RelL.nil_iff.2 rfl)).append h2, fun w => ?_⟩
    simp only [invoke]
    rw [callFunc_run hc]; simp
  · rename_i g' first captured
    simp only [Option.some.injEq, Prod.mk.injEq] at e
    obtain ⟨rfl, rfl⟩ := e
    rw [relV_sc.1 hx]
    refine ⟨_, _, fun w => rfl, first.toList ++ [] ++ captured.toList, ((RelL.scs _).append (RelL.nil_iff.2 rfl)).append (RelL.scs _), fun w => ?_⟩
    simp only [invoke]
    rw [callFunc_run hc]
    congr 2
    apply Array.toList_inj.1; simp
  · cases e

theorem recOf_inv {g : FuncId} {rc : RecC} (h : recOf P g = some rc) : ∃ fn, P.funcs[g]? = some fn ∧ compRC fn = some rc := by
  unfold recOf at h
  split at h
  case h_1 => cases h
  rename_i fn hfn
  exact ⟨fn, hfn, h⟩

theorem resK_inv {rs : List ResultVar} {kret : KP R} {tm : T AV} {st : St} (h : resK P bad rs kret tm st = x) (hx : x ≠ bad) : ∃ l, evRes P tm st.h rs = some l ∧ kret (oneOf l) st = x := optK_inv h hx

theorem defK_sound (hrk : RKOk P bad rk) (hko : CallOk P ko) (hm : P.follows .mixedOrders = true) {F : Nat} {g : FuncId} {fn : Func} {dc : DC} (hfn : P.funcs[g]? = some fn) (hdc : compDC fn = some dc) {args : List AV} {st : St} {kret kpan : KP R}
    (e : defK P bad rk ko F args st kret dc = x) (hx : x ≠ bad) : SoundK P g args st kret kpan x := by
  obtain ⟨A, id, ops, o0, o1, cl, f, B, keep, hb, ho, h1, h2, h3, h4, h5, kA, kB, k0, kargs, kun, rfl⟩ := compDC_inv hdc
  obtain ⟨hnp, e1⟩ := ifB_inv (a := runC P bad keep rk ko F (args.length + (fn.ntmps - args.length)) A (enterT args 0 .leaf) st
    (fun tm st => (opC P bad (compX keep) (evE keep) keep ops.toList o0).run rk ko (fun loc tm st _ _ => getE loc tm bad (fun fv => optK bad (fun p => @Prod.rec FuncId (List AV) (fun _ => R) (fun g as => ifB
      (optK bad (fun rc => behindK P bad rk ko F kret B keep (args.length + (fn.ntmps - args.length)) fn.results.toList tm st rc as) (recOf P g)) bad (callable P g)) p) (calleeA fv [])) (compX keep f)) .nil tm st (fun _ _ => bad) (fun _ _ => bad))
    (fun _ _ _ => bad) (fun _ _ => bad) (fun _ _ => bad)) e hx
  have hlen : args.length = (fn.params.size + fn.nfree) := Nat.eq_of_beq_eq_true hnp
  have hmn : fn.ntmps ≤ args.length + (fn.ntmps - args.length) := by omega
  have hsize : ops.size = 2 := by
    have := congrArg List.length ho
    simpa using this
  have ho0 : ops[0]? = some o0 := by
    have : ops.toList[0]? = some o0 := by rw [ho]; rfl
    simpa using this
  have ho1 : ops[1]? = some o1 := by
    have : ops.toList[1]? = some o1 := by rw [ho]; rfl
    simpa using this
  obtain ⟨r, g1, _, g2⟩ := runC_sound hrk hko hm hmn A kA _ _ _ _ _ _ _ e1 hx
  cases r with
  | exit id' tm1 st1 => exact absurd g1.symm hx
  | ret tm1 st1 => exact absurd g1.symm hx
  | pan v tm1 st1 => exact absurd g1.symm hx
  | norm tm1 st1 =>
  rcases opC_inv (cxE_ok keep) hrk g1 hx with ⟨v0, st2, s0, e2⟩ | ⟨v0, st2, _, e2⟩
  case inr => exact absurd e2.symm hx
  obtain ⟨fv, e3, e4⟩ := cxE_ok keep R bad _ _ _ _ _ e2 hx
  obtain ⟨⟨gd, as⟩, e5, e6⟩ := optK_inv e4 hx
  obtain ⟨e7, e8⟩ := ifB_inv (a := optK bad (fun rc => behindK P bad rk ko F kret B keep (args.length + (fn.ntmps - args.length)) fn.results.toList (putT (compD keep o0.dst) v0 tm1) st2 rc as) (recOf P gd)) e6 hx
  obtain ⟨rc, e9, e10⟩ := optK_inv e8 hx
  obtain ⟨fnd, hfnd, hcompd⟩ := recOf_inv e9
  obtain ⟨rB, b1, b0, b2⟩ := runC_sound hrk hko hm hmn B kB _ _ _ _ _ _ _ e10 hx
  -- what happens, up to the code behind
  have enter : ∀ (R' : Ending → World → Prop) ρ (xs : List Value) (w : World), RelL ρ args xs → RelH ρ st w →
      (∀ ρ' (a' : Act) w' (d : Deferred) cap dargs (ys : List Value), RelT [d] ρ' keep (putT (compD keep o0.dst) v0 tm1) (args.length + (fn.ntmps - args.length)) a' → RelH ρ' st2 w' → Fr ρ st w ρ' st2 w' → d = { target := .fn (.func gd) cap, args := dargs } → RelL ρ' as ys →
        (∀ w, (invoke (.fn (.func gd) cap) dargs).run P w = .ok (.enter gd ys.toArray) w) → B.wp P (bodyPostD P fn R') a' w') →
      Calls P g xs.toArray w R' := by
    intro R' ρ xs w hl hH next
    refine calls_of_wp_defers hfn hb (wp_seq ?_)
    refine g2 [] ρ _ w _ (enter_relT hl (fun t ht => okArgs_spec kargs t (by omega)) fn.ntmps) hH ?_
    intro ρ1 a1 w1 p1 p2 p3
    refine wp_seq (wp_region ?_)
    rw [hsize]
    show wpOps P ops _ (0 :: 1 :: []) a1 w1
    rw [wpOps_cons]
    refine step_sound hko (evE_base _ _ _) ho0 s0 p1.toG p2 fun y ρ2 w2 q1 q2 q3 => ?_
    have G2 := (p1.toG.mono (q3.ext p2)).putE (dst := o0.dst) (fun d hd => okOps_dst hmn k0 0 o0 d rfl hd) q1
    have T2 := G2.toT (putT_dom p1.dom o0.dst v0)
    have hv : RelV ρ2 fv ((a1.put o0.dst y).eval f) := G2.ok (evE_base _ _ _) f fv e3
    obtain ⟨cap, dargs, d1, ys, d2, d3⟩ := deferA_sound (P := P) hv e5 e7
    rw [wpOps_cons]
    unfold wpOp
    rw [ho1]
    simp only
    have hw1 : Region.wanted o1 (yielded ops (a1.put o0.dst y).tmps) = true := by unfold Region.wanted; rw [h2]
    rw [hw1]
    simp only [if_true]
    refine .inl ?_
    have hrun : (execOp (a1.put o0.dst y).eval o1).run P w2 = .ok (.defer { target := .fn (.func gd) cap, args := dargs }) w2 := by
      unfold execOp
      rw [h1]
      obtain ⟨callee, ar, at'⟩ := cl
      simp only at h4 h5
      subst h4
      have har : ar = #[] := by apply Array.toList_inj.1; rw [h5]
      subst har
      simp only [resolve]
      rw [Sem.run_bind]
      have hmap : Array.map (a1.put o0.dst y).eval #[] = #[] := by simp
      rw [hmap, d1 w2]; rfl
    unfold Oper.wp
    rw [hrun, Oper.upon_defer, h3]
    show Exit.then (B.wp P (bodyPostD P fn R')) (bodyPostD P fn R') .normal _ w2
    refine next ρ2 _ w2 _ cap dargs ys ⟨⟨?_, ?_, ?_⟩, T2.dom⟩ q2 (p3.trans q3) rfl d2 d3
    · exact T2.rel.size
    · show _ :: (a1.put o0.dst y).defers = _
      rw [T2.rel.defers]
    · exact T2.rel.rel
  -- how it leaves
  have leave : ∀ (tmX : T AV) (stX : St) (rv : AV), recK P bad rk ko F rv as stX (fun st' => resK P bad fn.results.toList kret (putT (compD keep o0.dst) v0 tm1) st') rc = x ∨ recK P bad rk ko F rv as stX (fun st' => resK P bad fn.results.toList kret tmX st') rc = x →
      (∀ r ∈ fn.results.toList, tmX.get (slotOf r) = (putT (compD keep o0.dst) v0 tm1).get (slotOf r)) → ∃ l st', kret (oneOf l) st' = x ∧ ∀ ρ0 w0 ρ' (a' : Act) w' (d : Deferred) cap dargs (ys : List Value) y u u', RelT [d] ρ' keep tmX (args.length + (fn.ntmps - args.length)) a' → RelH ρ' stX w' → Fr ρ0 st w0 ρ' stX w' → d = { target := .fn (.func gd) cap, args := dargs } → RelL ρ' as ys →
        (∀ w, (invoke (.fn (.func gd) cap) dargs).run P w = .ok (.enter gd ys.toArray) w) → RelV ρ' rv y → Mode u y u' → Leaves P fn a'.tmps (fun e w' => ∃ ρ', RelOut ρ' (.ret (oneOf l)) e ∧ RelH ρ' st' w' ∧ Fr ρ0 st w0 ρ' st' w') a'.defers u w' := by
    intro tmX stX rv hrec hsame
    have hrec' : recK P bad rk ko F rv as stX (fun st' => resK P bad fn.results.toList kret tmX st') rc = x := by
      rcases hrec with h | h
      · have : (fun st' => resK P bad fn.results.toList kret (putT (compD keep o0.dst) v0 tm1) st') = fun st' => resK P bad fn.results.toList kret tmX st' := by
          funext st'
          unfold resK
          rw [evRes_congr hsame]
        rw [← this]; exact h
      · exact h
    obtain ⟨st', c1, c2⟩ := recK_sound hrk hko hm hfnd hcompd hrec' hx
    obtain ⟨l, c3, c4⟩ := resK_inv c1 hx
    refine ⟨l, st', c4, fun ρ0 w0 ρ' a' w' d cap dargs ys y u u' t1 t2 t3 t4 t5 t6 t7 t8 => ?_⟩
    subst t4
    rw [t1.rel.defers]
    refine leaves_cons t8.ne (t6 w') ((c2 ρ' ys w' y u u' t5 t7 t2 t8).mono ?_)
    rintro e u1 w'' ⟨rfl, vv, rfl, ρ'', m1, m2⟩
    show Leaves P fn a'.tmps _ [] (settle u1) w''
    rw [t8.settle]
    obtain ⟨yy, n1, n2⟩ := results_sound (P := P) (fn := fn) (t1.rel.mono (m2.ext t2)) m1 c3
    exact ⟨yy, n1, ρ'', ⟨yy, rfl, n2⟩, m1, t3.trans m2⟩
  have norm : ∀ tmB stB, (rB = .norm tmB stB ∨ rB = .ret tmB stB) → recK P bad rk ko F (.sc .nilIface) as stB (fun st' => resK P bad fn.results.toList kret tmB st') rc = x → SoundK P g args st kret kpan x := by
    intro tmB stB hr hrec
    have hsame : ∀ r ∈ fn.results.toList, tmB.get (slotOf r) = (putT (compD keep o0.dst) v0 tm1).get (slotOf r) := fun r hm => by
      have := b0 (slotOf r) (unwRs_spec kun r hm)
      rcases hr with rfl | rfl
      · exact this
      · exact this
    obtain ⟨l, st', c1, c2⟩ := leave tmB stB _ (.inr hrec) hsame
    refine ⟨.ret (oneOf l), st', c1, fun ρ xs w hl hH => enter _ ρ xs w hl hH fun ρ' a' w' d cap dargs ys t1 t2 t3 t4 t5 t6 => ?_⟩
    refine b2 [d] ρ' a' w' _ t1 t2 ?_
    have main : ∀ ρ2 (a2 : Act) w2, RelT [d] ρ2 keep tmB (args.length + (fn.ntmps - args.length)) a2 → RelH ρ2 stB w2 → Fr ρ' st2 w' ρ2 stB w2 →
        Leaves P fn a2.tmps (fun e w' => ∃ ρ', RelOut ρ' (.ret (oneOf l)) e ∧ RelH ρ' st' w' ∧ Fr ρ st w ρ' st' w') a2.defers .returning w2 := by
      intro ρ2 a2 w2 s1 s2 s3
      exact c2 ρ w ρ2 a2 w2 d cap dargs ys _ _ _ s1 s2 (t3.trans s3) t4 (RelL.mono (s3.ext t2) _ _ t5) t6 (RelV.sc _) (.inl ⟨rfl, rfl, rfl⟩)
    rcases hr with rfl | rfl
    · exact main
    · exact main
  cases rB with
  | norm tmB stB => exact norm tmB stB (.inl rfl) b1
  | ret tmB stB => exact norm tmB stB (.inr rfl) b1
  | exit id' tmB stB => exact absurd b1.symm hx
  | pan v tmB stB =>
    obtain ⟨l, st', c1, c2⟩ := leave tmB stB v (.inl b1) (fun r hm => b0 (slotOf r) (unwRs_spec kun r hm))
    refine ⟨.ret (oneOf l), st', c1, fun ρ xs w hl hH => enter _ ρ xs w hl hH fun ρ' a' w' d cap dargs ys t1 t2 t3 t4 t5 t6 => ?_⟩
    refine b2 [d] ρ' a' w' _ t1 t2 ?_
    intro ρ2 a2 w2 y s1 s0 s2 s3
    exact c2 ρ w ρ2 a2 w2 d cap dargs ys y _ _ s1 s2 (t3.trans s3) t4 (RelL.mono (s3.ext t2) _ _ t5) t6 s0 (.inr ⟨rfl, rfl⟩)
end
theorem hookDef_ok (hm : P.follows .mixedOrders = true) {F : Nat} {g : FuncId} : ∀ (R : Type) (bad : R) (rk : RKK R), RKOk P bad rk → ∀ args st kret kpan x, hookDef P F g R bad rk args st kret kpan = x → x ≠ bad → SoundK P g args st kret kpan x := by
  intro R bad rk hrk args st kret kpan x h hx
  unfold hookDef at h
  obtain ⟨dc, h1, h2⟩ := optK_inv (k := defK P bad rk (fun _ _ _ => none) F args st kret) h hx
  rw [Option.bind_eq_some_iff] at h1
  obtain ⟨fn, h3, h4⟩ := h1
  exact defK_sound hrk (fun g args st v st' h => by cases h) hm h3 h4 h2 hx
end
end Go.Proofs.Ytfkfejonlfcgoaa.Ev
