import Derived.Test.YtfkfejonlfcgoaaEvW
namespace Go.Proofs.Ytfkfejonlfcgoaa.Ev
open Go Go.RowKit
section
variable {P : Program} {ρ : Rho} {st : St} {w : World} {ev : Operand → Option AV}

/-- What is known of the callees. -/
def CallOk (P : Program) (call : FuncId → List AV → St → Option (AV × St)) : Prop :=
  ∀ g args st v st', call g args st = some (v, st') → ∀ ρ xs w, RelL ρ args xs → RelH ρ st w →
    Calls P g xs.toArray w fun e w' => ∃ ρ' y, e = .returned y ∧ RelV ρ' v y ∧ RelH ρ' st' w' ∧ Fr ρ st w ρ' st' w'

theorem callFunc_run {g : FuncId} (h : callable P g = true) (args : Array Value) (w : World) : (callFunc g args).run P w = .ok (.enter g args) w := by
  unfold callable at h
  split at h
  · rename_i fn hf
    simp only [Bool.and_eq_true, Bool.not_eq_true'] at h
    unfold callFunc
    rw [Sem.run_bind, run_program]
    simp only [Result.andThen_ok, hf]
    have h2 : fn.body.isNone = false := by cases hb : fn.body <;> simp_all
    simp [h.2, h2]
  · cases h

theorem OpOk.call {o : Oper} {a : Act} {call : FuncId → List AV → St → Option (AV × St)} (hcall : CallOk P call) (H : RelH ρ st w) {g : FuncId} {as : List AV} {xs : List Value} {v : AV} {st' : St} (e : call g as st = some (v, st')) (hl : RelL ρ as xs)
    (h : (execOp a.eval o).run P w = .ok (.enter g xs.toArray) w) : OpOk P o a w ρ st v st' := by
  intro K Q hK
  unfold Oper.wp; rw [h]
  rw [Oper.upon_enter]
  refine (hcall g as st v st' e ρ xs w hl H).mono ?_
  rintro e' w' ⟨ρ', y, rfl, h1, h2, h3⟩
  exact hK y ρ' w' h1 h2 h3

theorem calleeA_sound {f : AV} {args as : List AV} {x : Value} {xs : List Value} {g : FuncId} (hx : RelV ρ f x) (hl : RelL ρ args xs) (e : calleeA f args = some (g, as)) (hc : callable P g = true) :
    ∃ ys : List Value, RelL ρ as ys ∧ (do let d ← Deferred.ofValue x xs.toArray; invoke d.target d.args : Sem Next).run P w = .ok (.enter g ys.toArray) w := by
  unfold calleeA at e
  split at e
  · rename_i g' first captured
    simp only [Option.some.injEq, Prod.mk.injEq] at e
    obtain ⟨rfl, rfl⟩ := e
    obtain ⟨fs, cs, h1, h2, rfl⟩ := relV_fn.1 hx
    refine ⟨fs ++ xs ++ cs, (h1.append hl).append h2, ?_⟩
    simp only [Deferred.ofValue, pure_bind, invoke]
    rw [callFunc_run hc]; simp
  · rename_i g' first captured
    simp only [Option.some.injEq, Prod.mk.injEq] at e
    obtain ⟨rfl, rfl⟩ := e
    rw [relV_sc.1 hx]
    refine ⟨first.toList ++ xs ++ captured.toList, ((RelL.scs _).append hl).append (RelL.scs _), ?_⟩
    simp only [Deferred.ofValue, pure_bind, invoke]
    rw [callFunc_run hc]
    congr 2
    apply Array.toList_inj.1; simp
  · cases e

theorem invokeA_sound {r : AV} {name : String} {args as : List AV} {x : Value} {xs : List Value} {g : FuncId} (hx : RelV ρ r x) (hl : RelL ρ args xs) (e : invokeA P r name args = some (g, as)) (hc : callable P g = true) :
    ∃ ys : List Value, RelL ρ as ys ∧ (callMethod x name xs.toArray).run P w = .ok (.enter g ys.toArray) w := by
  unfold invokeA at e
  split at e
  case h_1 => cases e
  rename_i t v hdyn
  obtain ⟨y, rfl, hy⟩ := dynA_sound hx hdyn
  split at e
  case h_1 => cases e
  rename_i info hi
  split at e
  case h_1 => cases e
  rename_i m hm
  have hinfo := semP_run _ _ hi w
  have main : ∀ f, (do let (f, receiver) ← method (P.types.size + Made.depth) t y name; callFunc f (#[receiver] ++ xs.toArray) : Sem Next).run P w = .ok (.enter f ((y :: xs).toArray)) w →
      (callMethod (.iface t y) name xs.toArray).run P w = .ok (.enter f ((y :: xs).toArray)) w := by
    intro f hf
    unfold callMethod
    simp only
    rw [Sem.run_bind, run_program]; simp only [Result.andThen_ok]
    exact hf
  have meth : ∀ f pr, m.path.isEmpty = true → m.func = some (f, pr) → (∀ wr, (receiverAt t (.val y) pr wr).run P w = .ok y w) → callable P f = true →
      (callMethod (.iface t y) name xs.toArray).run P w = .ok (.enter f ((y :: xs).toArray)) w := by
    intro f pr hp hf hr hcf
    refine main f ?_
    rw [Sem.run_bind]
    have hm1 : (method (P.types.size + Made.depth) t y name).run P w = .ok (f, y) w := by
      show (method ((P.types.size + 99) + 1) t y name).run P w = _
      unfold method
      rw [Sem.run_bind, hinfo]; simp only [Result.andThen_ok, hm]
      have hpl : m.path.toList = [] := by simpa using hp
      simp only [hpl, follow, pure_bind, hf]
      rw [Sem.run_bind, hr]; rfl
    rw [hm1]; simp only [Result.andThen_ok]
    rw [callFunc_run hcf]
    congr 2
    apply Array.toList_inj.1; simp
  split at e
  · rename_i f pr d hp hf hd
    split at e
    · rename_i el
      simp only [Option.some.injEq, Prod.mk.injEq] at e
      obtain ⟨rfl, rfl⟩ := e
      exact ⟨y :: xs, RelL.cons hy hl, meth f true hp hf (fun wr => by unfold receiverAt; rw [Sem.run_bind, run_under hd]; rfl) hc⟩
    · cases e
    · rename_i hnp
      simp only [Option.some.injEq, Prod.mk.injEq] at e
      obtain ⟨rfl, rfl⟩ := e
      exact ⟨y :: xs, RelL.cons hy hl, meth f false hp hf (fun wr => by
        unfold receiverAt; rw [Sem.run_bind, run_under hd]; simp only [Result.andThen_ok]
        cases d <;> first | rfl | exact absurd rfl (hnp _)) hc⟩
    · cases e
  · cases e

/-- The other operations. -/
theorem evW_sound {call : FuncId → List AV → St → Option (AV × St)} (hcall : CallOk P call) (H : RelH ρ st w) {a : Act} (E : EvOk ρ ev a.eval) {o : Oper} {v : AV} {st' : St} (e : evW P call ev st o = some (v, st')) : OpOk P o a w ρ st v st' := by
  unfold evW at e
  split at e
  · rename_i t p x ho
    split at e
    case h_2 => cases e
    rename_i pa va hpa hva
    split at e
    case h_2 => cases e
    rename_i st1 hst
    simp only [Option.some.injEq, Prod.mk.injEq] at e
    obtain ⟨rfl, rfl⟩ := e
    obtain ⟨w', r1, r2, r3⟩ := storeA_sound (P := P) H (E _ _ hpa) (E _ _ hva) hst
    exact OpOk.skip (by unfold execOp; rw [ho]; exact run_u r1) r2 r3
  · rename_i t m k x ho
    split at e
    case h_2 => cases e
    rename_i ma ka va hma hka hva
    split at e
    case h_2 => cases e
    rename_i st1 hst
    simp only [Option.some.injEq, Prod.mk.injEq] at e
    obtain ⟨rfl, rfl⟩ := e
    obtain ⟨w', r1, r2, r3⟩ := evMapUpdate_sound (P := P) H (E _ _ hma) (E _ _ hka) (E _ _ hva) hst
    exact OpOk.skip (by unfold execOp; rw [ho]; exact run_u r1) r2 r3
  · rename_i t m k x ho
    split at e
    case h_2 => cases e
    rename_i ma ka va hma hka hva
    split at e
    case h_2 => cases e
    rename_i st1 hst
    simp only [Option.some.injEq, Prod.mk.injEq] at e
    obtain ⟨rfl, rfl⟩ := e
    obtain ⟨w', r1, r2, r3⟩ := evMapUpdate_sound (P := P) H (E _ _ hma) (E _ _ hka) (E _ _ hva) hst
    exact OpOk.skip (by unfold execOp; rw [ho]; exact run_u r1) r2 r3
  · rename_i t m k ho
    split at e
    case h_2 => cases e
    rename_i ma ka hma hka
    obtain ⟨z, w', r1, r2, r3, r4⟩ := evMapEntry_sound (P := P) H (E _ _ hma) (E _ _ hka) e
    exact OpOk.value (by unfold execOp; rw [ho]; exact run_v r1) r2 r3 r4
  · rename_i t m s x ho
    split at e
    case h_2 => cases e
    rename_i ma sa va hma hsa hva
    split at e
    case h_2 => cases e
    rename_i st1 hst
    simp only [Option.some.injEq, Prod.mk.injEq] at e
    obtain ⟨rfl, rfl⟩ := e
    obtain ⟨w', r1, r2, r3⟩ := evEntryStore_sound (P := P) (t := t) H (E _ _ hma) (E _ _ hsa) (E _ _ hva) hst
    exact OpOk.skip (by unfold execOp; rw [ho]; exact run_u r1) r2 r3
  · rename_i c ho
    split at e
    · -- append
      rename_i s x hc hargs
      split at e
      case h_2 => cases e
      rename_i sT xT hsT hxT
      have hL := evXs_sound E hargs
      obtain ⟨y, ys, hy, hys, hcs⟩ := hL.cons_inv
      obtain ⟨z, zs, hz, hzs, rfl⟩ := hys.cons_inv
      have := RelL.nil_iff.1 hzs
      subst this
      have fin : ∀ zeros d, P.underlying xT = some d → (if zeros then ∃ k, d = .int k else ∀ k, d ≠ .int k) → appendA P st sT zeros s x = some (v, st') → OpOk P o a w ρ st v st' := by
        intro zeros d hd hzd ea
        obtain ⟨r, w', ρ', r1, r2, r3, r4⟩ := appendA_sound (P := P) (ty := o.type) H hsT hxT hd hzd hy hz ea
        refine OpOk.value ?_ r2 r3 r4
        unfold execOp; rw [ho]
        simp only
        rw [Sem.run_bind, resolve_builtin hc]
        simp only [Sem.run_pure, Result.andThen_ok, invoke]
        rw [toArr c.args a.eval, hcs]
        exact run_v r1
      split at e
      · rename_i k hd
        exact fin true _ hd (by simp) e
      · rename_i d hnd hd
        exact fin false _ hd (by simp; exact fun k hk => hnd k hk) e
      · cases e
    · -- copy
      rename_i i k n z c' x hc hargs
      split at e
      case h_2 => cases e
      rename_i dT hdT
      split at e
      case h_2 => cases e
      rename_i el hel
      split at e
      case h_2 => cases e
      rename_i size hs
      split at e
      case h_2 => cases e
      rename_i j k' n' z' c2
      split at e
      case h_2 => cases e
      rename_i l hl
      split at e
      case h_2 => cases e
      rename_i st1 hst
      simp only [Option.some.injEq, Prod.mk.injEq] at e
      obtain ⟨rfl, rfl⟩ := e
      have hL := evXs_sound E hargs
      obtain ⟨y, ys, hy, hys, hcs⟩ := hL.cons_inv
      obtain ⟨zz, zs, hz, hzs, rfl⟩ := hys.cons_inv
      have := RelL.nil_iff.1 hzs
      subst this
      obtain ⟨pa, cap, ha, hn, _, rfl⟩ := relV_sl.1 hy
      obtain ⟨qa, cap', hqa, hn', _, rfl⟩ := relV_sl.1 hz
      have key : ∃ w', (Builtin.copy_ c.argTypes o.type #[.slice (some pa) n cap, .slice (some qa) n' cap']).run P w = .ok (goInt (Nat.min n' n)) w' ∧ RelH ρ st1 w' ∧ Fr ρ st w ρ st1 w' := by
        by_cases h0 : Nat.min n' n = 0
        · rw [h0] at hl
          simp only [Nat.zero_mul, rdCells, Option.some.injEq] at hl
          subst hl
          simp only [wrCells, Option.some.injEq] at hst
          subst hst
          refine ⟨w, ?_, H, Fr.refl _ _ _ H⟩
          unfold Builtin.copy_
          simp only [hdT, List.getElem?_toArray, List.getElem?_cons_zero, List.getElem?_cons_succ, Sem.run_bind, run_under hel, Result.andThen_ok, Builtin.lenOf, Sem.run_pure, semP_run _ _ hs w, Builtin.firstCells, h0, Nat.zero_mul]
          rfl
        · have hmin : Nat.min n' n ≤ n ∧ Nat.min n' n ≤ n' := ⟨Nat.min_le_right _ _, Nat.min_le_left _ _⟩
          obtain ⟨xs, g1, g2, g3⟩ := run_loadCells_rel (P := P) H hl (hqa (by omega)).1
          obtain ⟨w', r1, r2, r3⟩ := RelH.wrs H hst (ha (by omega)).1 g1 P 0 pa (by unfold Addr.add; rw [if_pos rfl])
          refine ⟨w', ?_, r2, r3⟩
          unfold Builtin.copy_
          simp only [hdT, List.getElem?_toArray, List.getElem?_cons_zero, List.getElem?_cons_succ, Sem.run_bind, run_under hel, Result.andThen_ok, Builtin.lenOf, Sem.run_pure, semP_run _ _ hs w, Builtin.firstCells, g3, r1]
      obtain ⟨w', r1, r2, r3⟩ := key
      refine OpOk.value ?_ (RelV.sc _) r2 r3
      unfold execOp; rw [ho]
      simp only
      rw [Sem.run_bind, resolve_builtin hc]
      simp only [Sem.run_pure, Result.andThen_ok, invoke]
      rw [toArr c.args a.eval, hcs]
      exact run_v r1
    · -- a function value
      rename_i f args hc hargs
      split at e
      case h_2 => cases e
      rename_i fv hfv
      split at e
      case h_2 => cases e
      rename_i g as hca
      cases hcb : callable P g with
      | false => rw [hcb] at e; cases e
      | true =>
        rw [hcb] at e; simp only [cond_true] at e
        obtain ⟨ys, h1, h2⟩ := calleeA_sound (P := P) (w := w) (E f fv hfv) (evXs_sound E hargs) hca hcb
        refine OpOk.call hcall H e h1 ?_
        unfold execOp; rw [ho]
        simp only
        unfold resolve
        simp only [hc]
        rw [toArr c.args a.eval]
        exact h2
    · -- a method of an interface
      rename_i r name args hc hargs
      split at e
      case h_2 => cases e
      rename_i rv hrv
      split at e
      case h_2 => cases e
      rename_i g as hca
      cases hcb : callable P g with
      | false => rw [hcb] at e; cases e
      | true =>
        rw [hcb] at e; simp only [cond_true] at e
        obtain ⟨ys, h1, h2⟩ := invokeA_sound (P := P) (w := w) (E r rv hrv) (evXs_sound E hargs) hca hcb
        refine OpOk.call hcall H e h1 ?_
        unfold execOp; rw [ho]
        simp only
        unfold resolve
        simp only [hc, pure_bind, invoke]
        rw [toArr c.args a.eval]
        have e1 : (#[a.eval r] ++ (c.args.toList.map a.eval).toArray)[0]? = some (a.eval r) := by simp
        have e2 : (#[a.eval r] ++ (c.args.toList.map a.eval).toArray).extract 1 (#[a.eval r] ++ (c.args.toList.map a.eval).toArray).size = (c.args.toList.map a.eval).toArray := by
          apply Array.toList_inj.1; simp [List.take_of_length_le]
        simp only [e1, e2]
        exact h2
    · cases e
  · cases e

/-- An operation. -/
theorem evOp_sound {call : FuncId → List AV → St → Option (AV × St)} (hcall : CallOk P call) (H : RelH ρ st w) {a : Act} (E : EvOk ρ ev a.eval) {o : Oper} {v : AV} {st' : St} (e : evOp P call ev st o = some (v, st')) : OpOk P o a w ρ st v st' := by
  unfold evOp at e
  split at e
  · split at e
    case h_2 => cases e
    rename_i v' hv
    simp only [Option.some.injEq, Prod.mk.injEq] at e
    obtain ⟨rfl, rfl⟩ := e
    obtain ⟨y, h1, h2⟩ := evQ_sound (P := P) H E hv
    exact OpOk.value h1 h2 H (Fr.refl _ _ _ H)
  · split at e
    case h_2 => cases e
    rename_i v' ao hv
    simp only [Option.some.injEq, Prod.mk.injEq] at e
    obtain ⟨rfl, rfl⟩ := e
    obtain ⟨y, w', p, h1, h2, h3, h4, h5, h6⟩ := evF_sound (P := P) H E H.freshNone (Nat.lt_succ_self _) (Nat.le_succ _) hv
    exact OpOk.value h1 h2 h3 (Below.fr H h5 h4 ao h6)
  · exact evW_sound hcall H E e
end
end Go.Proofs.Ytfkfejonlfcgoaa.Ev
