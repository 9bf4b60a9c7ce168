/- The evaluator in passing style: calls; functions that defer a function that recovers. -/
import Derived.Test.YtfkfejonlfcgoaaEvPan5
import Derived.Recover
namespace Go.Proofs.Ytfkfejonlfcgoaa.Ev
open Go Go.RowKit
section
variable {P : Program}

theorem okArgs_spec {keep : Nat} : ∀ {k : Nat}, okArgs keep k = true → ∀ t, t < k → keep.testBit t = true
  | 0, _, t, h => absurd h (Nat.not_lt_zero _)
  | k + 1, h, t, ht => by
    simp only [okArgs, Bool.and_eq_true] at h
    by_cases e : t = k
    · subst e; exact h.1
    · exact okArgs_spec h.2 t (by omega)
theorem enterT_dom : ∀ (args : List AV) (k : Nat) (t0 : T AV) (t : Nat) (v : AV), (enterT args k t0).get t = some v → (k ≤ t ∧ t < k + args.length) ∨ t0.get t = some v
  | [], k, t0, t, v, e => .inr e
  | u :: l, k, t0, t, v, e => by
    simp only [enterT] at e
    rcases enterT_dom l (k + 1) _ t v e with h | h
    · exact .inl ⟨by omega, by simp only [List.length_cons]; omega⟩
    · by_cases ht : t = k
      · subst ht; exact .inl ⟨Nat.le_refl _, by simp⟩
      · rw [T.get_put_ne _ _ _ ht] at h; exact .inr h
theorem enter_relT {ρ : Rho} {args : List AV} {xs : List Value} (hl : RelL ρ args xs) {keep : Nat} (hk : ∀ t, t < args.length → keep.testBit t = true) (nt : Nat) :
    RelT [] ρ keep (enterT args 0 .leaf) (args.length + (nt - args.length)) { tmps := xs.toArray ++ Array.replicate (nt - xs.toArray.size) undef, defers := [] } := by
  have hlen := hl.length
  refine ⟨⟨by simp [hlen], rfl, fun t v ht => ?_⟩, fun t v ht => ?_⟩
  · rcases enterT_get hl 0 .leaf t v ht with ⟨x, g1, _, g3⟩ | g
    · rw [Nat.sub_zero] at g1
      have hlt : t < xs.length := by
        rcases Nat.lt_or_ge t xs.length with h | h
        · exact h
        · rw [List.getElem?_eq_none h] at g1; cases g1
      refine ⟨by omega, ?_⟩
      have : (xs.toArray ++ Array.replicate (nt - xs.toArray.size) undef).getD t undef = x := by
        rw [Array.getD_eq_getD_getElem?, Array.getElem?_append_left (by simpa using hlt)]
        simp [g1]
      show RelV ρ v ((xs.toArray ++ Array.replicate (nt - xs.toArray.size) undef).getD t undef)
      rw [this]; exact g3
    · rw [T.get_leaf] at g; cases g
  · rcases enterT_dom args 0 .leaf t v ht with h | h
    · exact hk t (by omega)
    · rw [T.get_leaf] at h; cases h

section
variable {R : Type} {bad x : R} {rk : RKK R} {ko : RKO}

theorem results_sound {fn : Func} {tm : T AV} {n : Nat} {D : List Deferred} {a : Act} {ρ : Rho} {st : St} {w : World} (hA : RelA D ρ tm n a) (H : RelH ρ st w) {l : List AV} (hl : evRes P tm st.h fn.results.toList = some l) :
    ∃ y, (results fn a.tmps).run P w = .ok y w ∧ RelV ρ (oneOf l) y := by
  obtain ⟨ys, g1, g2⟩ := evRes_sound (P := P) hA H hl
  refine ⟨_, ?_, oneOf_rel g1⟩
  rw [results_eq, Sem.run_bind, list_mapM_toArray fn.results _ w ys g2]
  rfl

theorem endK_inv {rs : List ResultVar} {kret : KP R} {tm : T AV} {st : St} (h : endK P bad rs kret tm st = x) (hx : x ≠ bad) : ∃ l, evRes P tm st.h rs = some l ∧ kret (oneOf l) st = x := optK_inv h hx

/-- What is said of a call. -/
def SoundK (P : Program) (g : FuncId) (args : List AV) (st : St) (kret kpan : KP R) (x : R) : Prop := ∃ out st', Out.to kret kpan st' out = x ∧ CallsOut P g args st out st'

theorem bodyK_sound (hrk : RKOk P bad rk) (hko : CallOk P ko) (hm : P.follows .mixedOrders = true) {F keep : Nat} {g : FuncId} {fn : Func} {c : Code} (hfn : P.funcs[g]? = some fn) (hc : fn.body = some c) (hok : okC keep fn.ntmps c = true) {args : List AV} (hargs : okArgs keep args.length = true)
    {st : St} {kret kpan : KP R} (e : bodyK P bad rk ko F args st kret kpan c keep fn.ntmps fn.results.toList = x) (hx : x ≠ bad) : SoundK P g args st kret kpan x := by
  obtain ⟨r, h1, _, h2⟩ := runC_sound hrk hko hm (n := args.length + (fn.ntmps - args.length)) (by omega) c hok _ _ _ _ _ _ _ e hx
  have fin : ∀ (tm1 : T AV) (st1 : St), endK P bad fn.results.toList kret tm1 st1 = x → (r = .norm tm1 st1 ∨ r = .ret tm1 st1) → SoundK P g args st kret kpan x := by
    intro tm1 st1 he hr
    obtain ⟨l, g1, g2⟩ := endK_inv he hx
    refine ⟨.ret (oneOf l), st1, g2, fun ρ xs w hl hH => calls_of_wp hfn hc (h2 [] ρ _ w _ (enter_relT hl (okArgs_spec hargs) fn.ntmps) hH ?_)⟩
    have main : ∀ ρ' (a' : Act) w', RelT [] ρ' keep tm1 (args.length + (fn.ntmps - args.length)) a' → RelH ρ' st1 w' → Fr ρ st w ρ' st1 w' →
        a'.defers = [] ∧ ∃ v, (results fn a'.tmps).run P w' = .ok v w' ∧ ∃ ρ'', RelOut ρ'' (.ret (oneOf l)) (.returned v) ∧ RelH ρ'' st1 w' ∧ Fr ρ st w ρ'' st1 w' := by
      intro ρ' a' w' k1 k2 k3
      obtain ⟨y, q1, q2⟩ := results_sound (P := P) (fn := fn) k1.rel k2 g1
      exact ⟨k1.rel.defers, y, q1, ρ', ⟨y, rfl, q2⟩, k2, k3⟩
    rcases hr with rfl | rfl
    · exact main
    · exact main
  cases r with
  | norm tm1 st1 => exact fin tm1 st1 h1 (.inl rfl)
  | ret tm1 st1 => exact fin tm1 st1 h1 (.inr rfl)
  | exit id tm1 st1 => exact absurd h1.symm hx
  | pan v tm1 st1 =>
    refine ⟨.pan v, st1, h1, fun ρ xs w hl hH => calls_of_wp hfn hc (h2 [] ρ _ w _ (enter_relT hl (okArgs_spec hargs) fn.ntmps) hH ?_)⟩
    intro ρ' a' w' y k1 k2 k3 k4
    exact ⟨k1.rel.defers, ρ', ⟨y, rfl, k2⟩, k3, k4⟩

theorem funcOf_inv {g : FuncId} {fc : FC} (h : funcOf P g = some fc) : ∃ fn c keep, P.funcs[g]? = some fn ∧ fn.body = some c ∧ okC keep fn.ntmps c = true ∧ okArgs keep (fn.params.size + fn.nfree) = true ∧ fc = .mk c keep (fn.params.size + fn.nfree) fn.ntmps fn.results.toList := by
  unfold funcOf at h
  split at h
  case h_1 => cases h
  rename_i fn hfn
  unfold compF at h
  split at h
  case h_1 => cases h
  rename_i c hc
  cases hb : (okC (keepOf fn c) fn.ntmps c && okArgs (keepOf fn c) (fn.params.size + fn.nfree)) with
  | false => rw [hb] at h; cases h
  | true =>
    rw [hb] at h
    simp only [cond_true, Option.some.injEq] at h
    rw [Bool.and_eq_true] at hb
    exact ⟨fn, c, _, hfn, hc, hb.1, hb.2, h.symm⟩

/-- What hooks do is so. -/
def HksOk (P : Program) (hk : Hks) : Prop :=
  ∀ g args h, hk g args = some h → ∀ (R : Type) (bad : R) (rk : RKK R), RKOk P bad rk → ∀ st kret kpan x, h R bad rk args st kret kpan = x → x ≠ bad → SoundK P g args st kret kpan x

theorem callK_sound {hk : Hks} (hhk : HksOk P hk) (hrk : RKOk P bad rk) (hko : CallOk P ko) (hm : P.follows .mixedOrders = true) {F : Nat} : RKOk P bad (callK P hk F bad rk ko) := by
  intro g args st kret kpan x h hx
  unfold callK at h
  cases hg : hk g args with
  | some hook =>
    rw [hg] at h
    exact hhk g args hook hg R bad rk hrk st kret kpan x h hx
  | none =>
    rw [hg] at h
    obtain ⟨fc, h1, h2⟩ := optK_inv (k := enterK P bad rk ko F args st kret kpan) h hx
    obtain ⟨fn, c, keep, e1, e2, e3, e4, rfl⟩ := funcOf_inv h1
    obtain ⟨h3, h4⟩ := ifB_inv h2 hx
    have hlen : args.length = (fn.params.size + fn.nfree) := Nat.eq_of_beq_eq_true h3
    exact bodyK_sound hrk hko hm e1 e2 e3 (by rw [hlen]; exact e4) h4 hx

theorem runK_sound {hk : Hks} (hhk : HksOk P hk) (hm : P.follows .mixedOrders = true) {F : Nat} : ∀ (d : Nat) (R : Type) (bad : R), RKOk P bad (runK P hk F d R bad)
  | 0, R, bad => fun g args st kret kpan x h hx => absurd h.symm hx
  | d + 1, R, bad => by
    have ih := runK_sound hhk hm (F := F) d
    refine callK_sound hhk (ih R bad) (ko := fun g as st => runK P hk F d (Option (AV × St)) none g as st (fun v st' => some (v, st')) (fun _ _ => none)) ?_ hm
    intro g args st v st' h ρ xs w hl hH
    obtain ⟨out, st1, h1, h2⟩ := ih (Option (AV × St)) none g args st _ _ _ h (by simp)
    cases out with
    | pan u => cases h1
    | ret u =>
      have h1' : some (u, st1) = some (v, st') := h1
      simp only [Option.some.injEq, Prod.mk.injEq] at h1'
      obtain ⟨rfl, rfl⟩ := h1'
      refine (h2 ρ xs w hl hH).mono ?_
      rintro e w' ⟨ρ', ⟨y, rfl, q1⟩, q2, q3⟩
      exact ⟨ρ', y, rfl, q1, q2, q3⟩
end
end
end Go.Proofs.Ytfkfejonlfcgoaa.Ev
