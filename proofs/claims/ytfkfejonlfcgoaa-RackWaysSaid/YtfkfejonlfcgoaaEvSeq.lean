import Derived.Test.YtfkfejonlfcgoaaEvOp
import Derived.Test.YtfkfejonlfcgoaaEvDef2
namespace Go.Proofs.Ytfkfejonlfcgoaa.Ev
open Go Go.RowKit
section
variable {P : Program} {D : List Deferred} {ρ : Rho} {st : St} {w : World}

/-- The slots of a frame. -/
structure RelA (D : List Deferred) (ρ : Rho) (tm : T AV) (n : Nat) (a : Act) : Prop where
  size : a.tmps.size = n
  defers : a.defers = D
  rel : ∀ t v, tm.get t = some v → t < n ∧ RelV ρ v (a.tmps.getD t undef)

theorem RelA.mono {ρ ρ' : Rho} {tm : T AV} {n : Nat} {a : Act} (h : RelA D ρ tm n a) (hx : Ext ρ ρ') : RelA D ρ' tm n a :=
  ⟨h.size, h.defers, fun t v e => ⟨(h.rel t v e).1, RelV.mono hx _ _ (h.rel t v e).2⟩⟩
theorem RelA.ok {tm : T AV} {n : Nat} {a : Act} (h : RelA D ρ tm n a) : EvOk ρ (evX tm) a.eval := by
  intro x v e
  cases x with
  | tmp t => exact (h.rel t v e).2
  | const u => simp only [evX, Option.some.injEq] at e; subst e; exact RelV.sc _
  | global g => simp [evX] at e
  | func f => simp only [evX, Option.some.injEq] at e; subst e; exact RelV.sc _

theorem wantedA_sound {ops : Array Oper} {get : Nat → Option AV} {tmps : Array Value} (hget : ∀ d v, get d = some v → d < tmps.size ∧ RelV ρ v (tmps.getD d undef)) {o : Oper} {b : Bool} (e : wantedA ops.toList get o = some b) :
    Region.wanted o (yielded ops tmps) = b := by
  unfold wantedA at e
  unfold Region.wanted
  split at e
  · rename_i hg
    simp only [Option.some.injEq] at e; subst e
    rw [hg]
  · rename_i j want hg
    rw [hg]
    simp only
    split at e
    case h_2 => cases e
    rename_i og hog
    split at e
    case h_2 => cases e
    rename_i d hd
    have hy : yielded ops tmps j = (match tmps[d]? with | some (.bool b) => some b | _ => none) := by
      unfold yielded
      have : ops[j]? = some og := by simpa using hog
      rw [this]; simp [hd]; rfl
    rw [hy]
    split at e
    · rename_i b' hb'
      obtain ⟨h1, h2⟩ := hget d _ hb'
      have := relV_sc.1 h2
      have e2 : tmps[d]? = some (.bool b') := by
        rw [Array.getD_eq_getD_getElem?, Array.getElem?_eq_getElem h1] at this
        rw [Array.getElem?_eq_getElem h1]; simpa using this
      rw [e2]
      simp only [Option.some.injEq] at e; subst e
      cases b' <;> cases want <;> rfl
    · rename_i v hnb hb'
      simp only [Option.some.injEq] at e; subst e
      obtain ⟨h1, h2⟩ := hget d _ hb'
      have hne : ∀ c, tmps[d]? ≠ some (.bool c) := by
        intro c hc
        have hv : tmps.getD d undef = .bool c := by rw [Array.getD_eq_getD_getElem?, hc]; rfl
        rw [hv] at h2
        cases v with
        | sc u => have := relV_sc.1 h2; subst this; exact hnb c rfl
        | ptr i k => obtain ⟨_, _, h⟩ := relV_ptr.1 h2; cases h
        | sl i k n z c => obtain ⟨_, _, _, _, _, h⟩ := relV_sl.1 h2; cases h
        | mp i => obtain ⟨_, _, h⟩ := relV_mp.1 h2; cases h
        | fn f l m => obtain ⟨_, _, _, _, h⟩ := relV_fn.1 h2; cases h
        | ifc t u => obtain ⟨_, _, h⟩ := relV_ifc.1 h2; cases h
        | agg l => obtain ⟨_, _, h⟩ := relV_agg.1 h2; cases h
        | tup l => obtain ⟨_, _, h⟩ := relV_tup.1 h2; cases h
        | res k m r => obtain ⟨_, _, _, h⟩ := relV_res.1 h2; cases h
      cases hd2 : tmps[d]? with
      | none => rfl
      | some u =>
        cases u with
        | bool c => exact absurd hd2 (hne c)
        | _ => rfl
    · cases e

theorem RelA.put {tm tm' : T AV} {n : Nat} {a : Act} (h : RelA D ρ tm n a) {dst : Option Tmp} {v : AV} {y : Value} (e : putA n tm dst v = some tm') (hv : RelV ρ v y) : RelA D ρ tm' n (a.put dst y) := by
  unfold putA at e
  cases dst with
  | none => simp only [Option.some.injEq] at e; subst e; exact h
  | some d =>
    simp only at e
    cases hb : d.blt n with
    | false => rw [hb] at e; cases e
    | true =>
      rw [hb] at e; simp only [cond_true, Option.some.injEq] at e; subst e
      have hlt : d < n := by simpa [Nat.blt_eq] using hb
      refine ⟨by simp [Act.put, h.size], h.defers, fun t u hu => ?_⟩
      by_cases htd : t = d
      · subst htd
        rw [T.get_put_same] at hu; cases hu
        exact ⟨hlt, by simp [Act.put, h.size, hlt]; exact hv⟩
      · rw [T.get_put_ne _ _ _ htd] at hu
        obtain ⟨h1, h2⟩ := h.rel t u hu
        refine ⟨h1, ?_⟩
        have : (a.put (some d) y).tmps.getD t undef = a.tmps.getD t undef := by
          simp [Act.put, Array.getD_eq_getD_getElem?, Array.getElem?_setIfInBounds_ne (fun e => htd e.symm)]
        rw [this]; exact h2

theorem evSeq_sound {call : FuncId → List AV → St → Option (AV × St)} (hcall : CallOk P call) {n : Nat} {ops : Array Oper} {Q : Exit → Act → World → Prop} :
    ∀ (os : List Oper) (i : Nat), ops.toList.drop i = os → ∀ {ρ : Rho} {tm tm' : T AV} {st st' : St} {a : Act} {w : World}, evSeq P call n ops.toList os tm st = some (tm', st') → RelA D ρ tm n a → RelH ρ st w →
      (∀ ρ' a' w', RelA D ρ' tm' n a' → RelH ρ' st' w' → Fr ρ st w ρ' st' w' → Q .normal a' w') → wpOps P ops Q (List.range' i os.length) a w
  | [], i, _, ρ, tm, tm', st, st', a, w, e, hA, hH, hQ => by
    simp only [evSeq, Option.some.injEq, Prod.mk.injEq] at e
    obtain ⟨rfl, rfl⟩ := e
    exact hQ ρ a w hA hH (Fr.refl _ _ _ hH)
  | o :: os, i, hd, ρ, tm, tm', st, st', a, w, e, hA, hH, hQ => by
    have hlt : i < ops.toList.length := by
      rcases Nat.lt_or_ge i ops.toList.length with h | h
      · exact h
      · rw [List.drop_eq_nil_of_le h] at hd; cases hd
    have ho : ops[i]? = some o := by
      rw [List.drop_eq_getElem_cons hlt] at hd
      have := (List.cons.inj hd).1
      rw [← this]; simp at hlt ⊢
    have hd' : ops.toList.drop (i + 1) = os := by
      rw [List.drop_eq_getElem_cons hlt] at hd
      exact (List.cons.inj hd).2
    simp only [evSeq] at e
    rw [List.length_cons, List.range'_succ]
    show wpOps P ops Q (i :: List.range' (i + 1) os.length) a w
    rw [wpOps_cons]
    unfold wpOp
    rw [ho]
    simp only
    split at e
    · cases e
    · rename_i hw
      have hwant := wantedA_sound (ρ := ρ) (ops := ops) (tmps := a.tmps) (fun d v h => by rw [hA.size]; exact hA.rel d v h) hw
      split at e
      case h_2 => cases e
      rename_i tm1 hp
      rw [hwant]
      simp only [Bool.false_eq_true, if_false]
      exact evSeq_sound hcall os (i + 1) hd' e (hA.put hp (RelV.sc _)) hH hQ
    · rename_i hw
      have hwant := wantedA_sound (ρ := ρ) (ops := ops) (tmps := a.tmps) (fun d v h => by rw [hA.size]; exact hA.rel d v h) hw
      split at e
      case h_1 => cases e
      rename_i v st1 hop
      split at e
      case h_2 => cases e
      rename_i tm1 hp
      rw [hwant]
      simp only [if_true]
      refine .inl (evOp_sound hcall hH hA.ok hop _ _ fun y ρ' w' h1 h2 h3 => ?_)
      exact evSeq_sound hcall os (i + 1) hd' e ((hA.mono (h3.ext hH)).put hp h1) h2 (fun ρ'' a' w'' k1 k2 k3 => hQ ρ'' a' w'' k1 k2 (h3.trans k3))
end
end Go.Proofs.Ytfkfejonlfcgoaa.Ev
