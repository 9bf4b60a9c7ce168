/- The evaluator in passing style is sound: code, calls. -/
import Derived.Test.YtfkfejonlfcgoaaEvPan4
import Derived.LoopN
namespace Go.Proofs.Ytfkfejonlfcgoaa.Ev
open Go Go.RowKit
section
variable {P : Program}

theorem putAll_unw {n : Nat} {vals : T AV} {t : Nat} : ∀ {os : List Oper} {i : Nat} {tm tm' : T AV}, putAll n vals os i tm = some tm' → (∀ o ∈ os, o.dst ≠ some t) → tm'.get t = tm.get t
  | [], i, tm, tm', e, _ => by simp only [putAll, Option.some.injEq] at e; rw [e]
  | o :: os, i, tm, tm', e, hn => by
    simp only [putAll] at e
    split at e
    case h_1 => cases e
    split at e
    case h_2 => cases e
    rename_i tm1 hp
    rw [putAll_unw e (fun o' h => hn o' (List.mem_cons_of_mem _ h))]
    unfold putA at hp
    have h0 := hn o (List.mem_cons_self ..)
    cases hd : o.dst with
    | none => rw [hd] at hp; simp only [Option.some.injEq] at hp; rw [hp]
    | some d =>
      rw [hd] at hp
      simp only at hp
      cases hb : d.blt n with
      | false => rw [hb] at hp; cases hp
      | true =>
        rw [hb] at hp; simp only [cond_true, Option.some.injEq] at hp; subst hp
        exact T.get_put_ne _ _ _ (fun e => h0 (by rw [hd, e]))

theorem evDraw_tm {call : FuncId → List AV → St → Option (AV × St)} {n : Nat} {ops : List Oper} {tm tm' : T AV} {st st' : St} (e : evDraw P call n ops tm st = some (tm', st')) : ∃ vals, putAll n vals ops 0 tm = some tm' := by
  unfold evDraw at e
  split at e
  case h_1 => cases e
  cases hpo : predsOk ops 0 with
  | false => rw [hpo] at e; cases e
  | true =>
  rw [hpo] at e; simp only [cond_true] at e
  split at e
  case h_1 => cases e
  split at e
  case h_1 => cases e
  rename_i phF _
  split at e
  case h_2 => cases e
  rename_i tm1 hput
  simp only [Option.some.injEq, Prod.mk.injEq] at e
  exact ⟨phF.vals, e.1 ▸ hput⟩

theorem okDraw_spec {keep : Nat} : ∀ {os : List Oper}, okDraw keep os = true → ∀ (k : Nat) (o : Oper) (d : Nat), os[k]? = some o → o.dst = some d → keep.testBit d = true
  | [], _, k, o, d, h, _ => by simp at h
  | o :: os, h, k, o', d, hk, hd => by
    simp only [okDraw, Bool.and_eq_true] at h
    cases k with
    | zero =>
      simp at hk; subst hk
      have h1 := h.1
      rw [hd] at h1; exact h1
    | succ k => exact okDraw_spec h.2 k o' d (by simpa using hk) hd

/-- Slots that code does not write. -/
def unwOps (t : Nat) : List Oper → Bool
  | [] => true
  | o :: os => (match o.dst with | none => true | some d => !d.beq t) && unwOps t os
def unw (t : Nat) : Code → Bool
  | .region _ ops _ => unwOps t ops.toList
  | .seq a b | .cond _ a b => unw t a && unw t b
  | .block _ c | .loop c | .scope c => unw t c
  | _ => true
theorem unwOps_spec {t : Nat} : ∀ {os : List Oper}, unwOps t os = true → ∀ o ∈ os, o.dst ≠ some t
  | [], _, o, h => by cases h
  | o' :: os, h, o, ho => by
    simp only [unwOps, Bool.and_eq_true] at h
    cases ho with
    | head =>
      intro hd
      have h1 := h.1
      rw [hd] at h1
      simp at h1
    | tail _ ho => exact unwOps_spec h.2 o ho

section
variable {R : Type} {bad x : R} {rk : RKK R} {ko : RKO}

/-- What is said of code. -/
def SoundC (P : Program) (bad : R) (keep n : Nat) (c : Code) (run : RCK R) : Prop :=
  ∀ tm st kn kx kr kp x, run tm st kn kx kr kp = x → x ≠ bad → ∃ r : CR, r.to kn kx kr kp = x ∧ (∀ t, unw t c = true → r.tm.get t = tm.get t) ∧
    ∀ D ρ a w Q, RelT D ρ keep tm n a → RelH ρ st w → Post D keep n ρ st w Q r → c.wp P Q a w

theorem runC_sound (hrk : RKOk P bad rk) (hko : CallOk P ko) (hm : P.follows .mixedOrders = true) {keep n m F : Nat} (hmn : m ≤ n) : ∀ (c : Code), okC keep m c = true → SoundC P bad keep n c (runC P bad keep rk ko F n c) := by
  intro c
  induction c with
  | skip =>
    intro _ tm st kn kx kr kp x e hx
    exact ⟨.norm tm st, e, fun _ _ => rfl, fun D ρ a w Q hA hH hQ => wp_skip (hQ ρ a w hA hH (Fr.refl _ _ _ hH))⟩
  | label l =>
    intro _ tm st kn kx kr kp x e hx
    exact ⟨.norm tm st, e, fun _ _ => rfl, fun D ρ a w Q hA hH hQ => wp_label (hQ ρ a w hA hH (Fr.refl _ _ _ hH))⟩
  | exit id =>
    intro _ tm st kn kx kr kp x e hx
    exact ⟨.exit id tm st, e, fun _ _ => rfl, fun D ρ a w Q hA hH hQ => wp_exit (hQ ρ a w hA hH (Fr.refl _ _ _ hH))⟩
  | ret =>
    intro _ tm st kn kx kr kp x e hx
    exact ⟨.ret tm st, e, fun _ _ => rfl, fun D ρ a w Q hA hH hQ => wp_ret (hQ ρ a w hA hH (Fr.refl _ _ _ hH))⟩
  | goto l => intro _ tm st kn kx kr kp x e hx; exact absurd e.symm hx
  | refuse s => intro _ tm st kn kx kr kp x e hx; exact absurd e.symm hx
  | rangeFunc f ps as b iha ihb => intro _ tm st kn kx kr kp x e hx; exact absurd e.symm hx
  | seq a b iha ihb =>
    intro hok tm st kn kx kr kp x e hx
    simp only [okC, Bool.and_eq_true] at hok
    have e' : runC P bad keep rk ko F n a tm st (fun tm st => runC P bad keep rk ko F n b tm st kn kx kr kp) kx kr kp = x := e
    obtain ⟨r, h1, h0, h2⟩ := iha hok.1 _ _ _ _ _ _ _ e' hx
    cases r with
    | norm tm1 st1 =>
      obtain ⟨r2, k1, k0, k2⟩ := ihb hok.2 _ _ _ _ _ _ _ h1 hx
      refine ⟨r2, k1, fun t ht => ?_, fun D ρ ac w Q hA hH hQ => wp_seq (h2 D ρ ac w _ hA hH fun ρ1 a1 w1 q1 q2 q3 => k2 D ρ1 a1 w1 Q q1 q2 (hQ.trans q3))⟩
      simp only [unw, Bool.and_eq_true] at ht
      rw [k0 t ht.2]; exact h0 t ht.1
    | exit id tm1 st1 =>
      refine ⟨.exit id tm1 st1, h1, fun t ht => ?_, fun D ρ ac w Q hA hH hQ => wp_seq (h2 D ρ ac w _ hA hH fun ρ1 a1 w1 q1 q2 q3 => hQ ρ1 a1 w1 q1 q2 q3)⟩
      simp only [unw, Bool.and_eq_true] at ht
      exact h0 t ht.1
    | ret tm1 st1 =>
      refine ⟨.ret tm1 st1, h1, fun t ht => ?_, fun D ρ ac w Q hA hH hQ => wp_seq (h2 D ρ ac w _ hA hH fun ρ1 a1 w1 q1 q2 q3 => hQ ρ1 a1 w1 q1 q2 q3)⟩
      simp only [unw, Bool.and_eq_true] at ht
      exact h0 t ht.1
    | pan v tm1 st1 =>
      refine ⟨.pan v tm1 st1, h1, fun t ht => ?_, fun D ρ ac w Q hA hH hQ => wp_seq (h2 D ρ ac w _ hA hH fun ρ1 a1 w1 y q0 q1 q2 q3 => hQ ρ1 a1 w1 y q0 q1 q2 q3)⟩
      simp only [unw, Bool.and_eq_true] at ht
      exact h0 t ht.1
  | cond xo a b iha ihb =>
    intro hok tm st kn kx kr kp x e hx
    simp only [okC, Bool.and_eq_true] at hok
    have e' : getE .nil tm bad (condK bad (runC P bad keep rk ko F n a tm st kn kx kr kp) (runC P bad keep rk ko F n b tm st kn kx kr kp)) (compX keep xo) = x := e
    obtain ⟨v, h1, h2⟩ := cxE_ok keep R bad _ _ _ _ _ e' hx
    unfold condK at h2
    split at h2
    · rename_i bo
      have hev : ∀ {D : List Deferred} {ρ : Rho} {ac : Act}, RelT D ρ keep tm n ac → ac.eval xo = .bool bo := fun hA => relV_sc.1 (hA.toG.ok (evE_base _ _ _) xo _ h1)
      cases bo with
      | true =>
        obtain ⟨r, k1, k0, k2⟩ := iha hok.1 _ _ _ _ _ _ _ h2 hx
        refine ⟨r, k1, fun t ht => ?_, fun D ρ ac w Q hA hH hQ => wp_cond (hev hA) (k2 D ρ ac w Q hA hH hQ)⟩
        simp only [unw, Bool.and_eq_true] at ht
        exact k0 t ht.1
      | false =>
        obtain ⟨r, k1, k0, k2⟩ := ihb hok.2 _ _ _ _ _ _ _ h2 hx
        refine ⟨r, k1, fun t ht => ?_, fun D ρ ac w Q hA hH hQ => wp_cond (hev hA) (k2 D ρ ac w Q hA hH hQ)⟩
        simp only [unw, Bool.and_eq_true] at ht
        exact k0 t ht.2
    · exact absurd h2.symm hx
  | block id c ih =>
    intro hok tm st kn kx kr kp x e hx
    have e' : runC P bad keep rk ko F n c tm st kn (fun id' tm st => ifB (kn tm st) (kx id' tm st) (Nat.beq id' id)) kr kp = x := e
    obtain ⟨r, h1, h0, h2⟩ := ih hok _ _ _ _ _ _ _ e' hx
    cases r with
    | norm tm1 st1 => exact ⟨.norm tm1 st1, h1, h0, fun D ρ ac w Q hA hH hQ => wp_block (h2 D ρ ac w _ hA hH fun ρ1 a1 w1 q1 q2 q3 => hQ ρ1 a1 w1 q1 q2 q3)⟩
    | exit id' tm1 st1 =>
      have h1' : ifB (kn tm1 st1) (kx id' tm1 st1) (Nat.beq id' id) = x := h1
      cases hb : Nat.beq id' id with
      | true =>
        rw [hb] at h1'
        refine ⟨.norm tm1 st1, h1', h0, fun D ρ ac w Q hA hH hQ => wp_block (h2 D ρ ac w _ hA hH fun ρ1 a1 w1 q1 q2 q3 => ?_)⟩
        show (if id' = id then Q .normal a1 w1 else Q (.exit id') a1 w1)
        rw [if_pos (Nat.eq_of_beq_eq_true hb)]
        exact hQ ρ1 a1 w1 q1 q2 q3
      | false =>
        rw [hb] at h1'
        refine ⟨.exit id' tm1 st1, h1', h0, fun D ρ ac w Q hA hH hQ => wp_block (h2 D ρ ac w _ hA hH fun ρ1 a1 w1 q1 q2 q3 => ?_)⟩
        show (if id' = id then Q .normal a1 w1 else Q (.exit id') a1 w1)
        rw [if_neg (Nat.ne_of_beq_eq_false hb)]
        exact hQ ρ1 a1 w1 q1 q2 q3
    | ret tm1 st1 => exact ⟨.ret tm1 st1, h1, h0, fun D ρ ac w Q hA hH hQ => wp_block (h2 D ρ ac w _ hA hH fun ρ1 a1 w1 q1 q2 q3 => hQ ρ1 a1 w1 q1 q2 q3)⟩
    | pan v tm1 st1 => exact ⟨.pan v tm1 st1, h1, h0, fun D ρ ac w Q hA hH hQ => wp_block (h2 D ρ ac w _ hA hH fun ρ1 a1 w1 y q0 q1 q2 q3 => hQ ρ1 a1 w1 y q0 q1 q2 q3)⟩
  | scope c ih =>
    intro hok tm st kn kx kr kp x e hx
    have e' : runC P bad keep rk ko F n c tm st kn kx kr kp = x := e
    obtain ⟨r, h1, h0, h2⟩ := ih hok _ _ _ _ _ _ _ e' hx
    cases r with
    | norm tm1 st1 => exact ⟨.norm tm1 st1, h1, h0, fun D ρ ac w Q hA hH hQ => wp_scope_straight (h2 D ρ ac w _ hA hH fun ρ1 a1 w1 q1 q2 q3 => hQ ρ1 a1 w1 q1 q2 q3)⟩
    | exit id' tm1 st1 => exact ⟨.exit id' tm1 st1, h1, h0, fun D ρ ac w Q hA hH hQ => wp_scope_straight (h2 D ρ ac w _ hA hH fun ρ1 a1 w1 q1 q2 q3 => hQ ρ1 a1 w1 q1 q2 q3)⟩
    | ret tm1 st1 => exact ⟨.ret tm1 st1, h1, h0, fun D ρ ac w Q hA hH hQ => wp_scope_straight (h2 D ρ ac w _ hA hH fun ρ1 a1 w1 q1 q2 q3 => hQ ρ1 a1 w1 q1 q2 q3)⟩
    | pan v tm1 st1 => exact ⟨.pan v tm1 st1, h1, h0, fun D ρ ac w Q hA hH hQ => wp_scope_straight (h2 D ρ ac w _ hA hH fun ρ1 a1 w1 y q0 q1 q2 q3 => hQ ρ1 a1 w1 y q0 q1 q2 q3)⟩
  | loop c ih =>
    intro hok tm st kn kx kr kp x e hx
    have key : ∀ (f : Nat) (tm : T AV) (st : St), @Nat.rec (fun _ => KN R) (fun _ _ => bad) (fun _ ih tm st => runC P bad keep rk ko F n c tm st ih kx kr kp) f tm st = x →
        ∃ r : CR, r.to kn kx kr kp = x ∧ (∀ t, unw t c = true → r.tm.get t = tm.get t) ∧ ∀ D ρ a w Q, RelT D ρ keep tm n a → RelH ρ st w → Post D keep n ρ st w Q r → Code.rounds P c Q f a w := by
      intro f
      induction f with
      | zero => intro tm st e; exact absurd e.symm hx
      | succ f ihf =>
        intro tm st e
        obtain ⟨r, h1, h0, h2⟩ := ih hok _ _ _ _ _ _ _ e hx
        cases r with
        | norm tm1 st1 =>
          obtain ⟨r2, k1, k0, k2⟩ := ihf tm1 st1 h1
          refine ⟨r2, k1, fun t ht => by rw [k0 t ht]; exact h0 t ht, fun D ρ ac w Q hA hH hQ => ?_⟩
          rw [rounds_succ]
          exact h2 D ρ ac w _ hA hH fun ρ1 a1 w1 q1 q2 q3 => k2 D ρ1 a1 w1 Q q1 q2 (hQ.trans q3)
        | exit id' tm1 st1 =>
          refine ⟨.exit id' tm1 st1, h1, h0, fun D ρ ac w Q hA hH hQ => ?_⟩
          rw [rounds_succ]
          exact h2 D ρ ac w _ hA hH fun ρ1 a1 w1 q1 q2 q3 => hQ ρ1 a1 w1 q1 q2 q3
        | ret tm1 st1 =>
          refine ⟨.ret tm1 st1, h1, h0, fun D ρ ac w Q hA hH hQ => ?_⟩
          rw [rounds_succ]
          exact h2 D ρ ac w _ hA hH fun ρ1 a1 w1 q1 q2 q3 => hQ ρ1 a1 w1 q1 q2 q3
        | pan v tm1 st1 =>
          refine ⟨.pan v tm1 st1, h1, h0, fun D ρ ac w Q hA hH hQ => ?_⟩
          rw [rounds_succ]
          exact h2 D ρ ac w _ hA hH fun ρ1 a1 w1 y q0 q1 q2 q3 => hQ ρ1 a1 w1 y q0 q1 q2 q3
    obtain ⟨r, k1, k0, k2⟩ := key F tm st e
    exact ⟨r, k1, k0, fun D ρ a w Q hA hH hQ => wp_loop_rounds F (k2 D ρ a w Q hA hH hQ)⟩
  | region id ops draw =>
    intro hok tm st kn kx kr kp x e hx
    cases draw with
    | false =>
      have e' : seqR P bad keep rk ko ops.toList ops.toList .nil tm st kn kp = x := e
      have hdst : ∀ (k : Nat) (o : Oper) (d : Nat), ops[k]? = some o → o.dst = some d → d < n := fun k o d h => okOps_dst hmn hok k o d (by simpa using h)
      obtain ⟨r, h1, h0, h2⟩ := seqR_sound hrk hko hdst ops.toList 0 rfl _ _ _ _ _ _ e' hx
      have h2' : ∀ D ρ a w Q, RelT D ρ keep tm n a → RelH ρ st w → Post D keep n ρ st w Q r → (Code.region id ops false).wp P Q a w := by
        intro D ρ a w Q hA hH hQ
        refine wp_region ?_
        rw [List.range_eq_range']
        have := h2 D ρ a w Q hA.toG hA.dom hH hQ
        simpa using this
      have h0' : ∀ t, unw t (.region id ops false) = true → r.tm.get t = tm.get t := fun t ht => h0 t (unwOps_spec ht)
      cases r with
      | norm tm1 st1 => exact ⟨.norm tm1 st1, h1, h0', h2'⟩
      | pan v tm1 st1 => exact ⟨.pan v tm1 st1, h1, h0', h2'⟩
      | exit id' tm1 st1 => exact absurd h1.symm hx
      | ret tm1 st1 => exact absurd h1.symm hx
    | true =>
      have hok' : (match compR ops.toList with | .slow => okDraw keep ops.toList | .fast _ _ => okOps m ops.toList) = true := hok
      have e' : @RI.rec (fun _ => RCK R) (fun tm st kn _ _ _ => optK bad (fun p => @Prod.rec (T AV) St (fun _ => R) kn p) (evDraw P ko n ops.toList tm st))
        (fun wr anc tm st kn _ _ _ => seqD P bad keep rk ko wr anc ops.toList ops.toList 0 .nil tm st kn (fun _ _ => bad)) (compR ops.toList) tm st kn kx kr kp = x := e
      cases hc : compR ops.toList with
      | slow =>
        rw [hc] at e' hok'
        have e2 : optK bad (fun p => @Prod.rec (T AV) St (fun _ => R) kn p) (evDraw P ko n ops.toList tm st) = x := e'
        obtain ⟨⟨tm1, st1⟩, h1, h2⟩ := optK_inv e2 hx
        obtain ⟨vals, hput⟩ := evDraw_tm h1
        refine ⟨.norm tm1 st1, h2, fun t ht => putAll_unw hput (unwOps_spec ht), fun D ρ a w Q hA hH hQ => ?_⟩
        refine evDraw_sound hko hm h1 hA.rel hH fun ρ' a' w' k1 k2 k3 => hQ ρ' a' w' ⟨k1, fun t v ht => ?_⟩ k2 k3
        rcases (putAll_spec hput).2 t v ht with ⟨k, o, g1, g2, _⟩ | ⟨g1, _⟩
        · exact okDraw_spec hok' k o t g1 g2
        · exact hA.dom t v g1
      | fast wr anc =>
        have hcc := hc
        rw [hc] at e' hok'
        have e2 : seqD P bad keep rk ko wr anc ops.toList ops.toList 0 .nil tm st kn (fun _ _ => bad) = x := e'
        unfold compR at hcc
        split at hcc
        · cases hcc
        · rename_i wr0 hwr
          cases hb : (predsOk ops.toList 0 && ordOk (ancs ops.toList 0 .leaf) ops.toList ops.toList 0) with
          | false => rw [hb] at hcc; cases hcc
          | true =>
            rw [hb] at hcc
            simp only [cond_true, RI.fast.injEq] at hcc
            obtain ⟨rfl, rfl⟩ := hcc
            rw [Bool.and_eq_true] at hb
            obtain ⟨L, locE, tmE, stE, h1, h2⟩ := seqD_inv hrk _ _ _ _ _ _ e2 hx
            refine ⟨.norm tmE stE, h1, fun t ht => ?_, fun D ρ a w Q hA hH hQ => ?_⟩
            · have hn := unwOps_spec ht
              show tmE.get t = tm.get t
              rw [← h2.ends.2.1]
              exact TrD.unwr h2 t (fun o ho => hn o ho) _ (Nat.le_refl _)
            · exact seqD_sound hko hm h2 hwr hb.1 hb.2 (fun j o d g1 g2 => okOps_dst hmn hok' j o d (by simpa using g1) g2) hA hH hQ
end
end
end Go.Proofs.Ytfkfejonlfcgoaa.Ev
