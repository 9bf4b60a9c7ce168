/- The evaluator in passing style: closed calls; what is known of some calls in their places. -/
import Derived.Test.YtfkfejonlfcgoaaEvPan8
namespace Go.Proofs.Ytfkfejonlfcgoaa.Ev
open Go Go.RowKit
noncomputable section

/-- Hooks by a list. -/
structure Entry where
  g : FuncId
  fits : List AV → Bool
  hook : Hook
def hksOf (l : List Entry) : Hks := fun g args => @List.rec Entry (fun _ => Option Hook) none (fun p _ ih => @Entry.rec (fun _ => Option Hook) (fun g' t h => @Bool.rec (fun _ => Option Hook) ih (@Bool.rec (fun _ => Option Hook) ih (some h) (t args)) (Nat.beq g g')) p) l
def always : List AV → Bool := fun _ => true

/-- A closed call that returns a scalar. -/
def chkP (P : Program) (hk : Hks) (F d : Nat) (g : FuncId) (args : List AV) : Option Value :=
  runK P hk F d (Option Value) none g args ⟨.leaf, 1⟩ (fun v _ => v.toV) (fun _ _ => none)
def listOf (v : AV) (st : St) : Option (List Int × Option Nat) :=
  match v with
  | .sl i k n z c => bif z.beq 1 && Nat.ble 1 n then match rdCells st.h i k n with
      | some l => match allI l with
        | some xs => some (xs, c)
        | none => none
      | none => none
    else none
  | _ => none
/-- A closed call that returns a list of numbers that is new. -/
def chkPL (P : Program) (hk : Hks) (F d : Nat) (g : FuncId) (args : List AV) : Option (List Int × Option Nat) :=
  runK P hk F d (Option (List Int × Option Nat)) none g args ⟨.leaf, 1⟩ listOf (fun _ _ => none)
/-- A known number in a call's place. -/
def hookNum (f : List AV → Option Value) : Hook := fun _ bad _ args st kret _ => optK bad (fun v => kret (.sc v) st) (f args)
/-- A known list, new, in a call's place. -/
def hookList (f : List AV → Option (List Int × Option Nat)) : Hook := fun _ bad _ args st kret _ => optK bad (fun p => @Prod.rec (List Int) (Option Nat) (fun _ => _) (fun xs c =>
  optK bad (fun ao => kret (.sl st.nx 0 xs.length 1 c) ⟨st.h.put st.nx ao, Nat.succ st.nx⟩) (rowOf st.nx (xs.map fun x => .sc (.int .i64 x)))) p) (f args)
end

section
variable {P : Program}
theorem H0 (w : World) : RelH (fun _ => none) ⟨.leaf, 1⟩ w :=
  ⟨(fun i o hg => by simp [T.get_leaf] at hg), (fun i p hp => by cases hp), (fun i j oi oj p q hi => by simp [T.get_leaf] at hi), (fun i c lo hi cls t hg => by simp [T.get_leaf] at hg), Nat.one_pos⟩
theorem Fr.below {ρ' : Rho} {st' : St} {w w' : World} (h : Fr (fun _ => none) ⟨.leaf, 1⟩ w ρ' st' w') : Below w.heap.size w w' :=
  ⟨h.os, h.tape, h.output, h.size, fun b hb => h.keep b hb (by rintro ⟨j, o, q, hj, _⟩; rw [T.get_leaf] at hj; cases hj)⟩

/-- What is said of a call that returns a scalar. -/
def GivesV (P : Program) (g : FuncId) (vs : List Value) (v : Value) : Prop := ∀ w, Calls P g vs.toArray w fun e w' => e = .returned v ∧ Below w.heap.size w w'
/-- What is said of a call that returns a list of numbers that is new. -/
def GivesL (P : Program) (g : FuncId) (vs : List Value) (xs : List Int) (cap : Option Nat) : Prop := ∀ w, Calls P g vs.toArray w fun e w' => ∃ (b o c : Nat), e = .returned (.slice (some ⟨b, o, none⟩) xs.length c) ∧ xs.length ≤ c ∧ (∀ m, cap = some m → c = m) ∧ w.heap.size ≤ b ∧ b < w'.heap.size ∧
  (∀ k, k < c → w'.frozen? ⟨b, o + k, none⟩ = false ∧ ∃ x, w'.cell? ⟨b, o + k, none⟩ = some x ∧ ∀ v, xs[k]? = some v → x = .int .i64 v) ∧ Below w.heap.size w w'

theorem chkP_sound {hk : Hks} (hhk : HksOk P hk) (hm : P.follows .mixedOrders = true) {F d : Nat} {g : FuncId} {args : List AV} {vs : List Value} (hr : RelL (fun _ => none) args vs) {v : Value} (h : chkP P hk F d g args = some v) : GivesV P g vs v := by
  intro w
  obtain ⟨out, st', h1, h2⟩ := runK_sound hhk hm (F := F) d (Option Value) none g args _ _ _ _ h (by simp)
  cases out with
  | pan u => cases h1
  | ret u =>
    have h1' : u.toV = some v := h1
    refine (h2 _ vs w hr (H0 w)).mono ?_
    rintro e w' ⟨ρ', ⟨y, rfl, q1⟩, q2, q3⟩
    exact ⟨by rw [RelV.toV _ _ _ q1 h1'], q3.below⟩

theorem chkPL_sound {hk : Hks} (hhk : HksOk P hk) (hm : P.follows .mixedOrders = true) {F d : Nat} {g : FuncId} {args : List AV} {vs : List Value} (hr : RelL (fun _ => none) args vs) {xs : List Int} {c : Option Nat} (h : chkPL P hk F d g args = some (xs, c)) : GivesL P g vs xs c := by
  intro w
  obtain ⟨out, st', h1, h2⟩ := runK_sound hhk hm (F := F) d (Option (List Int × Option Nat)) none g args _ _ _ _ h (by simp)
  cases out with
  | pan u => cases h1
  | ret u =>
    have h1' : listOf u st' = some (xs, c) := h1
    refine (h2 _ vs w hr (H0 w)).mono ?_
    rintro e w' ⟨ρ', ⟨y, rfl, q1⟩, q2, q3⟩
    unfold listOf at h1'
    split at h1'
    case h_2 => cases h1'
    rename_i i k n z c'
    cases hz : (z.beq 1 && Nat.ble 1 n) with
    | false => rw [hz] at h1'; cases h1'
    | true =>
      rw [hz] at h1'
      simp only [cond_true] at h1'
      rw [Bool.and_eq_true] at hz
      have hz1 : z = 1 := Nat.eq_of_beq_eq_true hz.1
      have hn1 : 1 ≤ n := Nat.le_of_ble_eq_true hz.2
      subst hz1
      split at h1'
      case h_2 => cases h1'
      rename_i l hl
      split at h1'
      case h_2 => cases h1'
      rename_i xs' hxs
      simp only [Option.some.injEq, Prod.mk.injEq] at h1'
      obtain ⟨rfl, rfl⟩ := h1'
      obtain ⟨a, cap, p1, p2, p3, rfl⟩ := relV_sl.1 q1
      obtain ⟨ha, hroom⟩ := p1 (by omega)
      obtain ⟨zs, k1, k2, k3⟩ := q2.rds hl ha
      have k4 := allI_rel hxs k1
      subst k4
      have hlen : xs'.length = n := by simpa using k2
      obtain ⟨b, o, e, e1, e2, e3, e4⟩ := ha
      obtain ⟨b', o', e', r1, r2⟩ := hroom
      rw [e1] at r1; cases r1
      obtain ⟨a_b, a_o, a_s⟩ := a
      simp only at e2 e3 e4
      subst e2; subst e3
      have hrd : ∃ v, rdCell st'.h i k = some v := by
        cases n with
        | zero => omega
        | succ m =>
          simp only [rdCells] at hl
          split at hl
          · exact ⟨_, by assumption⟩
          · cases hl
      obtain ⟨v0, hv0⟩ := hrd
      unfold rdCell at hv0
      split at hv0
      case h_2 => cases hv0
      rename_i cc lo hi cls ww hobj
      cases hlo : (lo.ble k && k.blt hi) with
      | false => rw [hlo] at hv0; cases hv0
      | true =>
      rw [Bool.and_eq_true] at hlo
      have hlok : lo ≤ k := Nat.le_of_ble_eq_true hlo.1
      obtain ⟨b2, o2, e2, g1, g2, g3⟩ := q2.obj i _ hobj
      rw [e1] at g1; cases g1
      have hb0 := q2.dom i _ e1
      have hnew : w.heap.size ≤ a_b := by
        have hi0 : 1 ≤ i := by
          cases i with
          | zero => have := q3.old 0 (by exact Nat.one_pos); rw [e1] at this; cases this
          | succ m => omega
        rcases q3.new i _ hi0 e1 with h | ⟨j, o, q, hj, _⟩
        · exact h
        · rw [T.get_leaf] at hj; cases hj
      refine ⟨a_b, a_o, cap, by rw [hlen], by omega, p3, hnew, hb0.2, fun j hj => ?_, q3.below⟩
      obtain ⟨m, m1, m2, x, m3, _⟩ := g3 (k + j) (by omega) (by omega)
      have hm' : m = a_o + j := by omega
      subst hm'
      refine ⟨m2, x, m3, fun v hv => ?_⟩
      have k5 := k3 j (.int .i64 v) (by simp [hv])
      have hadd : (Addr.add ⟨a_b, a_o, none⟩ j) = ⟨a_b, a_o + j, none⟩ := Addr.add_lit _ _ _
      rw [hadd, m3] at k5
      exact Option.some.inj k5

theorem hookNum_ok {g : FuncId} {f : List AV → Option Value} (h : ∀ args v, f args = some v → ∃ vs, toVs args = some vs ∧ GivesV P g vs v) :
    ∀ (R : Type) (bad : R) (rk : RKK R), RKOk P bad rk → ∀ args st kret kpan x, hookNum f R bad rk args st kret kpan = x → x ≠ bad → SoundK P g args st kret kpan x := by
  intro R bad rk _ args st kret kpan x e hx
  obtain ⟨v, h1, h2⟩ := optK_inv (k := fun v => kret (.sc v) st) e hx
  obtain ⟨vs, h3, h4⟩ := h args v h1
  refine ⟨.ret (.sc v), st, h2, fun ρ xs w hl hH => ?_⟩
  have := RelL.toVs _ _ _ hl h3
  subst this
  refine (h4 w).mono ?_
  rintro e w' ⟨rfl, B⟩
  exact ⟨ρ, ⟨v, rfl, RelV.sc _⟩, ⟨fun i o hg => (hH.obj i o hg).mono (Ext.refl _) (fun p hp => B.block _ (hH.dom _ _ hp).2) (fun _ _ _ _ h => h), fun i p hp => ⟨(hH.dom i p hp).1, Nat.lt_of_lt_of_le (hH.dom i p hp).2 B.size⟩, hH.sep, hH.stamp, hH.pos⟩,
    ⟨Nat.le_refl _, fun _ _ => rfl, fun i p h e => absurd (hH.dom i p e).1 (by omega), fun _ o h _ => ⟨o, h⟩, B.size, B.os, B.tape, B.output, fun b hb _ => B.block b hb, fun i o _ h hc _ => ⟨i, o, h, hc⟩⟩⟩

theorem hookList_ok {g : FuncId} {f : List AV → Option (List Int × Option Nat)} (h : ∀ args xs c, f args = some (xs, c) → ∃ vs, toVs args = some vs ∧ GivesL P g vs xs c) :
    ∀ (R : Type) (bad : R) (rk : RKK R), RKOk P bad rk → ∀ args st kret kpan x, hookList f R bad rk args st kret kpan = x → x ≠ bad → SoundK P g args st kret kpan x := by
  intro R bad rk _ args st kret kpan x e hx
  unfold hookList at e
  obtain ⟨⟨xs, c⟩, h1, h2⟩ := optK_inv e hx
  obtain ⟨ao, h3, h4⟩ := optK_inv (k := fun ao => kret (.sl st.nx 0 xs.length 1 c) ⟨st.h.put st.nx ao, Nat.succ st.nx⟩) h2 hx
  obtain ⟨vs, h5, h6⟩ := h args xs c h1
  refine ⟨.ret _, _, h4, fun ρ ys w hl hH => ?_⟩
  have := RelL.toVs _ _ _ hl h5
  subst this
  refine (h6 w).mono ?_
  rintro e w' ⟨b, o, cp, rfl, g1, g2, g3, g4, g5, B⟩
  have hcls := rowOf_cls h3
  unfold rowOf at h3
  cases hone : allOne (xs.map fun x => AV.sc (.int .i64 x)) with
  | false => rw [hone] at h3; cases h3
  | true =>
  rw [hone] at h3
  simp only [cond_true, Option.some.injEq] at h3
  have hnone := hH.none_nx (Nat.le_refl st.nx)
  have hx' : Ext ρ (upd ρ st.nx (b, (o : Int), cp)) := ext_upd _ hnone
  refine ⟨upd ρ st.nx (b, (o : Int), cp), ⟨_, rfl, relV_sl.2 ⟨⟨b, o, none⟩, cp, fun _ => ⟨⟨b, o, cp, upd_same _ _ _, rfl, rfl, by simp⟩, ⟨b, o, cp, upd_same _ _ _, by omega⟩⟩, g1, g2, rfl⟩⟩, ?_, ?_⟩
  · refine hH.new hnone (Nat.lt_succ_self _) (Nat.le_succ _) B g3 g4 ?_ ?_
    · subst h3
      refine ⟨b, o, cp, upd_same _ _ _, by simpa using g1, fun k _ hk => ?_⟩
      obtain ⟨q1, x, q2, q3⟩ := g5 k hk
      refine ⟨o + k, by omega, q1, x, q2, fun v s hh hc _ => ?_⟩
      rw [get_lay] at hc
      rw [if_pos ⟨Nat.zero_le _, by omega⟩] at hc
      simp only [Nat.sub_zero, Option.map_eq_some_iff] at hc
      obtain ⟨u, hu, huv⟩ := hc
      cases huv
      rw [List.getElem?_map, Option.map_eq_some_iff] at hu
      obtain ⟨z, hz, rfl⟩ := hu
      rw [q3 z hz]
      exact RelV.sc _
    · intro c' lo hi cls t hao
      subst h3
      simp only [AO.cells.injEq] at hao
      obtain ⟨rfl, rfl, rfl, rfl, rfl⟩ := hao
      refine ⟨.inl rfl, fun k v s hc => ?_, fun k s hc => by simp [T.get_leaf] at hc⟩
      rw [get_lay] at hc
      split at hc
      · simp only [Option.map_eq_some_iff] at hc
        obtain ⟨u, _, huv⟩ := hc; cases huv; exact Nat.succ_pos _
      · simp [T.get_leaf] at hc
  · exact (Fr.refl _ _ _ hH).fresh (Nat.le_refl _) (Nat.le_succ _) ao hcls B g3

theorem hksOf_ok : ∀ {l : List Entry}, (∀ en ∈ l, ∀ (R : Type) (bad : R) (rk : RKK R), RKOk P bad rk → ∀ args st kret kpan x, en.hook R bad rk args st kret kpan = x → x ≠ bad → SoundK P en.g args st kret kpan x) → HksOk P (hksOf l)
  | [], _ => fun g args h e => by cases e
  | ⟨g', t, h'⟩ :: l, hl => fun g args h e => by
    have e' : @Bool.rec (fun _ => Option Hook) (hksOf l g args) (@Bool.rec (fun _ => Option Hook) (hksOf l g args) (some h') (t args)) (Nat.beq g g') = some h := e
    have rest : hksOf l g args = some h → ∀ (R : Type) (bad : R) (rk : RKK R), RKOk P bad rk → ∀ st kret kpan x, h R bad rk args st kret kpan = x → x ≠ bad → SoundK P g args st kret kpan x :=
      fun e2 => hksOf_ok (fun en m => hl en (List.mem_cons_of_mem _ m)) g args h e2
    cases hb : Nat.beq g g' with
    | true =>
      rw [hb] at e'
      cases ht : t args with
      | true =>
        rw [ht] at e'
        have e2 : some h' = some h := e'
        cases e2
        have := Nat.eq_of_beq_eq_true hb
        subst this
        exact fun R bad rk hrk => hl ⟨g, t, h'⟩ (List.mem_cons_self ..) R bad rk hrk args
      | false => rw [ht] at e'; exact rest e'
    | false => rw [hb] at e'; exact rest e'
end
end Go.Proofs.Ytfkfejonlfcgoaa.Ev
