/- The evaluator in passing style is sound: operations. -/
import Derived.Test.YtfkfejonlfcgoaaEvPan
namespace Go.Proofs.Ytfkfejonlfcgoaa.Ev
open Go Go.RowKit
section
variable {R : Type} {P : Program} {bad x : R}

def RelOut (ρ : Rho) : Out → Ending → Prop
  | .ret v, e => ∃ y, e = .returned y ∧ RelV ρ v y
  | .pan v, e => ∃ y, e = .panicked [{ v := y, recovered := false }] ∧ RelV ρ v y
def CallsOut (P : Program) (g : FuncId) (args : List AV) (st : St) (out : Out) (st' : St) : Prop :=
  ∀ ρ xs w, RelL ρ args xs → RelH ρ st w → Calls P g xs.toArray w fun e w' => ∃ ρ', RelOut ρ' out e ∧ RelH ρ' st' w' ∧ Fr ρ st w ρ' st' w'
def Out.to (kret kpan : KP R) (st : St) : Out → R
  | .ret v => kret v st
  | .pan v => kpan v st
/-- What is known of the callees. -/
def RKOk (P : Program) (bad : R) (rk : RKK R) : Prop :=
  ∀ g args st kret kpan x, rk g args st kret kpan = x → x ≠ bad → ∃ out st', Out.to kret kpan st' out = x ∧ CallsOut P g args st out st'

theorem optK_inv {α : Type} {k : α → R} {o : Option α} (h : optK bad k o = x) (hx : x ≠ bad) : ∃ a, o = some a ∧ k a = x := by
  cases o with
  | none => exact absurd h.symm hx
  | some a => exact ⟨a, rfl, h⟩
theorem ifB_inv {a : R} {c : Bool} (h : ifB a bad c = x) (hx : x ≠ bad) : c = true ∧ a = x := by
  cases c with
  | false => exact absurd h.symm hx
  | true => exact ⟨rfl, h⟩
theorem locK_eq (bad : R) (k : AV → R) (t : Nat) : ∀ l : Loc, l.getK bad k t = optK bad k (l.get t)
  | .nil => rfl
  | .cons t' v l => by
    show @Bool.rec (fun _ => R) (l.getK bad k t) (k v) (Nat.beq t' t) = optK bad k (bif Nat.beq t' t then some v else l.get t)
    cases Nat.beq t' t with
    | true => rfl
    | false => exact locK_eq bad k t l
/-- What an operand, looked up, gives is what it is. -/
def CxOk (cx : Operand → XO) (ev : Loc → T AV → Operand → Option AV) : Prop :=
  ∀ (R : Type) (bad : R) (loc : Loc) (tm : T AV) (k : AV → R) (o : Operand) (x : R), getE loc tm bad k (cx o) = x → x ≠ bad → ∃ v, ev loc tm o = some v ∧ k v = x
theorem cxE_ok (keep : Nat) : CxOk (compX keep) (evE keep) := by
  intro R bad loc tm k o x h hx
  cases o with
  | tmp t =>
    unfold compX at h
    simp only at h
    show ∃ v, slotE keep loc tm t = some v ∧ k v = x
    unfold slotE
    cases hb : keep.testBit t with
    | true =>
      rw [hb] at h
      have h' : tm.getK bad k t = x := h
      rw [T.getK_eq] at h'
      exact optK_inv h' hx
    | false =>
      rw [hb] at h
      have h' : loc.getK bad k t = x := h
      rw [locK_eq] at h'
      exact optK_inv h' hx
  | const v => exact ⟨_, rfl, h⟩
  | global g => exact absurd h.symm hx
  | func f => exact ⟨_, rfl, h⟩
theorem cxD_ok (keep : Nat) (wr anc : T Nat) (i : Nat) : CxOk (cxD keep wr anc i) (evD keep wr anc i) := by
  intro R bad loc tm k o x h hx
  cases o with
  | tmp t =>
    unfold cxD at h
    simp only at h
    show ∃ v, (bif safeS wr anc i t then slotE keep loc tm t else none) = some v ∧ k v = x
    cases hb : safeS wr anc i t with
    | true =>
      rw [hb] at h
      exact cxE_ok keep R bad loc tm k (.tmp t) x h hx
    | false => rw [hb] at h; exact absurd h.symm hx
  | const v => exact ⟨_, rfl, h⟩
  | global g => exact absurd h.symm hx
  | func f => exact ⟨_, rfl, h⟩

/-- Behind a result: the slots, the tree. -/
def putL (d : DO) (v : AV) (loc : Loc) : Loc := match d with | .L t => .cons t v loc | _ => loc
noncomputable def putT (d : DO) (v : AV) (tm : T AV) : T AV := match d with | .T t => tm.put t v | _ => tm
theorem finE_eq (d : DO) (next : Nxt R) (loc : Loc) (tm : T AV) (st : St) (kn : KN R) (kp : KP R) (v : AV) : finE d next loc tm st kn kp v = next (putL d v loc) (putT d v tm) st kn kp := by
  cases d <;> rfl
theorem slotE_put (keep : Nat) (loc : Loc) (tm : T AV) (dst : Option Tmp) (v : AV) (t : Nat) : slotE keep (putL (compD keep dst) v loc) (putT (compD keep dst) v tm) t = if dst = some t then some v else slotE keep loc tm t := by
  cases dst with
  | none => rfl
  | some d =>
    unfold compD slotE
    simp only
    by_cases h : d = t
    · subst h
      rw [if_pos rfl]
      cases hb : keep.testBit d with
      | true => exact T.get_put_same tm d v
      | false => simp [putL, Loc.get]
    · rw [if_neg (fun e => h (Option.some.inj e))]
      cases hb : keep.testBit d with
      | true =>
        cases hc : keep.testBit t with
        | true => exact T.get_put_ne tm d v (fun e => h e.symm)
        | false => rfl
      | false =>
        cases hc : keep.testBit t with
        | true => rfl
        | false =>
          simp only [cond_false, putL, Loc.get]
          have : Nat.beq d t = false := by cases hq : Nat.beq d t with
            | false => rfl
            | true => exact absurd (Nat.eq_of_beq_eq_true hq) h
          rw [this]; rfl

theorem evBin_nat {op : BinOp} {t : TypeId} {x y : Operand} {m n : Nat} {r : Value} (h : binI op .i64 (.ofNat m) (.ofNat n) = some r) (hf : forced r = true) :
    evBin P op t x y (.sc (.int .i64 (.ofNat m))) (.sc (.int .i64 (.ofNat n))) = some (.sc r) := by
  unfold evBin evBin0
  simp only [AV.toV, binI_eq h, hf, cond_true]
theorem forced_nat (k : IntKind) (m : Nat) : forced (.int k (.ofNat m)) = true := by
  show m.beq m = true
  exact Nat.beq_refl m
theorem wrapF_nat {m : Nat} (h : m ≤ 9223372036854775807) : wrapF .i64 (.ofNat m) = .ofNat m := by
  rw [wrapF_eq]
  exact IntWalk.i64_in _ (by simp; omega)
theorem bv_nat {m : Nat} (h : m ≤ 9223372036854775807) : (BitVec.ofInt 64 (m : Int)).toNat = m := by
  rw [BitVec.toNat_ofInt]; omega
theorem evBin_more {op : BinOp} {t : TypeId} {x y : Operand} {m n : Nat} {r : Nat} (h : binOp op t (.int .i64 (.ofNat m)) (.int .i64 (.ofNat n)) = Sem.pure (.int .i64 (.ofNat r))) :
    evBin P op t x y (.sc (.int .i64 (.ofNat m))) (.sc (.int .i64 (.ofNat n))) = some (.sc (.int .i64 (.ofNat r))) := by
  unfold evBin evBin0
  simp only [AV.toV]
  rw [semP_bind _ _ () (eqGuard_int op t x y .i64 _ _), h, semP_pure]
  simp only [forced_nat, cond_true]
theorem bin_rem {t : TypeId} {m n : Nat} (h1 : 1 ≤ n) : binOp .rem t (.int .i64 (.ofNat m)) (.int .i64 (.ofNat n)) = Sem.pure (.int .i64 (.ofNat (Nat.mod m n))) := by
  have e : ((m : Int).tmod (n : Int)) = ((m % n : Nat) : Int) := by rw [Int.tmod_eq_emod_of_nonneg (by omega)]; simp
  have h0 : ¬ (n : Int) = 0 := by omega
  rw [binOp_rem]
  show Op.intDiv .rem .i64 (m : Int) (n : Int) = pure (.int .i64 ((m % n : Nat) : Int))
  unfold Op.intDiv
  rw [if_neg h0]
  show (pure (Value.int .i64 ((m : Int).tmod (n : Int))) : Sem Value) = _
  rw [e]
theorem bin_quo {t : TypeId} {m n : Nat} (h1 : 1 ≤ n) (h2 : m ≤ 9223372036854775807) : binOp .quo t (.int .i64 (.ofNat m)) (.int .i64 (.ofNat n)) = Sem.pure (.int .i64 (.ofNat (Nat.div m n))) := by
  have e : ((m : Int).tdiv (n : Int)) = ((m / n : Nat) : Int) := by simp
  have h3 : m / n ≤ m := Nat.div_le_self _ _
  have e2 : IntKind.i64.wrap ((m / n : Nat) : Int) = ((m / n : Nat) : Int) := by
    generalize m / n = z at *
    exact IntWalk.i64_in _ (by omega)
  have h0 : ¬ (n : Int) = 0 := by omega
  rw [binOp_quo]
  show Op.intDiv .quo .i64 (m : Int) (n : Int) = pure (.int .i64 ((m / n : Nat) : Int))
  unfold Op.intDiv
  rw [if_neg h0]
  show (pure (Value.int .i64 (IntKind.i64.wrap ((m : Int).tdiv (n : Int)))) : Sem Value) = _
  rw [e, e2]
theorem bin_and {t : TypeId} {m n : Nat} (h1 : n ≤ 9223372036854775807) (h2 : m ≤ 9223372036854775807) : binOp .and t (.int .i64 (.ofNat m)) (.int .i64 (.ofNat n)) = Sem.pure (.int .i64 (.ofNat (Nat.land m n))) := by
  have h3 : m &&& n ≤ m := Nat.and_le_left
  have e2 : IntKind.i64.wrap ((m &&& n : Nat) : Int) = ((m &&& n : Nat) : Int) := IntWalk.i64_in _ (by omega)
  rw [binOp_and, intBits_and]
  have e : bits .and .i64 (m : Int) (n : Int) = IntKind.i64.wrap ((BitVec.ofInt 64 (m : Int) &&& BitVec.ofInt 64 (n : Int)).toNat : Int) := rfl
  show (pure (Value.int .i64 (bits .and .i64 (m : Int) (n : Int))) : Sem Value) = pure (.int .i64 ((m &&& n : Nat) : Int))
  rw [e, BitVec.toNat_and, bv_nat h1, bv_nat h2, e2]
theorem bin_or {t : TypeId} {m n : Nat} (h1 : n ≤ 9223372036854775807) (h2 : m ≤ 9223372036854775807) : binOp .or t (.int .i64 (.ofNat m)) (.int .i64 (.ofNat n)) = Sem.pure (.int .i64 (.ofNat (Nat.lor m n))) := by
  have h3 : m ||| n < 2 ^ 63 := Nat.or_lt_two_pow (by omega) (by omega)
  have e2 : IntKind.i64.wrap ((m ||| n : Nat) : Int) = ((m ||| n : Nat) : Int) := IntWalk.i64_in _ (by omega)
  rw [binOp_or, intBits_or]
  have e : bits .or .i64 (m : Int) (n : Int) = IntKind.i64.wrap ((BitVec.ofInt 64 (m : Int) ||| BitVec.ofInt 64 (n : Int)).toNat : Int) := rfl
  show (pure (Value.int .i64 (bits .or .i64 (m : Int) (n : Int))) : Sem Value) = pure (.int .i64 ((m ||| n : Nat) : Int))
  rw [e, BitVec.toNat_or, bv_nat h1, bv_nat h2, e2]
theorem bin_shl {t : TypeId} {m n : Nat} (h1 : n ≤ 62) (h2 : Nat.mul m (Nat.pow 2 n) ≤ 9223372036854775807) : binOp .shl t (.int .i64 (.ofNat m)) (.int .i64 (.ofNat n)) = Sem.pure (.int .i64 (.ofNat (Nat.mul m (Nat.pow 2 n)))) := by
  have e1 : (m : Int) * 2 ^ ((n : Int).toNat) = ((m * 2 ^ n : Nat) : Int) := by simp
  have h2' : m * 2 ^ n ≤ 9223372036854775807 := h2
  rw [binOp_shl]
  show Op.shift .shl .i64 (m : Int) .i64 (n : Int) = pure (.int .i64 ((m * 2 ^ n : Nat) : Int))
  rw [shift_shl .i64 .i64 (m : Int) (n : Int) (by omega) (by show (n : Int) ≤ 64; omega), e1]
  generalize m * 2 ^ n = z at *
  rw [IntWalk.i64_in _ (by omega)]
theorem bin_shr {t : TypeId} {m n : Nat} (h1 : n ≤ 62) : binOp .shr t (.int .i64 (.ofNat m)) (.int .i64 (.ofNat n)) = Sem.pure (.int .i64 (.ofNat (Nat.div m (Nat.pow 2 n)))) := by
  have e1 : (m : Int) / 2 ^ ((n : Int).toNat) = ((m / 2 ^ n : Nat) : Int) := by simp
  rw [binOp_shr]
  show Op.shift .shr .i64 (m : Int) .i64 (n : Int) = pure (.int .i64 ((m / 2 ^ n : Nat) : Int))
  rw [shift_shr .i64 .i64 (m : Int) (n : Int) (by omega) (by show (n : Int) ≤ 64; omega), e1]
theorem binK_inv {op : BinOp} {t : TypeId} {a b : AV} {xo yo : Operand} {k : AV → R} (h : binK P bad op t xo yo k a b = x) (hx : x ≠ bad) : ∃ v, evBin P op t xo yo a b = some v ∧ k v = x := by
  unfold binK at h
  split at h
  · rename_i m n
    have other : ∀ {z : R}, optK bad k (evBin P op t xo yo (.sc (.int .i64 (.ofNat m))) (.sc (.int .i64 (.ofNat n)))) = z → z ≠ bad → ∃ v, evBin P op t xo yo (.sc (.int .i64 (.ofNat m))) (.sc (.int .i64 (.ofNat n))) = some v ∧ k v = z := fun h hx => optK_inv h hx
    unfold natK at h
    split at h
    · cases hb : Nat.ble (Nat.add m n) 9223372036854775807 with
      | false => rw [hb] at h; exact other h hx
      | true =>
        rw [hb] at h
        refine ⟨_, evBin_nat (r := .int .i64 (.ofNat (Nat.add m n))) ?_ (forced_nat _ _), h⟩
        simp only [binI, addF, Option.some.injEq, Value.int.injEq, true_and]
        exact wrapF_nat (Nat.le_of_ble_eq_true hb)
    · cases hb : Nat.ble n m with
      | false => rw [hb] at h; exact other h hx
      | true =>
        rw [hb] at h
        cases hc : Nat.ble m 9223372036854775807 with
        | false => rw [hc] at h; exact other h hx
        | true =>
          rw [hc] at h
          refine ⟨_, evBin_nat (r := .int .i64 (.ofNat (Nat.sub m n))) ?_ (forced_nat _ _), h⟩
          simp only [binI, subF, hb, cond_true, Option.some.injEq, Value.int.injEq, true_and]
          exact wrapF_nat (Nat.le_trans (Nat.sub_le m n) (Nat.le_of_ble_eq_true hc))
    · cases hb : Nat.ble (Nat.mul m n) 9223372036854775807 with
      | false => rw [hb] at h; exact other h hx
      | true =>
        rw [hb] at h
        refine ⟨_, evBin_nat (r := .int .i64 (.ofNat (Nat.mul m n))) ?_ (forced_nat _ _), h⟩
        simp only [binI, mulF, Option.some.injEq, Value.int.injEq, true_and]
        exact wrapF_nat (Nat.le_of_ble_eq_true hb)
    · exact ⟨_, evBin_nat (r := .bool (Nat.beq m n)) rfl (by cases Nat.beq m n <;> rfl), h⟩
    · refine ⟨_, evBin_nat (r := .bool (!Nat.beq m n)) rfl (by cases Nat.beq m n <;> rfl), ?_⟩
      rw [← h]
      cases Nat.beq m n <;> rfl
    · exact ⟨_, evBin_nat (r := .bool (Nat.ble (Nat.succ m) n)) rfl (by cases Nat.ble (Nat.succ m) n <;> rfl), h⟩
    · exact ⟨_, evBin_nat (r := .bool (Nat.ble m n)) rfl (by cases Nat.ble m n <;> rfl), h⟩
    · exact ⟨_, evBin_nat (r := .bool (Nat.ble (Nat.succ n) m)) rfl (by cases Nat.ble (Nat.succ n) m <;> rfl), h⟩
    · exact ⟨_, evBin_nat (r := .bool (Nat.ble n m)) rfl (by cases Nat.ble n m <;> rfl), h⟩
    · cases hb : Nat.ble 1 n with
      | false => rw [hb] at h; exact other h hx
      | true =>
        rw [hb] at h
        cases hc : Nat.ble m 9223372036854775807 with
        | false => rw [hc] at h; exact other h hx
        | true =>
          rw [hc] at h
          exact ⟨_, evBin_more (bin_rem (Nat.le_of_ble_eq_true hb)), h⟩
    · cases hb : Nat.ble 1 n with
      | false => rw [hb] at h; exact other h hx
      | true =>
        rw [hb] at h
        cases hc : Nat.ble m 9223372036854775807 with
        | false => rw [hc] at h; exact other h hx
        | true =>
          rw [hc] at h
          exact ⟨_, evBin_more (bin_quo (Nat.le_of_ble_eq_true hb) (Nat.le_of_ble_eq_true hc)), h⟩
    · cases hb : Nat.ble n 9223372036854775807 with
      | false => rw [hb] at h; exact other h hx
      | true =>
        rw [hb] at h
        cases hc : Nat.ble m 9223372036854775807 with
        | false => rw [hc] at h; exact other h hx
        | true =>
          rw [hc] at h
          exact ⟨_, evBin_more (bin_and (Nat.le_of_ble_eq_true hb) (Nat.le_of_ble_eq_true hc)), h⟩
    · cases hb : Nat.ble n 9223372036854775807 with
      | false => rw [hb] at h; exact other h hx
      | true =>
        rw [hb] at h
        cases hc : Nat.ble m 9223372036854775807 with
        | false => rw [hc] at h; exact other h hx
        | true =>
          rw [hc] at h
          exact ⟨_, evBin_more (bin_or (Nat.le_of_ble_eq_true hb) (Nat.le_of_ble_eq_true hc)), h⟩
    · cases hb : Nat.ble n 62 with
      | false => rw [hb] at h; exact other h hx
      | true =>
        rw [hb] at h
        cases hc : Nat.ble (Nat.mul m (Nat.pow 2 n)) 9223372036854775807 with
        | false => rw [hc] at h; exact other h hx
        | true =>
          rw [hc] at h
          exact ⟨_, evBin_more (bin_shl (Nat.le_of_ble_eq_true hb) (Nat.le_of_ble_eq_true hc)), h⟩
    · cases hb : Nat.ble n 62 with
      | false => rw [hb] at h; exact other h hx
      | true =>
        rw [hb] at h
        cases hc : Nat.ble m 9223372036854775807 with
        | false => rw [hc] at h; exact other h hx
        | true =>
          rw [hc] at h
          exact ⟨_, evBin_more (bin_shr (Nat.le_of_ble_eq_true hb)), h⟩
    · exact other h hx
  · exact optK_inv h hx

theorem ptrK_inv {k : Nat → Nat → R} {v : AV} (h : ptrK bad k v = x) (hx : x ≠ bad) : ∃ i j, v = .ptr i j ∧ k i j = x := by
  unfold ptrK at h
  split at h
  · exact ⟨_, _, rfl, h⟩
  · exact absurd h.symm hx
def isIfc : AV → Bool
  | .ifc _ _ => true
  | .sc (.iface _ _) => true
  | _ => false
theorem ifcK_inv {k : R} {v : AV} (h : ifcK bad k v = x) (hx : x ≠ bad) : isIfc v = true ∧ k = x := by
  unfold ifcK at h
  split at h
  · exact ⟨rfl, h⟩
  · exact ⟨rfl, h⟩
  · exact absurd h.symm hx
theorem enterG_inv {rk : RKK R} {st : St} {kr kp : KP R} {p : FuncId × List AV} (h : enterG P bad rk st kr kp p = x) (hx : x ≠ bad) : callable P p.1 = true ∧ rk p.1 p.2 st kr kp = x := by
  obtain ⟨g, as⟩ := p
  exact ifB_inv h hx

theorem argsK_inv {cx : Operand → XO} {ev : Loc → T AV → Operand → Option AV} (hc : CxOk cx ev) {loc : Loc} {tm : T AV} : ∀ {l : List Operand} {k : List AV → R}, argsK bad cx loc tm k l = x → x ≠ bad → ∃ vs, evXs (ev loc tm) l = some vs ∧ k vs = x
  | [], k, h, _ => ⟨[], rfl, h⟩
  | o :: l, k, h, hx => by
    have h' : getE loc tm bad (fun v => argsK bad cx loc tm (fun vs => k (v :: vs)) l) (cx o) = x := h
    obtain ⟨v, h1, h2⟩ := hc R bad loc tm _ o x h' hx
    obtain ⟨vs, h3, h4⟩ := argsK_inv hc h2 hx
    exact ⟨v :: vs, by simp only [evXs, h1, h3], h4⟩

/-- What an operation does that calls. -/
def Enters (P : Program) (ev : Operand → Option AV) (o : Oper) (g : FuncId) (as : List AV) : Prop :=
  ∀ ρ (a : Act) (w : World), EvOk ρ ev a.eval → ∃ ys : List Value, RelL ρ as ys ∧ (execOp a.eval o).run P w = .ok (.enter g ys.toArray) w

section
variable {cx : Operand → XO} {ev : Loc → T AV → Operand → Option AV} {keep : Nat} {o : Oper} {rk : RKK R} {ko : RKO} {next : Nxt R} {loc : Loc} {tm : T AV} {st : St} {kn : KN R} {kp : KP R}
theorem genK_inv (h : (genK P bad ev keep o).run rk ko next loc tm st kn kp = x) (hx : x ≠ bad) :
    ∃ v st', evOp P ko (ev loc tm) st o = some (v, st') ∧ next (putL (compD keep o.dst) v loc) (putT (compD keep o.dst) v tm) st' kn kp = x := by
  unfold genK at h
  cases hk : kindOf o.op with
  | q =>
    rw [hk] at h
    obtain ⟨v, h1, h2⟩ := optK_inv h hx
    rw [finE_eq] at h2
    exact ⟨v, st, by simp only [evOp, hk, h1], h2⟩
  | f =>
    rw [hk] at h
    obtain ⟨⟨v, ao⟩, h1, h2⟩ := optK_inv h hx
    have h2' : finE (compD keep o.dst) next loc tm ⟨st.h.put st.nx ao, Nat.succ st.nx⟩ kn kp v = x := h2
    rw [finE_eq] at h2'
    exact ⟨v, _, by simp only [evOp, hk, h1], h2'⟩
  | x =>
    rw [hk] at h
    obtain ⟨⟨v, st'⟩, h1, h2⟩ := optK_inv h hx
    have h2' : finE (compD keep o.dst) next loc tm st' kn kp v = x := h2
    rw [finE_eq] at h2'
    exact ⟨v, st', by simp only [evOp, hk, h1], h2'⟩

theorem compK_inv (hc : CxOk cx ev) (h : (compK P bad cx ev keep o).run rk ko next loc tm st kn kp = x) (hx : x ≠ bad) :
    (∃ v st', evOp P ko (ev loc tm) st o = some (v, st') ∧ next (putL (compD keep o.dst) v loc) (putT (compD keep o.dst) v tm) st' kn kp = x) ∨
    (∃ xo v, o.op = .panic xo ∧ ev loc tm xo = some v ∧ isIfc v = true ∧ kp v st = x) ∨
    (∃ g as, kindOf o.op = .x ∧ Enters P (ev loc tm) o g as ∧ rk g as st (fun v st' => next (putL (compD keep o.dst) v loc) (putT (compD keep o.dst) v tm) st' kn kp) kp = x) := by
  obtain ⟨dst, op, type, pos, after, guard⟩ := o
  cases op with
  | move xo =>
    obtain ⟨v, h1, h2⟩ := hc R bad _ _ _ _ _ h hx
    rw [finE_eq] at h2
    exact .inl ⟨v, st, by simp only [evOp, kindOf, evQ, h1], h2⟩
  | assign xo =>
    obtain ⟨v, h1, h2⟩ := hc R bad _ _ _ _ _ h hx
    rw [finE_eq] at h2
    exact .inl ⟨v, st, by simp only [evOp, kindOf, evQ, h1], h2⟩
  | load t a =>
    unfold compK at h
    simp only at h
    split at h
    · rename_i hagg
      obtain ⟨v, h1, h2⟩ := hc R bad _ _ _ _ _ h hx
      obtain ⟨i, j, rfl, h3⟩ := ptrK_inv h2 hx
      obtain ⟨u, h4, h5⟩ := optK_inv h3 hx
      rw [rdCellF_eq] at h4
      rw [finE_eq] at h5
      refine .inl ⟨u, st, ?_, h5⟩
      have : loadA P st.h t i j = some u := by unfold loadA; rw [hagg]; exact h4
      simp only [evOp, kindOf, evQ, h1, this]
    · exact .inl (genK_inv h hx)
  | binOp op t a b t' =>
    obtain ⟨u, h1, h2⟩ := hc R bad _ _ _ _ _ h hx
    obtain ⟨v, h3, h4⟩ := hc R bad _ _ _ _ _ h2 hx
    obtain ⟨r, h5, h6⟩ := binK_inv h4 hx
    rw [finE_eq] at h6
    exact .inl ⟨r, st, by simp only [evOp, kindOf, evQ, h1, h3, Option.bind_some, h5], h6⟩
  | indexAddr t a b =>
    obtain ⟨u, h1, h2⟩ := hc R bad _ _ _ _ _ h hx
    obtain ⟨v, h3, h4⟩ := hc R bad _ _ _ _ _ h2 hx
    obtain ⟨r, h5, h6⟩ := optK_inv h4 hx
    rw [finE_eq] at h6
    exact .inl ⟨r, st, by simp only [evOp, kindOf, evQ, h1, h3, Option.bind_some, h5], h6⟩
  | extract a i =>
    obtain ⟨u, h1, h2⟩ := hc R bad _ _ _ _ _ h hx
    obtain ⟨r, h5, h6⟩ := optK_inv h2 hx
    rw [finE_eq] at h6
    exact .inl ⟨r, st, by simp only [evOp, kindOf, evQ, h1, Option.bind_some, h5], h6⟩
  | unOp op t a =>
    obtain ⟨u, h1, h2⟩ := hc R bad _ _ _ _ _ h hx
    obtain ⟨r, h5, h6⟩ := optK_inv h2 hx
    rw [finE_eq] at h6
    exact .inl ⟨r, st, by simp only [evOp, kindOf, evQ, h1, Option.bind_some, h5], h6⟩
  | convert s d a =>
    obtain ⟨u, h1, h2⟩ := hc R bad _ _ _ _ _ h hx
    obtain ⟨r, h5, h6⟩ := optK_inv h2 hx
    rw [finE_eq] at h6
    exact .inl ⟨r, st, by simp only [evOp, kindOf, evQ, h1, Option.bind_some, h5], h6⟩
  | fieldAddr s a f =>
    obtain ⟨u, h1, h2⟩ := hc R bad _ _ _ _ _ h hx
    obtain ⟨r, h5, h6⟩ := optK_inv h2 hx
    rw [finE_eq] at h6
    exact .inl ⟨r, st, by simp only [evOp, kindOf, evQ, h1, Option.bind_some, h5], h6⟩
  | makeInterface s a =>
    obtain ⟨u, h1, h2⟩ := hc R bad _ _ _ _ _ h hx
    obtain ⟨r, h5, h6⟩ := optK_inv h2 hx
    rw [finE_eq] at h6
    exact .inl ⟨r, st, by simp only [evOp, kindOf, evQ, h1, Option.bind_some, h5], h6⟩
  | store t a b =>
    obtain ⟨u, h1, h2⟩ := hc R bad _ _ _ _ _ h hx
    obtain ⟨v, h3, h4⟩ := hc R bad _ _ _ _ _ h2 hx
    obtain ⟨st', h5, h6⟩ := optK_inv h4 hx
    rw [finE_eq] at h6
    exact .inl ⟨_, st', by simp only [evOp, kindOf, evW, h1, h3, h5], h6⟩
  | panic xo =>
    obtain ⟨u, h1, h2⟩ := hc R bad _ _ _ _ _ h hx
    obtain ⟨h3, h4⟩ := ifcK_inv h2 hx
    exact .inr (.inl ⟨xo, u, rfl, h1, h3, h4⟩)
  | call c =>
    obtain ⟨callee, args, ats⟩ := c
    cases callee with
    | value f =>
      obtain ⟨l, h1, h2⟩ := argsK_inv hc (l := args.toList) h hx
      obtain ⟨fv, h3, h4⟩ := hc R bad _ _ _ _ _ h2 hx
      obtain ⟨p, h5, h6⟩ := optK_inv h4 hx
      obtain ⟨h7, h8⟩ := enterG_inv h6 hx
      simp only [finE_eq] at h8
      refine .inr (.inr ⟨p.1, p.2, rfl, fun ρ a w E => ?_, h8⟩)
      obtain ⟨ys, g1, g2⟩ := calleeA_sound (P := P) (w := w) (E f fv h3) (evXs_sound E h1) h5 h7
      refine ⟨ys, g1, ?_⟩
      unfold execOp
      simp only
      unfold resolve
      simp only
      rw [toArr args a.eval]
      exact g2
    | invoke r name =>
      obtain ⟨l, h1, h2⟩ := argsK_inv hc (l := args.toList) h hx
      obtain ⟨rv, h3, h4⟩ := hc R bad _ _ _ _ _ h2 hx
      obtain ⟨p, h5, h6⟩ := optK_inv h4 hx
      obtain ⟨h7, h8⟩ := enterG_inv h6 hx
      simp only [finE_eq] at h8
      refine .inr (.inr ⟨p.1, p.2, rfl, fun ρ a w E => ?_, h8⟩)
      obtain ⟨ys, g1, g2⟩ := invokeA_sound (P := P) (w := w) (E r rv h3) (evXs_sound E h1) h5 h7
      refine ⟨ys, g1, ?_⟩
      unfold execOp
      simp only
      unfold resolve
      simp only [pure_bind, invoke]
      rw [toArr args a.eval]
      have e1 : (#[a.eval r] ++ (args.toList.map a.eval).toArray)[0]? = some (a.eval r) := by simp
      have e2 : (#[a.eval r] ++ (args.toList.map a.eval).toArray).extract 1 (#[a.eval r] ++ (args.toList.map a.eval).toArray).size = (args.toList.map a.eval).toArray := by
        apply Array.toList_inj.1; simp [List.take_of_length_le]
      simp only [e1, e2]
      exact g2
    | builtin b =>
      cases b with
      | len =>
        unfold compK at h
        simp only at h
        split at h
        · rename_i t xo ht hl
          obtain ⟨u, h1, h2⟩ := hc R bad _ _ _ _ _ h hx
          obtain ⟨r, h5, h6⟩ := optK_inv h2 hx
          rw [finE_eq] at h6
          refine .inl ⟨r, st, ?_, h6⟩
          have : builtinQ P st.h .len ats type [u] = some r := by
            unfold builtinQ
            simp only [ht]
            exact h5
          simp only [evOp, kindOf, evQ, hl, evXs, h1, Option.bind_some, this]
        · exact .inl (genK_inv h hx)
      | append =>
        have app : ∀ {sT xT : TypeId} {zs : Bool} {so xo : Operand}, ats[0]? = some sT → ats[1]? = some xT → args.toList = [so, xo] → (evW P ko (ev loc tm) st { dst, op := .call { callee := .builtin .append, args, argTypes := ats }, type, pos, after, guard } = (match evXs (ev loc tm) args.toList with | some [s, x] => appendA P st sT zs s x | _ => none)) →
            (appK P bad keep dst sT zs (cx so) (cx xo)).run rk ko next loc tm st kn kp = x → ∃ v st', evOp P ko (ev loc tm) st { dst, op := .call { callee := .builtin .append, args, argTypes := ats }, type, pos, after, guard } = some (v, st') ∧ next (putL (compD keep dst) v loc) (putT (compD keep dst) v tm) st' kn kp = x := by
          intro sT xT zs so xo h1 h2 h3 h4 h
          obtain ⟨a, k1, k2⟩ := hc R bad _ _ _ _ _ h hx
          obtain ⟨b, k3, k4⟩ := hc R bad _ _ _ _ _ k2 hx
          obtain ⟨⟨v, st'⟩, k5, k6⟩ := optK_inv k4 hx
          have k6' : finE (compD keep dst) next loc tm st' kn kp v = x := k6
          rw [finE_eq] at k6'
          refine ⟨v, st', ?_, k6'⟩
          rw [appendF_eq] at k5
          have hx2 : evXs (ev loc tm) args.toList = some [a, b] := by rw [h3]; simp only [evXs, k1, k3]
          simp only [evOp, kindOf]
          rw [h4, hx2]
          exact k5
        unfold compK at h
        simp only at h
        split at h
        · rename_i sT xT so xo h1 h2 h3
          split at h
          · rename_i k hu
            refine .inl (app h1 h2 h3 ?_ h)
            simp only [evW, h3, h1, h2, hu]
            cases evXs (ev loc tm) [so, xo] with
            | none => rfl
            | some l => rcases l with _ | ⟨a, _ | ⟨b, _ | ⟨c, l⟩⟩⟩ <;> rfl
          · rename_i d hd hu
            refine .inl (app h1 h2 h3 ?_ h)
            simp only [evW, h3, h1, h2, hu]
            cases evXs (ev loc tm) [so, xo] with
            | none => rfl
            | some l => rcases l with _ | ⟨a, _ | ⟨b, _ | ⟨c, l⟩⟩⟩ <;> first | rfl | (cases d <;> first | rfl | exact absurd rfl (hd _))
          · exact .inl (genK_inv h hx)
        · exact .inl (genK_inv h hx)
      | _ => exact .inl (genK_inv h hx)
  | _ => exact .inl (genK_inv h hx)

/-- What one operation does, guard and all: it is passed over, it does its work, or it calls what returns. -/
def Step (P : Program) (ko : RKO) (ev : Operand → Option AV) (all : List Oper) (o : Oper) (st : St) (v : AV) (st' : St) : Prop :=
  (wantedA all (fun t => ev (.tmp t)) o = some false ∧ v = .sc undef ∧ st' = st) ∨
  (wantedA all (fun t => ev (.tmp t)) o = some true ∧ (evOp P ko ev st o = some (v, st') ∨ ∃ g as, kindOf o.op = .x ∧ Enters P ev o g as ∧ CallsOut P g as st (.ret v) st'))
/-- It panics. -/
def StepPan (P : Program) (ev : Operand → Option AV) (all : List Oper) (o : Oper) (st : St) (v : AV) (st' : St) : Prop :=
  wantedA all (fun t => ev (.tmp t)) o = some true ∧ ((∃ xo, o.op = .panic xo ∧ ev xo = some v ∧ isIfc v = true ∧ st' = st) ∨ ∃ g as, Enters P ev o g as ∧ CallsOut P g as st (.pan v) st')

theorem opC_inv (hc : CxOk cx ev) (hrk : RKOk P bad rk) {all : List Oper} (h : (opC P bad cx ev keep all o).run rk ko next loc tm st kn kp = x) (hx : x ≠ bad) :
    (∃ v st', Step P ko (ev loc tm) all o st v st' ∧ next (putL (compD keep o.dst) v loc) (putT (compD keep o.dst) v tm) st' kn kp = x) ∨
    (∃ v st', StepPan P (ev loc tm) all o st v st' ∧ kp v st' = x) := by
  have main : wantedA all (fun t => ev loc tm (.tmp t)) o = some true → (compK P bad cx ev keep o).run rk ko next loc tm st kn kp = x → (∃ v st', Step P ko (ev loc tm) all o st v st' ∧ next (putL (compD keep o.dst) v loc) (putT (compD keep o.dst) v tm) st' kn kp = x) ∨
    (∃ v st', StepPan P (ev loc tm) all o st v st' ∧ kp v st' = x) := by
    intro hw h
    rcases compK_inv hc h hx with ⟨v, st', h1, h2⟩ | ⟨xo, v, h1, h2, h3, h4⟩ | ⟨g, as, h0, h1, h2⟩
    · exact .inl ⟨v, st', .inr ⟨hw, .inl h1⟩, h2⟩
    · exact .inr ⟨v, st, ⟨hw, .inl ⟨xo, h1, h2, h3, rfl⟩⟩, h4⟩
    · obtain ⟨out, st', k1, k2⟩ := hrk _ _ _ _ _ _ h2 hx
      cases out with
      | ret v => exact .inl ⟨v, st', .inr ⟨hw, .inr ⟨g, as, h0, h1, k2⟩⟩, k1⟩
      | pan v => exact .inr ⟨v, st', ⟨hw, .inr ⟨g, as, h1, k2⟩⟩, k1⟩
  unfold opC at h
  cases hg : o.guard with
  | none =>
    rw [hg] at h
    exact main (by unfold wantedA; rw [hg]) h
  | some gd =>
    obtain ⟨j, want⟩ := gd
    rw [hg] at h
    have h' : getE loc tm bad (fun v =>
      match v with
      | .sc (.bool b) => ifB ((compK P bad cx ev keep o).run rk ko next loc tm st kn kp) (finE (compD keep o.dst) next loc tm st kn kp (.sc undef)) (b == want)
      | _ => finE (compD keep o.dst) next loc tm st kn kp (.sc undef)) (guardK cx all j) = x := h
    unfold guardK at h'
    cases hj : all[j]? with
    | none => rw [hj] at h'; exact absurd h'.symm hx
    | some og =>
      rw [hj] at h'
      simp only at h'
      cases hd : og.dst with
      | none => rw [hd] at h'; exact absurd h'.symm hx
      | some d =>
        rw [hd] at h'
        simp only at h'
        obtain ⟨v, h1, h2⟩ := hc R bad _ _ _ _ _ h' hx
        have skip : wantedA all (fun t => ev loc tm (.tmp t)) o = some false → finE (compD keep o.dst) next loc tm st kn kp (.sc undef) = x → (∃ v st', Step P ko (ev loc tm) all o st v st' ∧ next (putL (compD keep o.dst) v loc) (putT (compD keep o.dst) v tm) st' kn kp = x) ∨
            (∃ v st', StepPan P (ev loc tm) all o st v st' ∧ kp v st' = x) := by
          intro hw h
          rw [finE_eq] at h
          exact .inl ⟨_, st, .inl ⟨hw, rfl, rfl⟩, h⟩
        by_cases hv : ∃ b, v = .sc (.bool b)
        · obtain ⟨b, rfl⟩ := hv
          have hwd : wantedA all (fun t => ev loc tm (.tmp t)) o = some (b == want) := by
            unfold wantedA
            rw [hg]
            simp only [hj, hd, h1]
          have h2' : ifB ((compK P bad cx ev keep o).run rk ko next loc tm st kn kp) (finE (compD keep o.dst) next loc tm st kn kp (.sc undef)) (b == want) = x := h2
          cases hb : (b == want) with
          | true => rw [hb] at h2' hwd; exact main hwd h2'
          | false => rw [hb] at h2' hwd; exact skip hwd h2'
        · have hwd : wantedA all (fun t => ev loc tm (.tmp t)) o = some false := by
            unfold wantedA
            rw [hg]
            simp only [hj, hd, h1]
            split
            · rename_i b he
              exact absurd ⟨b, Option.some.inj he⟩ hv
            · rfl
            · rename_i he; cases he
          split at h2
          · rename_i b
            exact absurd ⟨b, rfl⟩ hv
          · exact skip hwd h2
end
end
end Go.Proofs.Ytfkfejonlfcgoaa.Ev
