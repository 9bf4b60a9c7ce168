import Derived.Test.YtfkfejonlfcgoaaEvMain
namespace Go.Proofs.Ytfkfejonlfcgoaa.Ev
open Go Go.RowKit
noncomputable section

/-! The evaluator anew, so that the kernel reckons it quickly: what an operation is is looked up once. -/

/-- Integers, without a detour. -/
def i63 : Nat := 9223372036854775808
def smallI : Int → Bool
  | .ofNat m => m.blt i63
  | .negSucc m => m.blt i63
def isI64 : IntKind → Bool
  | .i64 => true
  | _ => false
def wrapF (k : IntKind) (n : Int) : Int := bif isI64 k && smallI n then n else k.wrap n
def addF : Int → Int → Int
  | .ofNat a, .ofNat b => .ofNat (a + b)
  | a, b => a + b
def subF : Int → Int → Int
  | .ofNat a, .ofNat b => bif b.ble a then .ofNat (a - b) else .ofNat a - .ofNat b
  | a, b => a - b
def mulF : Int → Int → Int
  | .ofNat a, .ofNat b => .ofNat (a * b)
  | a, b => a * b
def ltF : Int → Int → Bool
  | .ofNat a, .ofNat b => a.blt b
  | a, b => decide (a < b)
def eqF : Int → Int → Bool
  | .ofNat a, .ofNat b => a.beq b
  | a, b => decide (a = b)
def leF : Int → Int → Bool
  | .ofNat a, .ofNat b => a.ble b
  | a, b => decide (a ≤ b)
def binI (op : BinOp) (k : IntKind) (a b : Int) : Option Value :=
  match op with
  | .add => some (.int k (wrapF k (addF a b)))
  | .sub => some (.int k (wrapF k (subF a b)))
  | .mul => some (.int k (wrapF k (mulF a b)))
  | .eql => some (.bool (eqF a b))
  | .neq => some (.bool (!eqF a b))
  | .lss => some (.bool (ltF a b))
  | .leq => some (.bool (leF a b))
  | .gtr => some (.bool (ltF b a))
  | .geq => some (.bool (leF b a))
  | _ => none

theorem i63_eq : i63 = 9223372036854775808 := rfl
theorem blt_i63 {m : Nat} (h : m.blt i63 = true) : (m : Int) < 9223372036854775808 := by
  rw [Nat.blt_eq] at h
  have := i63_eq
  omega
theorem wrap_small {n : Int} (h1 : -9223372036854775808 ≤ n) (h2 : n < 9223372036854775808) : n = IntKind.i64.wrap n := (IntWalk.i64_in n ⟨h1, by omega⟩).symm
theorem neg_small {m : Nat} (h : (m : Int) < 9223372036854775808) : -9223372036854775808 ≤ Int.negSucc m ∧ Int.negSucc m < 9223372036854775808 := by
  rw [Int.negSucc_eq]; omega
theorem pos_small {m : Nat} (h : (m : Int) < 9223372036854775808) : -9223372036854775808 ≤ Int.ofNat m ∧ Int.ofNat m < 9223372036854775808 := by
  rw [Int.ofNat_eq_natCast]; omega
theorem smallI_spec {n : Int} (h : smallI n = true) : -9223372036854775808 ≤ n ∧ n < 9223372036854775808 := by
  cases n with
  | ofNat m => exact pos_small (blt_i63 h)
  | negSucc m => exact neg_small (blt_i63 h)
theorem isI64_spec {k : IntKind} (h : isI64 k = true) : k = .i64 := by cases k <;> first | rfl | cases h
theorem wrapF_eq (k : IntKind) (n : Int) : wrapF k n = k.wrap n := by
  unfold wrapF
  cases h : (isI64 k && smallI n) with
  | false => exact cond_false _ _
  | true =>
    rw [cond_true]
    rw [Bool.and_eq_true] at h
    obtain ⟨h1, h2⟩ := h
    have := isI64_spec h1
    subst this
    exact wrap_small (smallI_spec h2).1 (smallI_spec h2).2
theorem addF_eq (a b : Int) : addF a b = a + b := by unfold addF; split <;> rfl
theorem subF_eq (a b : Int) : subF a b = a - b := by
  unfold subF; split
  · rename_i a b
    cases h : b.ble a with
    | false => rfl
    | true =>
      have := Nat.le_of_ble_eq_true h
      show ((a - b : Nat) : Int) = _
      simp only [Int.ofNat_eq_natCast]; omega
  · rfl
theorem mulF_eq (a b : Int) : mulF a b = a * b := by unfold mulF; split <;> rfl
theorem ltF_eq (a b : Int) : ltF a b = decide (a < b) := by
  unfold ltF; split
  · rename_i a b
    rw [Bool.eq_iff_iff]; simp [Nat.blt_eq]
  · rfl
theorem leF_eq (a b : Int) : leF a b = decide (a ≤ b) := by
  unfold leF; split
  · rename_i a b
    rw [Bool.eq_iff_iff]; simp
  · rfl
theorem eqF_eq (a b : Int) : eqF a b = (a == b) := by
  unfold eqF; split
  · rename_i a b
    rw [Bool.eq_iff_iff]; simp; omega
  · rfl

theorem semP_bind {α β : Type} {P : Program} (s : Sem α) (g : α → Sem β) (a : α) (h : s = pure a) : semP P (s >>= g) = semP P (g a) := by subst h; rfl
theorem semP_pure {α : Type} {P : Program} (a : α) : semP P (Sem.pure a) = some a := rfl
theorem eqGuard_int (op : BinOp) (t : TypeId) (x y : Operand) (k : IntKind) (a b : Int) : eqGuard op t x y (.int k a) (.int k b) = pure () := guard_pure x y rfl
theorem binI_eq {P : Program} {op : BinOp} {t : TypeId} {x y : Operand} {k : IntKind} {a b : Int} {r : Value} (h : binI op k a b = some r) :
    semP P (do eqGuard op t x y (.int k a) (.int k b); binOp op t (.int k a) (.int k b)) = some r := by
  rw [semP_bind _ _ () (eqGuard_int op t x y k a b)]
  cases op <;> simp only [binI, Option.some.injEq, reduceCtorEq] at h
  all_goals subst h
  all_goals simp [binOp, Op.intArith, Op.intCmp, semP_pure, wrapF_eq, addF_eq, subF_eq, mulF_eq, ltF_eq, leF_eq, eqF_eq, pure]
  all_goals rfl

def evBinF (P : Program) (op : BinOp) (t : TypeId) (x y : Operand) (a b : AV) : Option AV :=
  match a, b with
  | .sc (.int k a), .sc (.int j b) => bif decide (k = j) then
      match binI op k a b with
      | some r => bif forced r then some (.sc r) else none
      | none => evBin P op t x y (.sc (.int k a)) (.sc (.int j b))
    else evBin P op t x y (.sc (.int k a)) (.sc (.int j b))
  | a, b => evBin P op t x y a b
theorem evBinF_eq (P : Program) (op : BinOp) (t : TypeId) (x y : Operand) (a b : AV) : evBinF P op t x y a b = evBin P op t x y a b := by
  unfold evBinF
  split
  · rename_i k a j b
    cases hk : decide (k = j) with
    | false => rfl
    | true =>
      have : k = j := of_decide_eq_true hk
      subst this
      simp only [cond_true]
      split
      · rename_i r hr
        unfold evBin evBin0
        simp only [AV.toV, binI_eq hr]
      · rfl
  · rfl

/-! Operations, looked up. -/
inductive Cop where
  | q (f : (Operand → Option AV) → T AO → Option AV)
  | f (g : (Operand → Option AV) → Nat → Option (AV × AO))
  | x (g : (FuncId → List AV → St → Option (AV × St)) → (Operand → Option AV) → St → Option (AV × St))

def loadE (P : Program) (t : TypeId) (h : T AO) : Option AV → Option AV
  | some (.ptr i k) => loadA P h t i k
  | _ => none
def bind2 (a b : Option AV) (g : AV → AV → Option AV) : Option AV :=
  match a with
  | some u => match b with
    | some v => g u v
    | none => none
  | none => none
def storeE (P : Program) (t : TypeId) (st : St) (a v : Option AV) : Option (AV × St) :=
  match a, v with
  | some a, some v => match storeA P st t a v with
    | some st' => some (.sc undef, st')
    | none => none
  | _, _ => none
def callE (P : Program) (call : FuncId → List AV → St → Option (AV × St)) (st : St) (f : Option AV) (args : Option (List AV)) : Option (AV × St) :=
  match args with
  | none => none
  | some args => match f with
    | some f => match calleeA f args with
      | some (g, as) => bif callable P g then call g as st else none
      | none => none
    | none => none
def compOp (P : Program) (o : Oper) : Cop :=
  match o.op with
  | .move x | .assign x => .q fun ev _ => ev x
  | .pick c a b => .q fun ev _ => pickA ev c a b
  | .load t a => .q fun ev h => loadE P t h (ev a)
  | .binOp op t x y _ => .q fun ev _ => bind2 (ev x) (ev y) (evBinF P op t x y)
  | .unOp op _ x => .q fun ev _ => (ev x).bind (unOpA P op)
  | .fieldAddr s x f => .q fun ev _ => (ev x).bind fun v => fieldAddrA P s v f
  | .indexAddr t x ix => .q fun ev _ => bind2 (ev x) (ev ix) (indexAddrA P t)
  | .extract x i => .q fun ev _ => (ev x).bind fun v => extractA v i
  | .nilCheck x => .q fun ev _ => (ev x).bind nilCheckA
  | .store t a x => .x fun _ ev st => storeE P t st (ev a) (ev x)
  | .call c => match c.callee with
    | .value f => .x fun call ev st => callE P call st (ev f) (evXs ev c.args.toList)
    | .builtin .len => .q fun ev h => (evXs ev c.args.toList).bind (builtinQ P h .len c.argTypes o.type)
    | _ => match kindOf o.op with
      | .q => .q fun ev h => evQ P ev h o
      | .f => .f fun ev i => evF P ev i o
      | .x => .x fun call ev st => evW P call ev st o
  | _ => match kindOf o.op with
    | .q => .q fun ev h => evQ P ev h o
    | .f => .f fun ev i => evF P ev i o
    | .x => .x fun call ev st => evW P call ev st o
def evOpF (P : Program) (call : FuncId → List AV → St → Option (AV × St)) (ev : Operand → Option AV) (st : St) (o : Oper) : Option (AV × St) :=
  match compOp P o with
  | .q f => match f ev st.h with
    | some v => some (v, st)
    | none => none
  | .f g => match g ev st.nx with
    | some (v, ao) => some (v, ⟨st.h.put st.nx ao, st.nx + 1⟩)
    | none => none
  | .x g => g call ev st

theorem bind2_eq (a b : Option AV) (g : AV → AV → Option AV) : bind2 a b g = a.bind fun u => b.bind fun v => g u v := by
  cases a <;> cases b <;> rfl
theorem evOpF_eq (P : Program) (call : FuncId → List AV → St → Option (AV × St)) (ev : Operand → Option AV) (st : St) (o : Oper) : evOpF P call ev st o = evOp P call ev st o := by
  obtain ⟨dst, op, type, pos, after, guard⟩ := o
  cases op with
  | binOp op t x y t' =>
    show (match bind2 (ev x) (ev y) (evBinF P op t x y) with | some v => some (v, st) | none => none) = (match (ev x).bind fun a => (ev y).bind fun b => evBin P op t x y a b with | some v => some (v, st) | none => none)
    rw [bind2_eq]
    have : (fun u => (ev y).bind fun v => evBinF P op t x y u v) = fun a => (ev y).bind fun b => evBin P op t x y a b := by
      funext u; congr 1; funext v; exact evBinF_eq P op t x y u v
    rw [this]
  | indexAddr t x ix =>
    show (match bind2 (ev x) (ev ix) (indexAddrA P t) with | some v => some (v, st) | none => none) = _
    rw [bind2_eq]; rfl
  | load t a =>
    show (match loadE P t st.h (ev a) with | some v => some (v, st) | none => none) = _
    unfold loadE
    rfl
  | store t a x =>
    show storeE P t st (ev a) (ev x) = _
    rfl
  | call c =>
    obtain ⟨callee, args, ats⟩ := c
    cases callee with
    | value f =>
      show callE P call st (ev f) (evXs ev args.toList) = _
      unfold callE
      cases h : evXs ev args.toList with
      | none => simp [evOp, kindOf, evW, h]
      | some l =>
        cases hf : ev f with
        | none => simp [evOp, kindOf, evW, h, hf]
        | some fv => simp only [evOp, kindOf, evW, h, hf]; rfl
    | invoke r name => rfl
    | builtin b => cases b <;> rfl
  | _ => rfl

/-! Regions, code, calls. -/
def kput (n : Nat) (tm : T AV) (dst : Option Tmp) (v : AV) (st : St) (k : T AV → St → Option (T AV × St)) : Option (T AV × St) :=
  match dst with
  | none => k tm st
  | some d => bif d.blt n then k (tm.put d v) st else none
def runOp (n : Nat) (call : FuncId → List AV → St → Option (AV × St)) (dst : Option Tmp) (tm : T AV) (st : St) (k : T AV → St → Option (T AV × St)) : Cop → Option (T AV × St)
  | .q f => match f (evX tm) st.h with
    | some v => kput n tm dst v st k
    | none => none
  | .f g => match g (evX tm) st.nx with
    | some (v, ao) => kput n tm dst v ⟨st.h.put st.nx ao, st.nx + 1⟩ k
    | none => none
  | .x g => match g call (evX tm) st with
    | some (v, st') => kput n tm dst v st' k
    | none => none
def stepS (P : Program) (call : FuncId → List AV → St → Option (AV × St)) (n : Nat) (all : List Oper) (o : Oper) (k : T AV → St → Option (T AV × St)) (tm : T AV) (st : St) : Option (T AV × St) :=
  match o.guard with
  | none => runOp n call o.dst tm st k (compOp P o)
  | some _ => match wantedA all tm.get o with
    | none => none
    | some false => kput n tm o.dst (.sc undef) st k
    | some true => runOp n call o.dst tm st k (compOp P o)
def evSeqF (P : Program) (call : FuncId → List AV → St → Option (AV × St)) (n : Nat) (all : List Oper) (os : List Oper) : T AV → St → Option (T AV × St) :=
  @List.rec Oper (fun _ => T AV → St → Option (T AV × St)) (fun tm st => some (tm, st)) (fun o _ k => stepS P call n all o k) os
theorem evSeqF_eq (P : Program) (call : FuncId → List AV → St → Option (AV × St)) (n : Nat) (all : List Oper) : ∀ (os : List Oper) (tm : T AV) (st : St), evSeqF P call n all os tm st = evSeq P call n all os tm st
  | [], tm, st => rfl
  | o :: os, tm, st => by
    have ih : evSeqF P call n all os = fun tm st => evSeq P call n all os tm st := by funext tm st; exact evSeqF_eq P call n all os tm st
    show stepS P call n all o (evSeqF P call n all os) tm st = _
    rw [ih]
    have kp : ∀ v st', kput n tm o.dst v st' (fun tm st => evSeq P call n all os tm st) = (match putA n tm o.dst v with | some tm' => evSeq P call n all os tm' st' | none => none) := by
      intro v st'
      unfold kput putA
      cases o.dst with
      | none => rfl
      | some d => cases h : d.blt n <;> simp only [h, cond_true, cond_false]
    have run : runOp n call o.dst tm st (fun tm st => evSeq P call n all os tm st) (compOp P o) = (match evOp P call (evX tm) st o with
        | none => none
        | some (v, st') => match putA n tm o.dst v with
          | some tm' => evSeq P call n all os tm' st'
          | none => none) := by
      rw [← evOpF_eq]
      unfold evOpF
      cases compOp P o with
      | q f => simp only [runOp]; cases f (evX tm) st.h with
        | none => rfl
        | some v => simp only [kp]
      | f g => simp only [runOp]; cases g (evX tm) st.nx with
        | none => rfl
        | some p => obtain ⟨v, ao⟩ := p; simp only [kp]
      | x g => simp only [runOp]; cases g call (evX tm) st with
        | none => rfl
        | some p => obtain ⟨v, st'⟩ := p; simp only [kp]
    simp only [evSeq]
    unfold stepS
    cases hg : o.guard with
    | none =>
      have hw : wantedA all tm.get o = some true := by unfold wantedA; rw [hg]
      simp only [hw]
      exact run
    | some gd =>
      simp only
      cases hw : wantedA all tm.get o with
      | none => rfl
      | some b => cases b with
        | false => simp only; exact kp _ _
        | true => simp only; exact run

abbrev RC := Nat → Code → T AV → St → Option (Ex × T AV × St)
abbrev RK := FuncId → List AV → St → Option (AV × St)
def seqE (rC : RC) (n : Nat) (a b : Code) (tm : T AV) (st : St) : Option (Ex × T AV × St) :=
  match rC n a tm st with
  | some (.normal, tm', st') => rC n b tm' st'
  | r => r
def condE (rC : RC) (n : Nat) (a b : Code) (tm : T AV) (st : St) : Option AV → Option (Ex × T AV × St)
  | some (.sc (.bool true)) => rC n a tm st
  | some (.sc (.bool false)) => rC n b tm st
  | _ => none
def blockE (id : Nat) : Option (Ex × T AV × St) → Option (Ex × T AV × St)
  | some (.exit id', tm', st') => bif id'.beq id then some (.normal, tm', st') else some (.exit id', tm', st')
  | r => r
def regE : Option (T AV × St) → Option (Ex × T AV × St)
  | some (tm', st') => some (.normal, tm', st')
  | none => none
def stepC (P : Program) (rC : RC) (rK : RK) : RC := fun n c tm st =>
  match c with
  | .skip | .label _ => some (.normal, tm, st)
  | .seq a b => seqE rC n a b tm st
  | .cond x a b => condE rC n a b tm st (evX tm x)
  | .block id c => blockE id (rC n c tm st)
  | .loop c => seqE rC n c (.loop c) tm st
  | .scope c => rC n c tm st
  | .exit id => some (.exit id, tm, st)
  | .ret => some (.ret, tm, st)
  | .region _ ops false => regE (evSeqF P rK n ops.toList ops.toList tm st)
  | .region _ ops true => regE (evDraw P rK n ops.toList tm st)
  | _ => none
def endE (P : Program) (rs : List ResultVar) : Option (Ex × T AV × St) → Option (AV × St)
  | some (.normal, tm, st') | some (.ret, tm, st') => match evRes P tm st'.h rs with
    | some l => some (oneOf l, st')
    | none => none
  | _ => none
def enterE (P : Program) (rC : RC) (args : List AV) (st : St) : Option Func → Option (AV × St)
  | none => none
  | some fn => match fn.body with
    | none => none
    | some c => endE P fn.results.toList (rC (args.length + (fn.ntmps - args.length)) c (enterT args 0 .leaf) st)
def stepK (P : Program) (orc : Orc) (rC : RC) : RK := fun g args st =>
  match askO orc g args with
  | some none => none
  | some (some v) => some (v, st)
  | none => enterE P rC args st P.funcs[g]?
def both (P : Program) (orc : Orc) (f : Nat) : RC × RK :=
  @Nat.rec (fun _ => RC × RK) (fun _ _ _ _ => none, fun _ _ _ => none) (fun _ ih => (stepC P ih.1 ih.2, stepK P orc ih.1)) f
theorem both_eq (P : Program) (orc : Orc) : ∀ f, both P orc f = (evC P orc f, evCall P orc f)
  | 0 => by
    show ((fun _ _ _ _ => none, fun _ _ _ => none) : RC × RK) = _
    congr 1
  | f + 1 => by
    have ih := both_eq P orc f
    show (stepC P (both P orc f).1 (both P orc f).2, stepK P orc (both P orc f).1) = _
    rw [ih]
    congr 1
    · funext n c tm st
      cases c with
      | region id ops draw =>
        cases draw with
        | false => simp only [evC, stepC, evSeqF_eq]; cases evSeq P (evCall P orc f) n ops.toList ops.toList tm st <;> rfl
        | true => simp only [evC, stepC]; cases evDraw P (evCall P orc f) n ops.toList tm st <;> rfl
      | cond x a b => simp only [evC, stepC]; unfold condE; rfl
      | seq a b => simp only [evC, stepC]; unfold seqE; rfl
      | loop c => simp only [evC, stepC]; unfold seqE; rfl
      | block id c => simp only [evC, stepC]; unfold blockE; rfl
      | _ => simp only [evC, stepC]
def chkF (P : Program) (orc : Orc) (f : Nat) (g : FuncId) (args : List Value) : Option Value :=
  match (both P orc f).2 g (scs args) ⟨.leaf, 1⟩ with
  | some (v, _) => v.toV
  | none => none
theorem chkF_eq (P : Program) (orc : Orc) (f : Nat) (g : FuncId) (args : List Value) : chkF P orc f g args = chk P orc f g args := by
  unfold chkF chk; rw [both_eq]; rfl
/-- WHAT THE EVALUATOR SAYS OF A CLOSED CALL. -/
theorem chkF_sound {P : Program} (hm : P.follows .mixedOrders = true) {orc : Orc} (horc : OrcOk P orc) {f : Nat} {g : FuncId} {args : List Value} {v : Value} (h : chkF P orc f g args = some v) (w : World) :
    Calls P g args.toArray w fun e w' => e = .returned v ∧ Below w.heap.size w w' :=
  chk_sound hm horc (by rw [← chkF_eq]; exact h) w
end
end Go.Proofs.Ytfkfejonlfcgoaa.Ev
