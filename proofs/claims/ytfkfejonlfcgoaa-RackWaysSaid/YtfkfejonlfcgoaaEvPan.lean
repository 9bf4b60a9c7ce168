/- The evaluator in passing style, with panics that go through calls: definitions. What a region alone uses lies in a list, the newest first; what other regions use lies in the tree. -/
import Derived.Test.YtfkfejonlfcgoaaEvFst
namespace Go.Proofs.Ytfkfejonlfcgoaa.Ev
open Go Go.RowKit
noncomputable section

/-- How a call ends: it returns a value, or it panics with one. -/
inductive Out where
  | ret (v : AV)
  | pan (v : AV)
/-- A region's own slots, the newest first. -/
inductive Loc where
  | nil
  | cons (t : Nat) (v : AV) (l : Loc)

abbrev KN (R : Type) := T AV → St → R
abbrev KP (R : Type) := AV → St → R
abbrev Nxt (R : Type) := Loc → T AV → St → KN R → KP R → R
abbrev RKK (R : Type) := FuncId → List AV → St → KP R → KP R → R
abbrev RKO := FuncId → List AV → St → Option (AV × St)
abbrev RCK (R : Type) := T AV → St → KN R → (Nat → KN R) → KN R → KP R → R

def Loc.getK {R : Type} (bad : R) (k : AV → R) (t : Nat) (l : Loc) : R :=
  @Loc.rec (fun _ => R) bad (fun t' v _ ih => @Bool.rec (fun _ => R) ih (k v) (Nat.beq t' t)) l
def Loc.get (l : Loc) (t : Nat) : Option AV :=
  match l with
  | .nil => none
  | .cons t' v l => bif Nat.beq t' t then some v else l.get t

/-- An operand, looked up: a slot of the tree, one of the list, or a constant. -/
inductive XO where
  | T (t : Nat)
  | L (t : Nat)
  | C (v : AV)
  | no
def compX (keep : Nat) (x : Operand) : XO :=
  match x with
  | .tmp t => bif keep.testBit t then .T t else .L t
  | .const v => .C (.sc v)
  | .func f => .C (.sc (.func (.func f) #[] #[]))
  | .global _ => .no
def getE {R : Type} (loc : Loc) (tm : T AV) (bad : R) (k : AV → R) (x : XO) : R :=
  @XO.rec (fun _ => R) (fun t => tm.getK bad k t) (fun t => loc.getK bad k t) k bad x
/-- Where a result goes. -/
inductive DO where
  | no
  | T (t : Nat)
  | L (t : Nat)
def compD (keep : Nat) (dst : Option Tmp) : DO :=
  match dst with
  | none => .no
  | some d => bif keep.testBit d then .T d else .L d
def finE {R : Type} (d : DO) (next : Nxt R) (loc : Loc) (tm : T AV) (st : St) (kn : KN R) (kp : KP R) (v : AV) : R :=
  @DO.rec (fun _ => R) (next loc tm st kn kp) (fun t => next loc (tm.put t v) st kn kp) (fun t => next (.cons t v loc) tm st kn kp) d
def slotE (keep : Nat) (loc : Loc) (tm : T AV) (t : Nat) : Option AV := bif keep.testBit t then tm.get t else loc.get t
def evE (keep : Nat) (loc : Loc) (tm : T AV) : Operand → Option AV
  | .tmp t => slotE keep loc tm t
  | .const v => some (.sc v)
  | .func f => some (.sc (.func (.func f) #[] #[]))
  | .global _ => none

/-! Drawn regions: where what touches the world lies in one row, any order does what the written one does. -/
def safeS (wr anc : T Nat) (i t : Nat) : Bool :=
  match wr.get t with
  | none => true
  | some j => (an anc i).testBit j || j.beq i || (an anc j).testBit i
def cxD (keep : Nat) (wr anc : T Nat) (i : Nat) (x : Operand) : XO :=
  match x with
  | .tmp t => bif safeS wr anc i t then compX keep (.tmp t) else .no
  | .const v => .C (.sc v)
  | .func f => .C (.sc (.func (.func f) #[] #[]))
  | .global _ => .no
def evD (keep : Nat) (wr anc : T Nat) (i : Nat) (loc : Loc) (tm : T AV) : Operand → Option AV
  | .tmp t => bif safeS wr anc i t then slotE keep loc tm t else none
  | .const v => some (.sc v)
  | .func f => some (.sc (.func (.func f) #[] #[]))
  | .global _ => none
def isEv (o : Oper) : Bool := match kindOf o.op with | .q => false | _ => true
def isHp (o : Oper) : Bool := isEv o || heapOp o.op
def ordOne (anc : T Nat) (i : Nat) (o : Oper) : List Oper → Nat → Bool
  | [], _ => true
  | p :: ps, j => (!((isEv p && isHp o) || (isHp p && isEv o)) || (an anc i).testBit j) && ordOne anc i o ps (j + 1)
def ordOk (anc : T Nat) (all : List Oper) : List Oper → Nat → Bool
  | [], _ => true
  | o :: os, i => ordOne anc i o (all.take i) 0 && ordOk anc all os (i + 1)
inductive RI where
  | slow
  | fast (wr anc : T Nat)
def compR (ops : List Oper) : RI :=
  match wrs ops 0 .leaf with
  | none => .slow
  | some wr => bif predsOk ops 0 && ordOk (ancs ops 0 .leaf) ops ops 0 then .fast wr (ancs ops 0 .leaf) else .slow

/-- An operation, looked up. -/
inductive CI (R : Type) where
  | mk (run : RKK R → RKO → Nxt R → Loc → T AV → St → KN R → KP R → R)
def CI.run {R : Type} (c : CI R) : RKK R → RKO → Nxt R → Loc → T AV → St → KN R → KP R → R := @CI.rec R (fun _ => _) (fun r => r) c

section
variable {R : Type} (P : Program) (bad : R)
/-- Two numbers below 2 ^ 63, none of them below 0. -/
def natK (op : BinOp) (k : AV → R) (m n : Nat) (other : R) : R :=
  match op with
  | .add => ifB (k (.sc (.int .i64 (.ofNat (Nat.add m n))))) other (Nat.ble (Nat.add m n) 9223372036854775807)
  | .sub => ifB (ifB (k (.sc (.int .i64 (.ofNat (Nat.sub m n))))) other (Nat.ble m 9223372036854775807)) other (Nat.ble n m)
  | .mul => ifB (k (.sc (.int .i64 (.ofNat (Nat.mul m n))))) other (Nat.ble (Nat.mul m n) 9223372036854775807)
  | .eql => k (.sc (.bool (Nat.beq m n)))
  | .neq => k (.sc (.bool (ifB false true (Nat.beq m n))))
  | .lss => k (.sc (.bool (Nat.ble (Nat.succ m) n)))
  | .leq => k (.sc (.bool (Nat.ble m n)))
  | .gtr => k (.sc (.bool (Nat.ble (Nat.succ n) m)))
  | .geq => k (.sc (.bool (Nat.ble n m)))
  | .rem => ifB (ifB (k (.sc (.int .i64 (.ofNat (Nat.mod m n))))) other (Nat.ble m 9223372036854775807)) other (Nat.ble 1 n)
  | .quo => ifB (ifB (k (.sc (.int .i64 (.ofNat (Nat.div m n))))) other (Nat.ble m 9223372036854775807)) other (Nat.ble 1 n)
  | .and => ifB (ifB (k (.sc (.int .i64 (.ofNat (Nat.land m n))))) other (Nat.ble m 9223372036854775807)) other (Nat.ble n 9223372036854775807)
  | .or => ifB (ifB (k (.sc (.int .i64 (.ofNat (Nat.lor m n))))) other (Nat.ble m 9223372036854775807)) other (Nat.ble n 9223372036854775807)
  | .shl => ifB (ifB (k (.sc (.int .i64 (.ofNat (Nat.mul m (Nat.pow 2 n)))))) other (Nat.ble (Nat.mul m (Nat.pow 2 n)) 9223372036854775807)) other (Nat.ble n 62)
  | .shr => ifB (ifB (k (.sc (.int .i64 (.ofNat (Nat.div m (Nat.pow 2 n)))))) other (Nat.ble m 9223372036854775807)) other (Nat.ble n 62)
  | _ => other
def binK (op : BinOp) (t : TypeId) (x y : Operand) (k : AV → R) (a b : AV) : R :=
  match a, b with
  | .sc (.int .i64 (.ofNat m)), .sc (.int .i64 (.ofNat n)) => natK op k m n (optK bad k (evBin P op t x y (.sc (.int .i64 (.ofNat m))) (.sc (.int .i64 (.ofNat n)))))
  | a, b => optK bad k (evBin P op t x y a b)
def ptrK (k : Nat → Nat → R) (v : AV) : R :=
  match v with
  | .ptr i j => k i j
  | _ => bad
/-- An interface value that is not nil. -/
def ifcK (k : R) (v : AV) : R :=
  match v with
  | .ifc _ _ => k
  | .sc (.iface _ _) => k
  | _ => bad
variable (cx : Operand → XO) (ev : Loc → T AV → Operand → Option AV) (keep : Nat)
def genK (o : Oper) : CI R :=
  match kindOf o.op with
  | .q => .mk fun _ _ next loc tm st kn kp => optK bad (finE (compD keep o.dst) next loc tm st kn kp) (evQ P (ev loc tm) st.h o)
  | .f => .mk fun _ _ next loc tm st kn kp => optK bad (fun p => @Prod.rec AV AO (fun _ => R) (fun v ao => finE (compD keep o.dst) next loc tm ⟨st.h.put st.nx ao, Nat.succ st.nx⟩ kn kp v) p) (evF P (ev loc tm) st.nx o)
  | .x => .mk fun _ ko next loc tm st kn kp => optK bad (fun p => @Prod.rec AV St (fun _ => R) (fun v st' => finE (compD keep o.dst) next loc tm st' kn kp v) p) (evW P ko (ev loc tm) st o)
def enterG (rk : RKK R) (st : St) (kr kp : KP R) (p : FuncId × List AV) : R := @Prod.rec FuncId (List AV) (fun _ => R) (fun g as => ifB (rk g as st kr kp) bad (callable P g)) p
/-- Operations on one value, or two, that leave the world as it is. -/
def q1K (d : DO) (x : XO) (f : T AO → AV → Option AV) : CI R := .mk fun _ _ next loc tm st kn kp => getE loc tm bad (fun v => optK bad (finE d next loc tm st kn kp) (f st.h v)) x
def q2K (d : DO) (x y : XO) (f : AV → AV → Option AV) : CI R := .mk fun _ _ next loc tm st kn kp => getE loc tm bad (fun u => getE loc tm bad (fun v => optK bad (finE d next loc tm st kn kp) (f u v)) y) x
def argsK (loc : Loc) (tm : T AV) (k : List AV → R) (l : List Operand) : R :=
  @List.rec Operand (fun _ => (List AV → R) → R) (fun k => k []) (fun x _ ih k => getE loc tm bad (fun v => ih fun vs => k (v :: vs)) (cx x)) l k
def appK (dst : Option Tmp) (sT : TypeId) (zs : Bool) (s x : XO) : CI R :=
  .mk fun _ _ next loc tm st kn kp => getE loc tm bad (fun a => getE loc tm bad (fun b => optK bad (fun p => @Prod.rec AV St (fun _ => R) (fun v st' => finE (compD keep dst) next loc tm st' kn kp v) p) (appendF P st sT zs a b)) x) s
def lenQ (t : TypeId) (h : T AO) (x : AV) : Option AV := match lenA P t h x with
  | some n => some (.sc (goInt n))
  | none => none
def compK (o : Oper) : CI R :=
  match o.op with
  | .move x => .mk fun _ _ next loc tm st kn kp => getE loc tm bad (finE (compD keep o.dst) next loc tm st kn kp) (cx x)
  | .assign x => .mk fun _ _ next loc tm st kn kp => getE loc tm bad (finE (compD keep o.dst) next loc tm st kn kp) (cx x)
  | .load t a => match semP P (isAgg t) with
    | some false => .mk fun _ _ next loc tm st kn kp => getE loc tm bad (ptrK bad fun i k => optK bad (finE (compD keep o.dst) next loc tm st kn kp) (rdCellF st.h i k)) (cx a)
    | _ => genK P bad ev keep o
  | .binOp op t x y _ => .mk fun _ _ next loc tm st kn kp => getE loc tm bad (fun a => getE loc tm bad (binK P bad op t x y (finE (compD keep o.dst) next loc tm st kn kp) a) (cx y)) (cx x)
  | .indexAddr t x ix => q2K bad (compD keep o.dst) (cx x) (cx ix) (indexAddrA P t)
  | .extract x i => q1K bad (compD keep o.dst) (cx x) fun _ v => extractA v i
  | .unOp op _ x => q1K bad (compD keep o.dst) (cx x) fun _ v => unOpA P op v
  | .convert s d x => q1K bad (compD keep o.dst) (cx x) fun _ v => convertA P s d v
  | .fieldAddr s x f => q1K bad (compD keep o.dst) (cx x) fun _ v => fieldAddrA P s v f
  | .makeInterface t x => q1K bad (compD keep o.dst) (cx x) fun _ v => makeIfcA P t v
  | .store t a x => .mk fun _ _ next loc tm st kn kp => getE loc tm bad (fun a => getE loc tm bad (fun v => optK bad (fun st' => finE (compD keep o.dst) next loc tm st' kn kp (.sc undef)) (storeA P st t a v)) (cx x)) (cx a)
  | .panic x => .mk fun _ _ _ loc tm st _ kp => getE loc tm bad (fun v => ifcK bad (kp v st) v) (cx x)
  | .call c => match c.callee with
    | .value f => .mk fun rk _ next loc tm st kn kp => argsK bad cx loc tm (fun args => getE loc tm bad (fun fv => optK bad (enterG P bad rk st (fun v st' => finE (compD keep o.dst) next loc tm st' kn kp v) kp) (calleeA fv args)) (cx f)) c.args.toList
    | .invoke r name => .mk fun rk _ next loc tm st kn kp => argsK bad cx loc tm (fun args => getE loc tm bad (fun rv => optK bad (enterG P bad rk st (fun v st' => finE (compD keep o.dst) next loc tm st' kn kp v) kp) (invokeA P rv name args)) (cx r)) c.args.toList
    | .builtin .len => match c.argTypes[0]?, c.args.toList with
      | some t, [x] => q1K bad (compD keep o.dst) (cx x) (lenQ P t)
      | _, _ => genK P bad ev keep o
    | .builtin .append => match c.argTypes[0]?, c.argTypes[1]?, c.args.toList with
      | some sT, some xT, [s, x] => match P.underlying xT with
        | some (.int _) => appK P bad keep o.dst sT true (cx s) (cx x)
        | some _ => appK P bad keep o.dst sT false (cx s) (cx x)
        | none => genK P bad ev keep o
      | _, _, _ => genK P bad ev keep o
    | _ => genK P bad ev keep o
  | _ => genK P bad ev keep o

def guardK (all : List Oper) (j : Nat) : XO :=
  match all[j]? with
  | some og => match og.dst with
    | some d => cx (.tmp d)
    | none => .no
  | none => .no
/-- An operation with its guard, looked up. -/
def opC (all : List Oper) (o : Oper) : CI R :=
  match o.guard with
  | none => compK P bad cx ev keep o
  | some g => .mk fun rk ko next loc tm st kn kp => getE loc tm bad (fun v =>
      match v with
      | .sc (.bool b) => ifB ((compK P bad cx ev keep o).run rk ko next loc tm st kn kp) (finE (compD keep o.dst) next loc tm st kn kp (.sc undef)) (b == g.2)
      | _ => finE (compD keep o.dst) next loc tm st kn kp (.sc undef)) (guardK cx all g.1)

variable (rk : RKK R) (ko : RKO)
def seqR (all : List Oper) (os : List Oper) : Nxt R :=
  @List.rec Oper (fun _ => Nxt R) (fun _ tm st kn _ => kn tm st) (fun o _ ih loc tm st kn kp => (opC P bad (compX keep) (evE keep) keep all o).run rk ko ih loc tm st kn kp) os
def seqD (wr anc : T Nat) (all : List Oper) (os : List Oper) : Nat → Nxt R :=
  @List.rec Oper (fun _ => Nat → Nxt R) (fun _ _ tm st kn _ => kn tm st) (fun o _ ih i loc tm st kn kp => (opC P bad (cxD keep wr anc i) (evD keep wr anc i) keep all o).run rk ko (ih (Nat.succ i)) loc tm st kn kp) os
def condK (tr fa : R) (v : AV) : R :=
  match v with
  | .sc (.bool b) => ifB tr fa b
  | _ => bad
variable (F n : Nat)
def runC (c : Code) : RCK R :=
  @Code.rec (fun _ => RCK R)
    (fun tm st kn _ _ _ => kn tm st)
    (fun _ ops draw => @Bool.rec (fun _ => RCK R) (fun tm st kn _ _ kp => seqR P bad keep rk ko ops.toList ops.toList .nil tm st kn kp) (@RI.rec (fun _ => RCK R) (fun tm st kn _ _ _ => optK bad (fun p => @Prod.rec (T AV) St (fun _ => R) kn p) (evDraw P ko n ops.toList tm st))
      (fun wr anc tm st kn _ _ _ => seqD P bad keep rk ko wr anc ops.toList ops.toList 0 .nil tm st kn (fun _ _ => bad)) (compR ops.toList)) draw)
    (fun _ _ ra rb tm st kn kx kr kp => ra tm st (fun tm st => rb tm st kn kx kr kp) kx kr kp)
    (fun x _ _ ra rb tm st kn kx kr kp => getE .nil tm bad (condK bad (ra tm st kn kx kr kp) (rb tm st kn kx kr kp)) (compX keep x))
    (fun id _ rc tm st kn kx kr kp => rc tm st kn (fun id' tm st => ifB (kn tm st) (kx id' tm st) (Nat.beq id' id)) kr kp)
    (fun _ rc tm st _ kx kr kp => @Nat.rec (fun _ => KN R) (fun _ _ => bad) (fun _ ih tm st => rc tm st ih kx kr kp) F tm st)
    (fun _ _ _ _ _ _ _ _ _ _ _ _ => bad)
    (fun id tm st _ kx _ _ => kx id tm st)
    (fun _ rc => rc)
    (fun _ tm st kn _ _ _ => kn tm st)
    (fun _ _ _ _ _ _ _ => bad)
    (fun tm st _ _ kr _ => kr tm st)
    (fun _ _ _ _ _ _ _ => bad) c
end

/-! What stays in the tree: what some region uses that did not write it itself, what decisions, results and drawn regions use. Nothing hangs on it but that the evaluator finds what it wants. -/
def bitsX (x : Operand) : Nat := match x with | .tmp t => 2 ^ t | _ => 0
def bitsXs : List Operand → Nat
  | [] => 0
  | x :: l => bitsX x ||| bitsXs l
def bitD (o : Oper) : Nat := match o.dst with | some d => 2 ^ d | none => 0
/-- Slots that are read before they are written: wrote: what is written so far. -/
def openBits (all : List Oper) : List Oper → Nat → Nat
  | [], _ => 0
  | o :: os, wrote =>
    let rd := bitsXs o.op.operands.toList ||| (match o.guard with | some g => (match all[g.1]? with | some og => bitD og | none => 0) | none => 0)
    (rd &&& (rd ^^^ (rd &&& wrote))) ||| openBits all os (wrote ||| bitD o)
def allBits : List Oper → Nat
  | [] => 0
  | o :: os => bitsXs o.op.operands.toList ||| bitD o ||| allBits os
def keepC : Code → Nat
  | .region _ ops false => openBits ops.toList ops.toList 0
  | .region _ ops true => match compR ops.toList with
    | .slow => allBits ops.toList
    | .fast _ _ => openBits ops.toList ops.toList 0
  | .seq a b => keepC a ||| keepC b
  | .cond x a b => bitsX x ||| keepC a ||| keepC b
  | .block _ c | .loop c | .scope c => keepC c
  | _ => 0
def bitR : ResultVar → Nat
  | .tmp t => 2 ^ t
  | .cell a _ => 2 ^ a
def keepRs : List ResultVar → Nat
  | [] => 0
  | r :: rs => bitR r ||| keepRs rs
def keepOf (fn : Func) (c : Code) : Nat := keepC c ||| keepRs fn.results.toList ||| (2 ^ (fn.params.size + fn.nfree) - 1)

/-- All slots that are written lie below n; a drawn region writes into the tree alone. -/
def okOps (n : Nat) : List Oper → Bool
  | [] => true
  | o :: os => (match o.dst with | none => true | some d => d.blt n) && okOps n os
def okDraw (keep : Nat) : List Oper → Bool
  | [] => true
  | o :: os => (match o.dst with | none => true | some d => keep.testBit d) && okDraw keep os
def okC (keep n : Nat) : Code → Bool
  | .region _ ops false => okOps n ops.toList
  | .region _ ops true => match compR ops.toList with
    | .slow => okDraw keep ops.toList
    | .fast _ _ => okOps n ops.toList
  | .seq a b | .cond _ a b => okC keep n a && okC keep n b
  | .block _ c | .loop c | .scope c => okC keep n c
  | _ => true
def okArgs (keep : Nat) : Nat → Bool
  | 0 => true
  | k + 1 => keep.testBit k && okArgs keep k

/-- A function, looked up: its code and what stays in the tree. -/
inductive FC where
  | mk (c : Code) (keep np nt : Nat) (rs : List ResultVar)
def compF (fn : Func) : Option FC :=
  match fn.body with
  | none => none
  | some c => bif okC (keepOf fn c) fn.ntmps c && okArgs (keepOf fn c) (fn.params.size + fn.nfree) then some (.mk c (keepOf fn c) (fn.params.size + fn.nfree) fn.ntmps fn.results.toList) else none
def funcOf (P : Program) (g : FuncId) : Option FC :=
  match P.funcs[g]? with
  | none => none
  | some fn => compF fn

section
variable {R : Type} (P : Program) (bad : R) (rk : RKK R) (ko : RKO) (F : Nat)
def endK (rs : List ResultVar) (kret : KP R) (tm : T AV) (st : St) : R := optK bad (fun l => kret (oneOf l) st) (evRes P tm st.h rs)
def bodyK (args : List AV) (st : St) (kret kpan : KP R) (c : Code) (keep nt : Nat) (rs : List ResultVar) : R :=
  runC P bad keep rk ko F (args.length + (nt - args.length)) c (enterT args 0 .leaf) st (endK P bad rs kret) (fun _ _ _ => bad) (endK P bad rs kret) kpan
def enterK (args : List AV) (st : St) (kret kpan : KP R) (fc : FC) : R :=
  @FC.rec (fun _ => R) (fun c keep np nt rs => ifB (bodyK P bad rk ko F args st kret kpan c keep nt rs) bad (Nat.beq args.length np)) fc
end

/-- What is done in a function's place. -/
def Hook := ∀ R : Type, R → RKK R → List AV → St → KP R → KP R → R
abbrev Hks := FuncId → List AV → Option Hook
section
variable (P : Program) (hk : Hks) (F : Nat)
def callK {R : Type} (bad : R) (rk : RKK R) (ko : RKO) : RKK R := fun g args st kret kpan =>
  @Option.rec Hook (fun _ => R) (optK bad (enterK P bad rk ko F args st kret kpan) (funcOf P g)) (fun h => h R bad rk args st kret kpan) (hk g args)
def runK (d : Nat) : ∀ R : Type, R → RKK R :=
  @Nat.rec (fun _ => ∀ R : Type, R → RKK R) (fun _ bad _ _ _ _ _ => bad)
    (fun _ ih R bad => callK P hk F bad (ih R bad) (fun g as st => ih (Option (AV × St)) none g as st (fun v st' => some (v, st')) (fun _ _ => none))) d
end
end
end Go.Proofs.Ytfkfejonlfcgoaa.Ev
