import Derived.Test.YtfkfejonlfcgoaaEvDef
namespace Go.Proofs.Ytfkfejonlfcgoaa.Ev
open Go Go.RowKit
noncomputable section

/-! A region that draws its order. -/
def preds (o : Oper) : List Nat := (o.after.toList.filter (Region.binds .any)).map (·.on)
def orP (anc : T Nat) : List Nat → Nat
  | [] => 0
  | e :: es => (2 ^ e ||| ((anc.get e).getD 0)) ||| orP anc es
/-- Of each operation all that must be done before it: a number whose bits are the operations. -/
def ancs : List Oper → Nat → T Nat → T Nat
  | [], _, t => t
  | o :: os, j, t => ancs os (j + 1) (t.put j (orP t (preds o)))
/-- Which operation writes a slot: each slot at most once. -/
def wrs : List Oper → Nat → T Nat → Option (T Nat)
  | [], _, t => some t
  | o :: os, j, t => match o.dst with
    | none => wrs os (j + 1) t
    | some d => match t.get d with
      | none => wrs os (j + 1) (t.put d j)
      | some _ => none
def xsOf : List Oper → Nat → List Nat
  | [], _ => []
  | o :: os, j => match kindOf o.op with
    | .x => j :: xsOf os (j + 1)
    | _ => xsOf os (j + 1)
def maskOf : List Nat → Nat
  | [] => 0
  | x :: xs => 2 ^ x ||| maskOf xs
/-- All predecessors lie before. -/
def predsOk : List Oper → Nat → Bool
  | [], _ => true
  | o :: os, j => (preds o).all (·.blt j) && predsOk os (j + 1)

structure Ph where
  vals : T AV
  st : St
  pend : List (Nat × Nat × AO)
  done : Nat
  gone : Nat

def an (anc : T Nat) (i : Nat) : Nat := (anc.get i).getD 0
def slotG (wr anc : T Nat) (tm vals : T AV) (i t : Nat) : Option AV :=
  match wr.get t with
  | none => tm.get t
  | some j => bif (an anc i).testBit j then vals.get j
    else bif j.beq i || (an anc j).testBit i then tm.get t else none
def envG (wr anc : T Nat) (tm vals : T AV) (i : Nat) : Operand → Option AV
  | .tmp t => slotG wr anc tm vals i t
  | .const v => some (.sc v)
  | .func f => some (.sc (.func (.func f) #[] #[]))
  | .global _ => none
def viewP (p : Nat → Bool) : List (Nat × Nat × AO) → T AO → T AO
  | [], h => h
  | (j, id, ao) :: l, h => viewP p l (bif p j then h.put id ao else h)
def restG (m : Nat) (l : List (Nat × Nat × AO)) : List (Nat × Nat × AO) := l.filter fun p => !m.testBit p.1
/-- The operations that look at memory. -/
def heapOp : Op → Bool
  | .load .. | .lookup .. | .slice .. | .call _ => true
  | _ => false

mutual
def vsame : Value → Value → Bool
  | .int k n, .int j m => decide (k = j) && decide (n = m)
  | .bool a, .bool b => decide (a = b)
  | .string a, .string b => decide (a.data.toList = b.data.toList)
  | .pointer none, .pointer none => true
  | .slice none a b, .slice none c d => a.beq c && b.beq d
  | .map none, .map none => true
  | .nilFunc, .nilFunc => true
  | .nilIface, .nilIface => true
  | .iface t v, .iface u w => t.beq u && vsame v w
  | .agg ⟨l⟩, .agg ⟨m⟩ => vsameL l m
  | .tuple ⟨l⟩, .tuple ⟨m⟩ => vsameL l m
  | .func f ⟨a⟩ ⟨b⟩, .func g ⟨c⟩ ⟨d⟩ => decide (f = g) && vsameL a c && vsameL b d
  | _, _ => false
  termination_by structural v => v
def vsameL : List Value → List Value → Bool
  | [], [] => true
  | a :: l, b :: m => vsame a b && vsameL l m
  | _, _ => false
  termination_by structural l => l
end
mutual
def AV.same : AV → AV → Bool
  | .sc u, .sc v => vsame u v
  | .ptr i k, .ptr j l => i.beq j && k.beq l
  | .sl i k n z c, .sl i' k' n' z' c' => i.beq i' && k.beq k' && n.beq n' && z.beq z' && decide (c = c')
  | .mp i, .mp j => i.beq j
  | .agg l, .agg m => sameL l m
  | .tup l, .tup m => sameL l m
  | .fn f l m, .fn f' l' m' => decide (f = f') && sameL l l' && sameL m m'
  | .ifc t v, .ifc t' v' => t.beq t' && v.same v'
  | _, _ => false
def sameL : List AV → List AV → Bool
  | [], [] => true
  | a :: l, b :: m => a.same b && sameL l m
  | _, _ => false
end

section
variable (P : Program) (ops : List Oper) (anc wr : T Nat) (xm : Nat) (tm : T AV)
def possible (i : Nat) (ph : Ph) : Bool := ((an anc i &&& xm) &&& ph.done).beq (an anc i &&& xm) && !ph.gone.testBit i
/-- One operation that is no step of the chain, in one phase. -/
def oneG (i : Nat) (o : Oper) (ph : Ph) : Option Ph :=
  match ph.vals.get i with
  | some u => bif heapOp o.op then
      match wantedA ops (slotG wr anc tm ph.vals i) o with
      | none => none
      | some false => some ph
      | some true => match evQ P (envG wr anc tm ph.vals i) (viewP (an anc i).testBit ph.pend ph.st.h) o with
        | some v => bif v.same u then some ph else none
        | none => none
    else some ph
  | none => match wantedA ops (slotG wr anc tm ph.vals i) o with
    | none => none
    | some false => some { ph with vals := ph.vals.put i (.sc undef) }
    | some true => match kindOf o.op with
      | .q => match evQ P (envG wr anc tm ph.vals i) (viewP (an anc i).testBit ph.pend ph.st.h) o with
        | some v => some { ph with vals := ph.vals.put i v }
        | none => none
      | .f => match evF P (envG wr anc tm ph.vals i) ph.st.nx o with
        | some (v, ao) => some { ph with vals := ph.vals.put i v, pend := ph.pend ++ [(i, ph.st.nx, ao)], st := ⟨ph.st.h, ph.st.nx + 1⟩ }
        | none => none
      | .x => none
def passG : List Oper → Nat → Ph → Option Ph
  | [], _, ph => some ph
  | o :: os, i, ph => match kindOf o.op with
    | .x => passG os (i + 1) ph
    | _ => bif possible anc xm i ph then match oneG P ops anc wr tm i o ph with
        | some ph' => passG os (i + 1) ph'
        | none => none
      else passG os (i + 1) ph
variable (call : FuncId → List AV → St → Option (AV × St))
/-- One step of the chain. -/
def stepX (x : Nat) (ph : Ph) : Option Ph :=
  match ops[x]? with
  | none => none
  | some o => bif (ph.done &&& an anc x).beq ph.done && (ph.vals.get x).isNone then
      match wantedA ops (slotG wr anc tm ph.vals x) o with
      | none => none
      | some false => some ⟨ph.vals.put x (.sc undef), ⟨viewP (an anc x).testBit ph.pend ph.st.h, ph.st.nx⟩, restG (an anc x) ph.pend, ph.done ||| 2 ^ x, ph.gone ||| an anc x⟩
      | some true => match evW P call (envG wr anc tm ph.vals x) ⟨viewP (an anc x).testBit ph.pend ph.st.h, ph.st.nx⟩ o with
        | some (v, st') => some ⟨ph.vals.put x v, st', restG (an anc x) ph.pend, ph.done ||| 2 ^ x, ph.gone ||| an anc x⟩
        | none => none
    else none
def restX : List Nat → Ph → Option Ph
  | [], ph => some ph
  | x :: xs, ph => match stepX P ops anc wr tm call x ph with
    | none => none
    | some ph' => match passG P ops anc wr xm tm ops 0 ph' with
      | none => none
      | some ph'' => restX xs ph''
end
def putAll (n : Nat) (vals : T AV) : List Oper → Nat → T AV → Option (T AV)
  | [], _, tm => some tm
  | o :: os, i, tm => match vals.get i with
    | none => none
    | some v => match putA n tm o.dst v with
      | some tm' => putAll n vals os (i + 1) tm'
      | none => none
def evDraw (P : Program) (call : FuncId → List AV → St → Option (AV × St)) (n : Nat) (ops : List Oper) (tm : T AV) (st : St) : Option (T AV × St) :=
  match wrs ops 0 .leaf with
  | none => none
  | some wr => bif predsOk ops 0 then
      match passG P ops (ancs ops 0 .leaf) wr (maskOf (xsOf ops 0)) tm ops 0 ⟨.leaf, st, [], 0, 0⟩ with
      | none => none
      | some ph => match restX P ops (ancs ops 0 .leaf) wr (maskOf (xsOf ops 0)) tm call (xsOf ops 0) ph with
        | none => none
        | some phF => match putAll n phF.vals ops 0 tm with
          | some tm' => some (tm', ⟨viewP (fun _ => true) phF.pend phF.st.h, phF.st.nx⟩)
          | none => none
    else none

/-! Code and calls. -/
inductive Ex | normal | exit (id : Nat) | ret

def evRes (P : Program) (tm : T AV) (h : T AO) : List ResultVar → Option (List AV)
  | [] => some []
  | .tmp t :: rs => match tm.get t with
    | none => none
    | some v => match evRes P tm h rs with
      | some l => some (v :: l)
      | none => none
  | .cell a t :: rs => match tm.get a with
    | some (.ptr i k) => match loadA P h t i k with
      | none => none
      | some v => match evRes P tm h rs with
        | some l => some (v :: l)
        | none => none
    | _ => none
def oneOf : List AV → AV
  | [v] => v
  | l => .tup l
def enterT : List AV → Nat → T AV → T AV
  | [], _, t => t
  | v :: l, k, t => enterT l (k + 1) (t.put k v)

/-- What is known of some functions: what they return, by what they are called with. -/
abbrev Orc := FuncId → Option (List Value → Option Value)
def askO (orc : Orc) (g : FuncId) (args : List AV) : Option (Option AV) :=
  match orc g with
  | none => none
  | some f => match toVs args with
    | none => some none
    | some vs => match f vs with
      | some v => some (some (.sc v))
      | none => some none

mutual
def evC (P : Program) (orc : Orc) : Nat → Nat → Code → T AV → St → Option (Ex × T AV × St)
  | 0, _, _, _, _ => none
  | f + 1, n, c, tm, st =>
    match c with
    | .skip | .label _ => some (.normal, tm, st)
    | .seq a b => match evC P orc f n a tm st with
      | some (.normal, tm', st') => evC P orc f n b tm' st'
      | r => r
    | .cond x a b => match evX tm x with
      | some (.sc (.bool true)) => evC P orc f n a tm st
      | some (.sc (.bool false)) => evC P orc f n b tm st
      | _ => none
    | .block id c => match evC P orc f n c tm st with
      | some (.exit id', tm', st') => bif id'.beq id then some (.normal, tm', st') else some (.exit id', tm', st')
      | r => r
    | .loop c => match evC P orc f n c tm st with
      | some (.normal, tm', st') => evC P orc f n (.loop c) tm' st'
      | r => r
    | .scope c => evC P orc f n c tm st
    | .exit id => some (.exit id, tm, st)
    | .ret => some (.ret, tm, st)
    | .region _ ops false => match evSeq P (evCall P orc f) n ops.toList ops.toList tm st with
      | some (tm', st') => some (.normal, tm', st')
      | none => none
    | .region _ ops true => match evDraw P (evCall P orc f) n ops.toList tm st with
      | some (tm', st') => some (.normal, tm', st')
      | none => none
    | _ => none
def evCall (P : Program) (orc : Orc) : Nat → FuncId → List AV → St → Option (AV × St)
  | 0, _, _, _ => none
  | f + 1, g, args, st => match askO orc g args with
    | some none => none
    | some (some v) => some (v, st)
    | none => match P.funcs[g]? with
      | none => none
      | some fn => match fn.body with
        | none => none
        | some c => match evC P orc f (args.length + (fn.ntmps - args.length)) c (enterT args 0 .leaf) st with
          | some (.normal, tm, st') | some (.ret, tm, st') => match evRes P tm st'.h fn.results.toList with
            | some l => some (oneOf l, st')
            | none => none
          | _ => none
end
def chk (P : Program) (orc : Orc) (f : Nat) (g : FuncId) (args : List Value) : Option Value :=
  match evCall P orc f g (scs args) ⟨.leaf, 1⟩ with
  | some (v, _) => v.toV
  | none => none
end
end Go.Proofs.Ytfkfejonlfcgoaa.Ev
