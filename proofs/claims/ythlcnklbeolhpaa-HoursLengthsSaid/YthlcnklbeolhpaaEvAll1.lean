/- The evaluator, part 1: EvDef EvT EvRel EvHeap EvWr EvNew EvQ1 EvQ2 EvQ3 EvQ4. Made out of the texts of these names. -/
import Derived.Below
import Derived.KernelRfl
import Derived.Laws.Cells
import Derived.Orders
import Derived.Scope

/-! EvDef -/
namespace Go.Proofs.Ythlcnklbeolhpaa.Ev
open Go Go.RowKit
noncomputable section

/-! Finite maps from numbers. -/
inductive T (α : Type) where
  | leaf
  | node (l : T α) (v : Option α) (r : T α)

namespace T
variable {α : Type}
def nodeGet (v : Option α) (gl gr : Nat → Option α) (n : Nat) : Option α :=
  @Nat.rec (fun _ => Option α) v (fun m _ => @Nat.rec (fun _ => Option α) (gl (Nat.div m 2)) (fun _ _ => gr (Nat.div m 2)) (Nat.mod m 2)) n
def get (t : T α) : Nat → Option α :=
  @T.rec α (fun _ => Nat → Option α) (fun _ => none) (fun _ v _ gl gr => nodeGet v gl gr) t
/-- A tree with one entry. -/
def one (x : α) (f : Nat) : Nat → T α :=
  @Nat.rec (fun _ => Nat → T α) (fun _ => .leaf) (fun _ p n =>
    @Nat.rec (fun _ => T α) (.node .leaf (some x) .leaf) (fun m _ => @Nat.rec (fun _ => T α) (.node (p (Nat.div m 2)) none .leaf) (fun _ _ => .node .leaf none (p (Nat.div m 2))) (Nat.mod m 2)) n) f
def nodePut (x : α) (l : T α) (v : Option α) (r : T α) (pl pr : Nat → T α) (n : Nat) : T α :=
  @Nat.rec (fun _ => T α) (.node l (some x) r) (fun m _ => @Nat.rec (fun _ => T α) (.node (pl (Nat.div m 2)) v r) (fun _ _ => .node l v (pr (Nat.div m 2))) (Nat.mod m 2)) n
def put (t : T α) (n : Nat) (x : α) : T α :=
  @T.rec α (fun _ => Nat → T α) (fun n => one x (n + 1) n) (fun l v r pl pr => nodePut x l v r pl pr) t n
end T

/-! Abstract values, objects, states. -/
inductive AV where
  | sc (v : Value)
  | ptr (i k : Nat)
  | sl (i k n z : Nat) (c : Option Nat)
  | mp (i : Nat)
  | fn (f : Fn) (first captured : List AV)
  | ifc (t : TypeId) (v : AV)
  | agg (l : List AV)
  | tup (l : List AV)
  | res (k : IntKind) (m r : Nat)
  deriving Inhabited

inductive AO where
  | cells (c : T (AV × Nat)) (lo hi cls : Nat) (w : T Nat)
  | map (es : List (Value × AV × Nat)) (clock : Nat)
  deriving Inhabited

structure St where
  h : T AO
  nx : Nat

/-- What a computation yields that asks for nothing but the program. -/
def semP {α : Type} (P : Program) (s : Sem α) : Option α :=
  @Sem.rec α (fun _ => Option α) (fun a => some a) (fun _ _ _ _ => none) (fun _ _ _ _ _ => none) (fun _ _ _ => none) (fun _ _ _ => none) (fun _ _ _ _ => none) (fun _ _ _ => none)
    (fun _ _ _ => none) (fun _ _ _ _ => none) (fun _ _ _ => none) (fun _ _ _ => none) (fun _ ih => ih P) (fun _ _ _ => none) (fun _ => none) s

def forceI (n : Int) : Bool := match n with | .ofNat m => m.beq m | .negSucc m => m.beq m
def forced (v : Value) : Bool := match v with | .int _ n => forceI n | .bool b => b || true | _ => true

def AV.cells : AV → List AV
  | .agg l => l
  | .sc v => v.cells.toList.map .sc
  | v => [v]
/-- A value that fits into one cell. -/
def AV.one : AV → Bool
  | .sc (.agg _) | .sc (.tuple _) | .agg _ | .tup _ => false
  | _ => true

/-! Memory. -/
def rdCell (h : T AO) (i k : Nat) : Option AV :=
  match h.get i with
  | some (.cells c lo hi cls _) =>
    bif lo.ble k && k.blt hi then
      match c.get k with
      | some (v, s) => match h.get cls with
        | some (.cells _ _ _ _ w) => match w.get k with
          | none => some v
          | some s' => bif s'.ble s then some v else none
        | _ => none
      | none => none
    else none
  | _ => none
def rdCells (h : T AO) (i : Nat) : Nat → Nat → Option (List AV)
  | _, 0 => some []
  | k, n + 1 => match rdCell h i k with
    | some v => match rdCells h i (k + 1) n with
      | some l => some (v :: l)
      | none => none
    | none => none
def wrCell (st : St) (i k : Nat) (v : AV) : Option St :=
  match st.h.get i with
  | some (.cells c lo hi cls w) =>
    bif lo.ble k && k.blt hi && v.one then
      bif cls.beq i then some ⟨st.h.put i (.cells (c.put k (v, st.nx)) lo hi cls (w.put k st.nx)), st.nx + 1⟩
      else match st.h.get cls with
        | some (.cells c' lo' hi' cls' w') =>
          some ⟨(st.h.put cls (.cells c' lo' hi' cls' (w'.put k st.nx))).put i (.cells (c.put k (v, st.nx)) lo hi cls w), st.nx + 1⟩
        | _ => none
    else none
  | _ => none
def wrCells (st : St) (i k : Nat) : List AV → Option St
  | [] => some st
  | v :: l => match wrCell st i k v with
    | some st' => wrCells st' i (k + 1) l
    | none => none
/-- Values laid from cell q on, with a stamp. -/
def lay (s : Nat) : List AV → Nat → T (AV × Nat) → T (AV × Nat)
  | [], _, t => t
  | v :: l, q, t => lay s l (q + 1) (t.put q (v, s))
/-- r cells from q on are written anew at stamp s. -/
def bump (s : Nat) : Nat → Nat → T Nat → T Nat
  | 0, _, t => t
  | r + 1, q, t => bump s r (q + 1) (t.put q s)
def allOne : List AV → Bool
  | [] => true
  | v :: l => v.one && allOne l
/-- A new row of cells: its object. -/
def rowOf (i : Nat) (l : List AV) : Option AO := bif allOne l then some (.cells (lay 0 l 0 .leaf) 0 l.length i .leaf) else none

/-! Operands. -/
def evX (tm : T AV) : Operand → Option AV
  | .tmp t => tm.get t
  | .const v => some (.sc v)
  | .func f => some (.sc (.func (.func f) #[] #[]))
  | .global _ => none
def evXs (ev : Operand → Option AV) : List Operand → Option (List AV)
  | [] => some []
  | x :: l => match ev x with
    | some v => match evXs ev l with
      | some vs => some (v :: vs)
      | none => none
    | none => none
/-- Parts of a literal. -/
def evPs (ev : Operand → Option AV) : List (Nat × Operand) → Option (List (Nat × AV))
  | [] => some []
  | (i, x) :: l => match ev x with
    | some v => match evPs ev l with
      | some vs => some ((i, v) :: vs)
      | none => none
    | none => none

def setAll (k : Nat) : List AV → List AV → List AV
  | [], cs => cs
  | v :: l, cs => setAll (k + 1) l (cs.set k v)
def fillA (place : Nat → Option (Nat × Nat)) (cells : List AV) : List (Nat × AV) → Option (List AV)
  | [] => some cells
  | (i, v) :: rest =>
    match place i with
    | none => none
    | some (off, size) =>
      let vc := v.cells
      bif vc.length.beq size && (off + vc.length).ble cells.length then fillA place (setAll off vc cells) rest else none

def scs (l : List Value) : List AV := l.map .sc
mutual
/-- The value itself, where nothing in it leads to memory. -/
def AV.toV : AV → Option Value
  | .sc v => some v
  | .agg l => match toVs l with | some vs => some (.agg vs.toArray) | none => none
  | .tup l => match toVs l with | some vs => some (.tuple vs.toArray) | none => none
  | _ => none
def toVs : List AV → Option (List Value)
  | [] => some []
  | v :: l => match v.toV with
    | some x => match toVs l with
      | some xs => some (x :: xs)
      | none => none
    | none => none
end

def asInt? : AV → Option Int
  | .sc (.int _ n) => some n
  | _ => none
/-- A bound of a slice expression: within 0 and y. -/
def bnd (x : AV) (y : Nat) : Option Nat :=
  match x with
  | .sc (.int _ (.ofNat n)) => bif n.ble y then some n else none
  | _ => none
def bndO (x : Option AV) (y d : Nat) : Option Nat := match x with | some v => bnd v y | none => some d

/-- The parts of a slice expression over len, cap (a lower bound of it, exact or not): low, high, the new cap if it is known. -/
def sliceA (len : Nat) (cap : Option Nat) (lo hi mx : Option AV) : Option (Nat × Nat × Option Nat) :=
  let top := cap.getD len
  match mx with
  | some m => match bnd m top with
    | none => none
    | some m => match hi with
      | none => none
      | some hv => match bnd hv m with
        | none => none
        | some h => match bndO lo h 0 with
          | none => none
          | some l => some (l, h, some (m - l))
  | none => match bndO hi top len with
    | none => none
    | some h => match bndO lo h 0 with
      | none => none
      | some l => some (l, h, match cap with | some c => some (c - l) | none => none)

def optX (ev : Operand → Option AV) : Option Operand → Option (Option AV)
  | none => some none
  | some x => match ev x with | some v => some (some v) | none => none

def mkIfc (t : TypeId) : AV → AV
  | .sc v => .sc (.iface t v)
  | v => .ifc t v
def nth (l : List AV) (i : Nat) : Option AV := l[i]?

/-- A part of an aggregate. -/
def partA (P : Program) (t : TypeId) (cs : List AV) (off : Nat) : Option AV :=
  match semP P (isAgg t) with
  | some true => match semP P (sizeOf t) with
    | some n => bif (off + n).ble cs.length then some (.agg ((cs.drop off).take n)) else none
    | none => none
  | some false => nth cs off
  | none => none

def isNilV : Value → Bool
  | .pointer none | .slice none _ _ | .map none | .nilFunc | .nilIface => true
  | _ => false
def unlike (op : BinOp) : Option Value := match op with | .eql => some (.bool false) | .neq => some (.bool true) | _ => none
/-- Is a value that is no scalar equal to nil of its type? -/
def eqNil (P : Program) (op : BinOp) (t : TypeId) (x : AV) (y : Value) : Option Value :=
  match x, y, P.underlying t with
  | .ptr _ _, .pointer none, some (.pointer _) => unlike op
  | .sl _ _ _ _ _, .slice none _ _, some (.slice _) => unlike op
  | .mp _, .map none, some (.map _ _) => unlike op
  | .fn _ _ _, .nilFunc, some (.func _ _ _) => unlike op
  | .ifc _ _, .nilIface, some (.interface _) => unlike op
  | _, _, _ => none

def evBin0 (P : Program) (op : BinOp) (t : TypeId) (x y : Operand) (a b : AV) : Option AV :=
  match a.toV, b.toV with
  | some u, some v => match semP P (do eqGuard op t x y u v; binOp op t u v) with
    | some r => bif forced r then some (.sc r) else none
    | none => none
  | none, some v => match eqNil P op t a v with | some r => some (.sc r) | none => none
  | some v, none => match eqNil P op t b v with | some r => some (.sc r) | none => none
  | _, _ => none

/-- Of a number that is known by its remainder alone: its remainder by a divisor. -/
def resRem (op : BinOp) (k : IntKind) (m r : Nat) : AV → Option AV
  | .sc (.int j (.ofNat c)) => match op with
    | .rem => bif decide (j = k) && Nat.blt 0 c && Nat.blt c 32768 && (m % c).beq 0 && (r % c).beq (r % c) then some (.sc (.int k (.ofNat (r % c)))) else none
    | _ => none
  | _ => none
def evBin (P : Program) (op : BinOp) (t : TypeId) (x y : Operand) (a b : AV) : Option AV :=
  match a with
  | .res k m r => resRem op k m r b
  | a => evBin0 P op t x y a b

def lenA (P : Program) (t : TypeId) (h : T AO) (x : AV) : Option Nat :=
  match P.underlying t, x with
  | some (.slice _), .sl _ _ n _ _ => some n
  | some (.slice _), .sc (.slice _ n _) => some n
  | some .string, .sc (.string s) => some s.size
  | some (.array n _), _ => some n
  | some (.map _ _), .sc (.map none) => some 0
  | some (.map _ _), .mp i => match h.get i with | some (.map es _) => some es.length | _ => none
  | _, _ => none
def capA (P : Program) (t : TypeId) (x : AV) : Option Nat :=
  match P.underlying t, x with
  | some (.slice _), .sl _ _ _ _ (some c) => some c
  | some (.slice _), .sc (.slice _ _ c) => some c
  | some (.array n _), _ => some n
  | _, _ => none

/-- Where a key stands among entries. -/
def findA (P : Program) (kt : TypeId) (k : Value) : List (Value × AV × Nat) → Nat → Option (Option (Nat × Value × AV × Nat))
  | [], _ => some none
  | (k', v, b) :: es, i => match semP P (Op.equal kt k k') with
    | some true => some (some (i, k', v, b))
    | some false => findA P kt k es (i + 1)
    | none => none

def findKeyA (P : Program) (kt : TypeId) (k : Value) (es : List (Value × AV × Nat)) : Option (Option (Nat × Value × AV × Nat)) :=
  match P.underlying kt with
  | some _ => findA P kt k es 0
  | none => none

/-- What a variable holds. -/
def loadA (P : Program) (h : T AO) (t : TypeId) (i k : Nat) : Option AV :=
  match semP P (isAgg t) with
  | some true => match semP P (sizeOf t) with
    | some n => match rdCells h i k n with
      | some l => some (.agg l)
      | none => none
    | none => none
  | some false => rdCell h i k
  | none => none

def unA : Option AV → Option (Option Value)
  | none => some none
  | some (.sc v) => some (some v)
  | some _ => none
def allSc : List AV → Option (List Value)
  | [] => some []
  | .sc v :: l => match allSc l with | some vs => some (v :: vs) | none => none
  | _ :: _ => none
/-- An interface value's type and value. -/
def dynA : AV → Option (TypeId × AV)
  | .ifc t v => some (t, v)
  | .sc (.iface t v) => some (t, .sc v)
  | _ => none

def pickA (ev : Operand → Option AV) (c a b : Operand) : Option AV :=
  match ev c with
  | some (.sc (.bool true)) => ev a
  | some (.sc (.bool false)) => ev b
  | _ => none
def buildA (P : Program) (t : TypeId) (vs : List (Nat × AV)) : Option AV :=
  match semP P (zeroValue t) with
  | none => none
  | some z => match P.underlying t with
    | some (.struct fs) => match semP P (fs.mapM fun f => do pure (f.offset, ← sizeOf f.type)) with
      | some places => match fillA (places[·]?) (scs z.cells.toList) vs with
        | some cs => some (.agg cs)
        | none => none
      | none => none
    | some (.array _ e) => match semP P (sizeOf e) with
      | some size => match fillA (fun i => some (i * size, size)) (scs z.cells.toList) vs with
        | some cs => some (.agg cs)
        | none => none
      | none => none
    | _ => none
def nilCheckA : AV → Option AV
  | .ptr i k => some (.ptr i k)
  | .fn (.func f) a b => some (.fn (.func f) a b)
  | .sc (.func (.func f) a b) => some (.sc (.func (.func f) a b))
  | .ifc t v => some (.ifc t v)
  | .sc (.iface t v) => some (.sc (.iface t v))
  | _ => none
/-- A number that was computed, its digits forced. -/
def scF : Option Value → Option AV
  | some r => bif forced r then some (.sc r) else none
  | none => none
def unOpA (P : Program) (op : UnOp) : AV → Option AV
  | .sc v => scF (semP P (Op.unary op v))
  | _ => none
def convertA (P : Program) (s d : TypeId) : AV → Option AV
  | .sc v => scF (semP P (convert s d v))
  | .res _ m r => match P.underlying s, P.underlying d with
    | some (.int _), some (.int .i64) => some (.res .i64 m r)
    | _, _ => none
  | _ => none
def makeIfcA (P : Program) (t : TypeId) (v : AV) : Option AV :=
  match P.underlying t with
  | some (.interface _) => none
  | some _ => some (mkIfc t v)
  | none => none
def sliceQ (P : Program) (h : T AO) (t : TypeId) (v : AV) (lo hi mx : Option AV) : Option AV :=
  match v with
  | .sc v => match unA lo, unA hi, unA mx with
    | some lo, some hi, some mx => match semP P (Instr.sliceAt t v lo hi mx) with
      | some r => some (.sc r)
      | none => none
    | _, _, _ => none
  | .sl i k n z c => match P.underlying t with
    | some (.slice e) => match semP P (sizeOf e) with
      | some size => match sliceA n c lo hi mx with
        | some (l, h, c') => bif size.beq z then some (.sl i (k + l * size) (h - l) z c') else none
        | none => none
      | none => none
    | _ => none
  | .ptr i k => match P.underlying t with
    | some (.array n e) => match semP P (sizeOf e) with
      | some size => match sliceA n (some n) lo hi mx with
        | some (l, h', c') => match h.get i with
          | some (.cells _ blo bhi _ _) => bif blo.ble k && (k + n * size).ble bhi then some (.sl i (k + l * size) (h' - l) size c') else none
          | _ => none
        | none => none
      | none => none
    | _ => none
  | _ => none
def fieldAddrA (P : Program) (s : TypeId) (x : AV) (f : Nat) : Option AV :=
  match x with
  | .ptr i k => match P.underlying s with
    | some (.struct fs) => match fs[f]? with
      | some fd => match semP P (sizeOf fd.type) with
        | some (_ + 1) => some (.ptr i (k + fd.offset))
        | _ => none
      | none => none
    | _ => none
  | _ => none
def aggOf : AV → Option (List AV)
  | .agg cs => some cs
  | .sc (.agg cs) => some (scs cs.toList)
  | _ => none
def fieldA (P : Program) (t : TypeId) (x : AV) (f : Nat) : Option AV :=
  match aggOf x with
  | some cs => match P.underlying t with
    | some (.struct fs) => match fs[f]? with
      | some fd => partA P fd.type cs fd.offset
      | none => none
    | _ => none
  | none => none
def natOf : AV → Option Nat
  | .sc (.int _ (.ofNat m)) => some m
  | _ => none
def indexAddrA (P : Program) (t : TypeId) (x ix : AV) : Option AV :=
  match natOf ix with
  | none => none
  | some m => match x with
    | .ptr i k => match P.underlying t with
      | some (.array n e) => match semP P (sizeOf e) with
        | some size => bif m.blt n then some (.ptr i (k + m * size)) else none
        | none => none
      | _ => none
    | .sl i k n _ _ => match P.underlying t with
      | some (.slice e) => match semP P (sizeOf e) with
        | some size => bif m.blt n then some (.ptr i (k + m * size)) else none
        | none => none
      | _ => none
    | _ => none
def indexA (P : Program) (t : TypeId) (x ix : AV) : Option AV :=
  match x with
  | .agg cs => match natOf ix with
    | none => none
    | some m => match P.underlying t with
      | some (.array n e) => match semP P (sizeOf e) with
        | some size => bif m.blt n then partA P e cs (m * size) else none
        | none => none
      | _ => none
  | .sc v => match ix with
    | .sc i => scF (semP P (Instr.index t v i))
    | _ => none
  | _ => none
def entsA (h : T AO) : AV → Option (List (Value × AV × Nat))
  | .sc (.map none) => some []
  | .mp i => match h.get i with
    | some (.map es _) => some es
    | _ => none
  | _ => none
def lookupA (P : Program) (h : T AO) (t : TypeId) (m k : AV) (ok : Bool) : Option AV :=
  match k.toV with
  | none => none
  | some kv => match P.underlying t with
    | some (.map kt et) => match entsA h m with
      | none => none
      | some es => match semP P (Instr.checkKey es.isEmpty 10000 kt kv) with
        | none => none
        | some _ => match findKeyA P kt kv es with
          | some (some (_, _, v, _)) => some (bif ok then .tup [v, .sc (.bool true)] else v)
          | some none => match semP P (zeroValue et) with
            | some z => some (bif ok then .tup [.sc z, .sc (.bool false)] else .sc z)
            | none => none
          | none => none
    | _ => none
def isNilI : AV → Bool
  | .sc .nilIface => true
  | _ => false
def typeAssertA (P : Program) (x : AV) (t : TypeId) (ok : Bool) : Option AV :=
  match dynA x with
  | none => bif isNilI x && ok then match P.underlying t, semP P (zeroValue t) with
      | some _, some z => some (.tup [.sc z, .sc (.bool false)])
      | _, _ => none
    else none
  | some (dt, dv) => match P.underlying t with
    | none => none
    | some (.interface _) => none
    | some _ => bif dt.beq t then some (bif ok then .tup [dv, .sc (.bool true)] else dv)
      else bif ok then match semP P (zeroValue t) with
        | some z => some (.tup [.sc z, .sc (.bool false)])
        | none => none
      else none
def extractA (x : AV) (i : Nat) : Option AV :=
  match x with
  | .tup l => nth l i
  | .sc (.tuple vs) => match vs[i]? with
    | some v => some (.sc v)
    | none => none
  | _ => none
def builtinQ (P : Program) (h : T AO) (b : Builtin) (argTypes : Array TypeId) (t : TypeId) (args : List AV) : Option AV :=
  match b with
  | .len => match argTypes[0]?, args with
    | some t, [x] => match lenA P t h x with
      | some n => some (.sc (goInt n))
      | none => none
    | _, _ => none
  | .cap => match argTypes[0]?, args with
    | some t, [x] => match capA P t x with
      | some n => some (.sc (goInt n))
      | none => none
    | _, _ => none
  | .min => match allSc args with
    | some vs => scF (semP P (Builtin.min_ argTypes t vs.toArray))
    | none => none
  | .max => match allSc args with
    | some vs => scF (semP P (Builtin.max_ argTypes t vs.toArray))
    | none => none
  | _ => none

/-- The operations that leave the world as it is. -/
def evQ (P : Program) (ev : Operand → Option AV) (h : T AO) (o : Oper) : Option AV :=
  match o.op with
  | .move x | .assign x => ev x
  | .pick c a b => pickA ev c a b
  | .build t ps => (evPs ev ps.toList).bind (buildA P t)
  | .load t a => match ev a with
    | some (.ptr i k) => loadA P h t i k
    | _ => none
  | .nilCheck x => (ev x).bind nilCheckA
  | .binOp op t x y _ => (ev x).bind fun a => (ev y).bind fun b => evBin P op t x y a b
  | .unOp op _ x => (ev x).bind (unOpA P op)
  | .convert s d x => (ev x).bind (convertA P s d)
  | .makeInterface t x => (ev x).bind (makeIfcA P t)
  | .makeFunc f a b => (evXs ev a.toList).bind fun l => (evXs ev b.toList).bind fun m => some (.fn f l m)
  | .slice t x lo hi mx => (ev x).bind fun v => (optX ev lo).bind fun lo => (optX ev hi).bind fun hi => (optX ev mx).bind fun mx => sliceQ P h t v lo hi mx
  | .fieldAddr s x f => (ev x).bind fun v => fieldAddrA P s v f
  | .field t x f => (ev x).bind fun v => fieldA P t v f
  | .indexAddr t x ix => (ev x).bind fun v => (ev ix).bind fun i => indexAddrA P t v i
  | .index t x ix => (ev x).bind fun v => (ev ix).bind fun i => indexA P t v i
  | .lookup t x k ok => (ev x).bind fun m => (ev k).bind fun k => lookupA P h t m k ok
  | .typeAssert x _ t ok => (ev x).bind fun v => typeAssertA P v t ok
  | .extract x i => (ev x).bind fun v => extractA v i
  | .call c => match c.callee with
    | .builtin b => (evXs ev c.args.toList).bind (builtinQ P h b c.argTypes o.type)
    | _ => none
  | _ => none

/-- The operations that make one object, number i, and do nothing besides. -/
def evF (P : Program) (ev : Operand → Option AV) (i : Nat) (o : Oper) : Option (AV × AO) :=
  match o.op with
  | .alloc t => match semP P (zeroValue t) with
    | some z => match rowOf i (scs z.cells.toList) with | some ao => some (.ptr i 0, ao) | none => none
    | none => none
  | .box _ x => match ev x with
    | some v => match rowOf i v.cells with | some ao => some (.ptr i 0, ao) | none => none
    | none => none
  | .buildSlice t n ps => match evPs ev ps.toList, P.underlying t with
    | some vs, some (.slice e) => match semP P (sizeOf e), semP P (zeroValue e) with
      | some size, some z =>
        bif (n * size).ble 4096 then
          match fillA (fun i => some (i * size, size)) (scs ((Array.range (n * size)).map (z.cells[· % z.cells.size]!)).toList) vs with
          | some cs => match rowOf i cs with | some ao => some (.sl i 0 n size (some n), ao) | none => none
          | none => none
        else none
      | _, _ => none
    | _, _ => none
  | .makeMap _ r => match r with
    | none => some (.mp i, .map [] 0)
    | some _ => none
  | .makeSlice t l c => match ev l, ev c, P.underlying t with
    | some (.sc (.int _ (.ofNat l))), some (.sc (.int _ (.ofNat c))), some (.slice e) =>
      match semP P (sizeOf e), semP P (zeroValue e), semP P (typeInfo e) with
      | some size, some z, some info =>
        bif l.ble c && c.ble 65536 && (info.bytes).ble 65536 && (1).ble (c * size) then
          match rowOf i (scs ((Array.range (c * size)).map (z.cells[· % z.cells.size]!)).toList) with
          | some ao => some (.sl i 0 l size (some c), ao)
          | none => none
        else none
      | _, _, _ => none
    | _, _, _ => none
  | _ => none

/-- What is appended: how many elements, and their cells. -/
def addedA (st : St) (info : TypeInfo) (z : Value) (zeros : Bool) (x : AV) : Option (Nat × List AV) :=
  bif zeros then
    match x with
    | .sc (.int _ (.ofNat m)) => bif m.ble 65536 then some (m, scs (Builtin.zeroCells z.cells m).toList) else none
    | _ => none
  else match x with
    | .sl j k n _ _ => match rdCells st.h j k (n * info.size) with
      | some l => some (n, l)
      | none => none
    | .sc (.slice none n _) => bif n.beq 0 then some (0, []) else none
    | .sc (.string b) => some (b.size, b.data.toList.map fun b => .sc (.int .u8 b.toNat))
    | _ => none
/-- The slice behind an append that may lie where the old one lies: a version of its object. -/
def versionA (st : St) (i k n m size : Nat) (c : Option Nat) (new : List AV) : Option (AV × St) :=
  match st.h.get i with
  | some (.cells cs lo hi cls _) =>
    bif lo.ble k && (k + n * size).ble hi && allOne new then
      match st.h.get cls with
      | some (.cells c' lo' hi' cls' w') =>
        some (.sl st.nx k (n + m) size c,
          ⟨(st.h.put cls (.cells c' lo' hi' cls' (bump st.nx (m * size) (k + n * size) w'))).put st.nx
            (.cells (lay st.nx new (k + n * size) cs) k (k + (n + m) * size) cls .leaf), st.nx + 1⟩)
      | _ => none
    else none
  | _ => none
def mayFit (c : Option Nat) (need : Nat) : Bool := match c with | some c => need.ble c | none => true
def appendA (P : Program) (st : St) (sT : TypeId) (zeros : Bool) (s x : AV) : Option (AV × St) :=
  match P.underlying sT with
  | some (.slice e) => match semP P (typeInfo e) with
    | none => none
    | some info => match info.zero with
      | none => none
      | some z => match addedA st info z zeros x with
        | none => none
        | some (m, new) =>
          bif (1).ble info.size && info.bytes.ble 65536 && new.length.beq (m * info.size) && z.cells.size.beq info.size && m.ble 65536 then
            match s with
            | .sc (.slice none n c) =>
              bif n.beq 0 && c.beq 0 then
                bif m.beq 0 then some (s, st)
                else match rowOf st.nx new with
                  | some ao => some (.sl st.nx 0 m info.size none, ⟨st.h.put st.nx ao, st.nx + 1⟩)
                  | none => none
              else none
            | .sl i k n zz c =>
              bif (n + m).ble 65536 && zz.beq info.size then
                bif m.beq 0 then some (s, st)
                else bif mayFit c (n + m) then versionA st i k n m info.size c new
                else match rdCells st.h i k (n * info.size) with
                  | some old => match rowOf st.nx (old ++ new) with
                    | some ao => some (.sl st.nx 0 (n + m) info.size none, ⟨st.h.put st.nx ao, st.nx + 1⟩)
                    | none => none
                  | none => none
              else none
            | _ => none
          else none
  | _ => none

def storeA (P : Program) (st : St) (t : TypeId) (a v : AV) : Option St :=
  match a with
  | .ptr i k => match semP P (sizeOf t) with
    | some n => let cs := v.cells
      bif cs.length.beq n then wrCells st i k cs else none
    | none => none
  | _ => none

/-- Entry i's key and value anew. -/
def setEnt (key : Value) (v : AV) : Nat → List (Value × AV × Nat) → List (Value × AV × Nat)
  | _, [] => []
  | 0, (_, _, b) :: es => (key, v, b) :: es
  | i + 1, e :: es => e :: setEnt key v i es
def bornAt (b : Int) : List (Value × AV × Nat) → Nat → Option (Nat × Value)
  | [], _ => none
  | (k, _, c) :: es, i => bif decide ((c : Int) = b) then some (i, k) else bornAt b es (i + 1)

def evMapUpdate (P : Program) (st : St) (t : TypeId) (m k v : AV) : Option St :=
  match m, k.toV, P.underlying t with
  | .mp i, some kv, some (.map kt _) => match st.h.get i with
    | some (.map es clock) =>
      match semP P (Instr.checkKey false 10000 kt kv), findKeyA P kt kv es with
      | some _, some (some (j, k', _, _)) => match semP P (Instr.keyThatStays k' kv) with
        | some key => some ⟨st.h.put i (.map (setEnt key v j es) clock), st.nx⟩
        | none => none
      | some _, some none => some ⟨st.h.put i (.map (es ++ [(kv, v, clock)]) (clock + 1)), st.nx⟩
      | _, _ => none
    | _ => none
  | _, _, _ => none

def evMapEntry (P : Program) (st : St) (t : TypeId) (m k : AV) : Option (AV × St) :=
  match m, k.toV, P.underlying t with
  | .mp i, some kv, some (.map kt et) => match st.h.get i with
    | some (.map es clock) =>
      match semP P (Instr.checkKey false 10000 kt kv), findKeyA P kt kv es with
      | some _, some (some (j, k', v, b)) => match semP P (Instr.keyThatStays k' kv) with
        | some key => some (.tup [v, .sc (goInt b)], ⟨st.h.put i (.map (setEnt key v j es) clock), st.nx⟩)
        | none => none
      | some _, some none => match semP P (zeroValue et) with
        | some z => some (.tup [.sc z, .sc (goInt clock)], ⟨st.h.put i (.map (es ++ [(kv, .sc z, clock)]) (clock + 1)), st.nx⟩)
        | none => none
      | _, _ => none
    | _ => none
  | _, _, _ => none
def evEntryStore (st : St) (m s v : AV) : Option St :=
  match m, s with
  | .mp i, .sc (.int _ b) => match st.h.get i with
    | some (.map es clock) => match bornAt b es 0 with
      | some (j, key) => some ⟨st.h.put i (.map (setEnt key v j es) clock), st.nx⟩
      | none => none
    | _ => none
  | _, _ => none

/-- The call that a function value stands for. -/
def calleeA (f : AV) (args : List AV) : Option (FuncId × List AV) :=
  match f with
  | .fn (.func g) first captured => some (g, first ++ args ++ captured)
  | .sc (.func (.func g) first captured) => some (g, scs first.toList ++ args ++ scs captured.toList)
  | _ => none
def invokeA (P : Program) (recv : AV) (name : String) (args : List AV) : Option (FuncId × List AV) :=
  match dynA recv with
  | none => none
  | some (t, v) => match semP P (typeInfo t) with
    | none => none
    | some info => match info.methods.find? (·.name == name) with
      | none => none
      | some m => match m.path.isEmpty, m.func, P.underlying t with
        | true, some (f, pr), some d => match d, pr with
          | .pointer _, true => some (f, v :: args)
          | .pointer _, false => none
          | _, false => some (f, v :: args)
          | _, true => none
        | _, _, _ => none

def callable (P : Program) (g : FuncId) : Bool :=
  match P.funcs[g]? with
  | some fn => fn.body.isSome && !(fn.name == "runtime.NumGoroutine")
  | none => false

/-- The other operations. -/
def evW (P : Program) (call : FuncId → List AV → St → Option (AV × St)) (ev : Operand → Option AV) (st : St) (o : Oper) : Option (AV × St) :=
  match o.op with
  | .store t a x => match ev a, ev x with
    | some a, some v => match storeA P st t a v with
      | some st' => some (.sc undef, st')
      | none => none
    | _, _ => none
  | .mapUpdate t m k x | .insert t m k x => match ev m, ev k, ev x with
    | some m, some k, some v => match evMapUpdate P st t m k v with
      | some st' => some (.sc undef, st')
      | none => none
    | _, _, _ => none
  | .mapEntry t m k => match ev m, ev k with
    | some m, some k => evMapEntry P st t m k
    | _, _ => none
  | .entryStore _ m s x => match ev m, ev s, ev x with
    | some m, some s, some v => match evEntryStore st m s v with
      | some st' => some (.sc undef, st')
      | none => none
    | _, _, _ => none
  | .call c => match c.callee, evXs ev c.args.toList with
    | .builtin .append, some [s, x] => match c.argTypes[0]?, c.argTypes[1]? with
      | some sT, some xT => match P.underlying xT with
        | some (.int _) => appendA P st sT true s x
        | some _ => appendA P st sT false s x
        | none => none
      | _, _ => none
    | .builtin .copy, some [.sl i k n _ _, x] => match c.argTypes[0]? with
      | some dT => match P.underlying dT with
        | some (.slice e) => match semP P (sizeOf e) with
          | some size => match x with
            | .sl j k' n' _ _ => match rdCells st.h j k' (Nat.min n' n * size) with
              | some l => match wrCells st i k l with
                | some st' => some (.sc (goInt (Nat.min n' n)), st')
                | none => none
              | none => none
            | _ => none
          | none => none
        | _ => none
      | none => none
    | .value f, some args => match ev f with
      | some f => match calleeA f args with
        | some (g, as) => bif callable P g then call g as st else none
        | none => none
      | none => none
    | .invoke r name, some args => match ev r with
      | some r => match invokeA P r name args with
        | some (g, as) => bif callable P g then call g as st else none
        | none => none
      | none => none
    | _, _ => none
  | _ => none

inductive K | q | f | x
def kindOf : Op → K
  | .alloc _ | .box .. | .buildSlice .. | .makeMap .. | .makeSlice .. => .f
  | .store .. | .mapUpdate .. | .insert .. | .mapEntry .. | .entryStore .. => .x
  | .call c => match c.callee with
    | .builtin .len | .builtin .cap | .builtin .min | .builtin .max => .q
    | _ => .x
  | _ => .q

def evOp (P : Program) (call : FuncId → List AV → St → Option (AV × St)) (ev : Operand → Option AV) (st : St) (o : Oper) : Option (AV × St) :=
  match kindOf o.op with
  | .q => match evQ P ev st.h o with | some v => some (v, st) | none => none
  | .f => match evF P ev st.nx o with | some (v, ao) => some (v, ⟨st.h.put st.nx ao, st.nx + 1⟩) | none => none
  | .x => evW P call ev st o

def wantedA (all : List Oper) (get : Nat → Option AV) (o : Oper) : Option Bool :=
  match o.guard with
  | none => some true
  | some (j, want) => match all[j]? with
    | some og => match og.dst with
      | some d => match get d with
        | some (.sc (.bool b)) => some (b == want)
        | some _ => some false
        | none => none
      | none => none
    | none => none
def putA (n : Nat) (tm : T AV) (dst : Option Tmp) (v : AV) : Option (T AV) :=
  match dst with
  | none => some tm
  | some d => bif d.blt n then some (tm.put d v) else none

def evSeq (P : Program) (call : FuncId → List AV → St → Option (AV × St)) (n : Nat) (all : List Oper) : List Oper → T AV → St → Option (T AV × St)
  | [], tm, st => some (tm, st)
  | o :: os, tm, st =>
    match wantedA all tm.get o with
    | none => none
    | some false => match putA n tm o.dst (.sc undef) with
      | some tm' => evSeq P call n all os tm' st
      | none => none
    | some true => match evOp P call (evX tm) st o with
      | none => none
      | some (v, st') => match putA n tm o.dst v with
        | some tm' => evSeq P call n all os tm' st'
        | none => none
end
end Go.Proofs.Ythlcnklbeolhpaa.Ev

/-! EvT -/
namespace Go.Proofs.Ythlcnklbeolhpaa.Ev
open Go Go.RowKit
namespace T
variable {α : Type}
theorem get_leaf (n : Nat) : (T.leaf : T α).get n = none := rfl
theorem get_node_zero (l r : T α) (v : Option α) : (T.node l v r).get 0 = v := rfl
theorem rec_mod {β : Type} (m : Nat) (a b : β) : @Nat.rec (fun _ => β) a (fun _ _ => b) (Nat.mod m 2) = if m % 2 = 0 then a else b := by
  have e : Nat.mod m 2 = m % 2 := rfl
  rw [e]
  rcases Nat.mod_two_eq_zero_or_one m with h | h <;> rw [h] <;> rfl
theorem get_node_succ (l r : T α) (v : Option α) (m : Nat) : (T.node l v r).get (m + 1) = if m % 2 = 0 then l.get (m / 2) else r.get (m / 2) := rec_mod _ _ _
theorem half_inj {m k : Nat} (h : m % 2 = k % 2) (e : m / 2 = k / 2) : m = k := by omega
theorem one_zero (x : α) (f : Nat) : one x (f + 1) 0 = .node .leaf (some x) .leaf := rfl
theorem one_succ (x : α) (f m : Nat) : one x (f + 1) (m + 1) = if m % 2 = 0 then .node (one x f (m / 2)) none .leaf else .node .leaf none (one x f (m / 2)) := rec_mod _ _ _
theorem put_leaf (n : Nat) (x : α) : (T.leaf : T α).put n x = one x (n + 1) n := rfl
theorem put_node_zero (l r : T α) (v : Option α) (x : α) : (T.node l v r).put 0 x = .node l (some x) r := rfl
theorem put_node_succ (l r : T α) (v : Option α) (m : Nat) (x : α) : (T.node l v r).put (m + 1) x = if m % 2 = 0 then .node (l.put (m / 2) x) v r else .node l v (r.put (m / 2) x) := rec_mod _ _ _
theorem get_one (x : α) : ∀ (f n k : Nat), n < f → (one x f n).get k = if k = n then some x else none
  | 0, n, k, h => by omega
  | f + 1, 0, k, _ => by
    rw [one_zero]
    cases k with
    | zero => rfl
    | succ k => rw [get_node_succ]; simp [get_leaf]
  | f + 1, m + 1, k, h => by
    rw [one_succ]
    by_cases hm : m % 2 = 0
    · rw [if_pos hm]
      cases k with
      | zero => simp [get_node_zero]
      | succ k =>
        rw [get_node_succ, get_one x f _ _ (by omega), get_leaf]
        by_cases hk : k % 2 = 0
        · rw [if_pos hk]
          by_cases hkm : k / 2 = m / 2
          · have : k = m := half_inj (by omega) hkm
            simp [this]
          · have : ¬ k = m := fun e => hkm (by rw [e])
            simp [hkm, this]
        · have : ¬ k = m := fun e => hk (by rw [e]; exact hm)
          simp [hk, this]
    · rw [if_neg hm]
      cases k with
      | zero => simp [get_node_zero]
      | succ k =>
        rw [get_node_succ, get_one x f _ _ (by omega), get_leaf]
        by_cases hk : k % 2 = 0
        · have : ¬ k = m := fun e => hm (by rw [← e]; exact hk)
          simp [hk, this]
        · rw [if_neg hk]
          by_cases hkm : k / 2 = m / 2
          · have : k = m := half_inj (by omega) hkm
            simp [this]
          · have : ¬ k = m := fun e => hkm (by rw [e])
            simp [hkm, this]
theorem get_put : ∀ (t : T α) (n : Nat) (x : α) (k : Nat), (t.put n x).get k = if k = n then some x else t.get k
  | .leaf, n, x, k => by rw [put_leaf, get_one x _ _ _ (Nat.lt_succ_self _), get_leaf]
  | .node l v r, 0, x, k => by
    rw [put_node_zero]
    cases k with
    | zero => rfl
    | succ k => rw [get_node_succ, get_node_succ, if_neg (Nat.succ_ne_zero k)]
  | .node l v r, m + 1, x, k => by
    rw [put_node_succ]
    by_cases hm : m % 2 = 0
    · rw [if_pos hm]
      cases k with
      | zero => simp [get_node_zero]
      | succ k =>
        rw [get_node_succ, get_node_succ, get_put l]
        by_cases hk : k % 2 = 0
        · rw [if_pos hk, if_pos hk]
          by_cases hkm : k / 2 = m / 2
          · have : k = m := half_inj (by omega) hkm
            simp [this]
          · have : ¬ k = m := fun e => hkm (by rw [e])
            simp [hkm, this]
        · have : ¬ k = m := fun e => hk (by rw [e]; exact hm)
          simp [hk, this]
    · rw [if_neg hm]
      cases k with
      | zero => simp [get_node_zero]
      | succ k =>
        rw [get_node_succ, get_node_succ, get_put r]
        by_cases hk : k % 2 = 0
        · have : ¬ k = m := fun e => hm (by rw [← e]; exact hk)
          simp [hk, this]
        · rw [if_neg hk, if_neg hk]
          by_cases hkm : k / 2 = m / 2
          · have : k = m := half_inj (by omega) hkm
            simp [this]
          · have : ¬ k = m := fun e => hkm (by rw [e])
            simp [hkm, this]
theorem get_put_same (t : T α) (n : Nat) (x : α) : (t.put n x).get n = some x := by rw [get_put, if_pos rfl]
theorem get_put_ne (t : T α) (n : Nat) (x : α) {k : Nat} (h : k ≠ n) : (t.put n x).get k = t.get k := by rw [get_put, if_neg h]
end T
end Go.Proofs.Ythlcnklbeolhpaa.Ev

/-! EvRel -/
namespace Go.Proofs.Ythlcnklbeolhpaa.Ev
open Go Go.RowKit

/-- Of each object: its block, its cell 0's place there, and where the block's cells end (counted from cell 0). -/
abbrev Rho := Nat → Option (Nat × Int × Nat)
/-- The address that stands behind cell k of object i. -/
def At (ρ : Rho) (i k : Nat) (a : Addr) : Prop := ∃ b o e, ρ i = some (b, o, e) ∧ a.block = b ∧ a.spot = none ∧ (a.off : Int) = o + k

/-- Object i's block has cells up to e. -/
def Room (ρ : Rho) (i e : Nat) : Prop := ∃ b o e', ρ i = some (b, o, e') ∧ e ≤ e'

mutual
def RelV (ρ : Rho) : AV → Value → Prop
  | .sc v, x => x = v
  | .ptr i k, x => ∃ a, At ρ i k a ∧ x = .pointer (some a)
  | .sl i k n z c, x => ∃ a cap, (0 < cap → At ρ i k a ∧ Room ρ i (k + cap * z)) ∧ n ≤ cap ∧ (∀ m, c = some m → cap = m) ∧ x = .slice (some a) n cap
  | .mp i, x => ∃ b, ρ i = some (b, 0, 0) ∧ x = .map (some b)
  | .fn f l m, x => ∃ xs ys, RelL ρ l xs ∧ RelL ρ m ys ∧ x = .func f xs.toArray ys.toArray
  | .ifc t v, x => ∃ y, RelV ρ v y ∧ x = .iface t y
  | .agg l, x => ∃ xs, RelL ρ l xs ∧ x = .agg xs.toArray
  | .tup l, x => ∃ xs, RelL ρ l xs ∧ x = .tuple xs.toArray
  | .res k m r, x => ∃ z : Nat, z < 65536 ∧ z % m = r ∧ x = .int k z
  termination_by structural v => v
def RelL (ρ : Rho) : List AV → List Value → Prop
  | [], xs => xs = []
  | v :: l, xs => ∃ y ys, RelV ρ v y ∧ RelL ρ l ys ∧ xs = y :: ys
  termination_by structural l => l
end

def Ext (ρ ρ' : Rho) : Prop := ∀ i p, ρ i = some p → ρ' i = some p
theorem Ext.refl (ρ : Rho) : Ext ρ ρ := fun _ _ h => h
theorem Ext.trans {a b c : Rho} (h : Ext a b) (k : Ext b c) : Ext a c := fun i p e => k i p (h i p e)
theorem At.mono {ρ ρ' : Rho} (hx : Ext ρ ρ') {i k : Nat} {a : Addr} (h : At ρ i k a) : At ρ' i k a := by
  obtain ⟨b, o, e, h1, h2⟩ := h; exact ⟨b, o, e, hx _ _ h1, h2⟩
theorem Room.mono {ρ ρ' : Rho} (hx : Ext ρ ρ') {i e : Nat} (h : Room ρ i e) : Room ρ' i e := by
  obtain ⟨b, o, e', h1, h2⟩ := h; exact ⟨b, o, e', hx _ _ h1, h2⟩

mutual
theorem RelV.mono {ρ ρ' : Rho} (hx : Ext ρ ρ') : ∀ (v : AV) (x : Value), RelV ρ v x → RelV ρ' v x
  | .sc _, _, h => by simpa only [RelV] using h
  | .ptr _ _, _, h => by
    simp only [RelV] at h ⊢; obtain ⟨a, h1, h2⟩ := h; exact ⟨a, h1.mono hx, h2⟩
  | .sl _ _ _ _ _, _, h => by
    simp only [RelV] at h ⊢; obtain ⟨a, cap, h1, h2⟩ := h; exact ⟨a, cap, fun hp => ⟨(h1 hp).1.mono hx, (h1 hp).2.mono hx⟩, h2⟩
  | .mp _, _, h => by
    simp only [RelV] at h ⊢; obtain ⟨b, h1, h2⟩ := h; exact ⟨b, hx _ _ h1, h2⟩
  | .fn _ l m, _, h => by
    simp only [RelV] at h ⊢; obtain ⟨xs, ys, h1, h2, h3⟩ := h
    exact ⟨xs, ys, RelL.mono hx l xs h1, RelL.mono hx m ys h2, h3⟩
  | .ifc _ v, _, h => by
    simp only [RelV] at h ⊢; obtain ⟨y, h1, h2⟩ := h; exact ⟨y, RelV.mono hx v y h1, h2⟩
  | .agg l, _, h => by
    simp only [RelV] at h ⊢; obtain ⟨xs, h1, h2⟩ := h; exact ⟨xs, RelL.mono hx l xs h1, h2⟩
  | .tup l, _, h => by
    simp only [RelV] at h ⊢; obtain ⟨xs, h1, h2⟩ := h; exact ⟨xs, RelL.mono hx l xs h1, h2⟩
  | .res _ _ _, _, h => by simpa only [RelV] using h
theorem RelL.mono {ρ ρ' : Rho} (hx : Ext ρ ρ') : ∀ (l : List AV) (xs : List Value), RelL ρ l xs → RelL ρ' l xs
  | [], _, h => by simpa only [RelL] using h
  | v :: l, _, h => by
    simp only [RelL] at h ⊢
    obtain ⟨y, ys, h1, h2, h3⟩ := h
    exact ⟨y, ys, RelV.mono hx v y h1, RelL.mono hx l ys h2, h3⟩
end

/-! Lists. -/
section lists
variable {ρ : Rho}
theorem RelL.nil_iff {xs : List Value} : RelL ρ [] xs ↔ xs = [] := by simp only [RelL]
theorem RelL.cons {v : AV} {l : List AV} {x : Value} {xs : List Value} (h : RelV ρ v x) (hl : RelL ρ l xs) : RelL ρ (v :: l) (x :: xs) := by
  simp only [RelL]; exact ⟨x, xs, h, hl, rfl⟩
theorem RelL.cons_inv {v : AV} {l : List AV} {xs : List Value} (h : RelL ρ (v :: l) xs) : ∃ y ys, RelV ρ v y ∧ RelL ρ l ys ∧ xs = y :: ys := by
  simpa only [RelL] using h
theorem RelL.length : ∀ {l : List AV} {xs : List Value}, RelL ρ l xs → xs.length = l.length
  | [], _, h => by rw [RelL.nil_iff.1 h]; rfl
  | _ :: l, _, h => by
    obtain ⟨y, ys, _, h2, rfl⟩ := h.cons_inv
    simp [RelL.length h2]
theorem RelL.append : ∀ {l m : List AV} {xs ys : List Value}, RelL ρ l xs → RelL ρ m ys → RelL ρ (l ++ m) (xs ++ ys)
  | [], _, _, _, h, k => by rw [RelL.nil_iff.1 h]; exact k
  | _ :: _, _, _, _, h, k => by
    obtain ⟨y, zs, h1, h2, rfl⟩ := h.cons_inv
    exact RelL.cons h1 (RelL.append h2 k)
theorem RelL.get : ∀ {l : List AV} {xs : List Value}, RelL ρ l xs → ∀ (i : Nat) (v : AV), l[i]? = some v → ∃ x, xs[i]? = some x ∧ RelV ρ v x
  | [], _, _, i, v, e => by simp at e
  | u :: l, _, h, i, v, e => by
    obtain ⟨y, ys, h1, h2, rfl⟩ := h.cons_inv
    cases i with
    | zero => simp at e; subst e; exact ⟨y, rfl, h1⟩
    | succ i => simp at e; obtain ⟨x, hx, hr⟩ := RelL.get h2 i v e; exact ⟨x, by simpa using hx, hr⟩
theorem RelL.of_get : ∀ {l : List AV} {xs : List Value}, xs.length = l.length → (∀ (i : Nat) v x, l[i]? = some v → xs[i]? = some x → RelV ρ v x) → RelL ρ l xs
  | [], xs, h, _ => by
    have : xs = [] := List.length_eq_zero_iff.1 h
    exact RelL.nil_iff.2 this
  | v :: l, [], h, _ => by simp at h
  | v :: l, x :: xs, h, k => RelL.cons (k 0 v x rfl rfl) (RelL.of_get (by simpa using h) fun i v x h1 h2 => k (i + 1) v x (by simpa using h1) (by simpa using h2))
theorem RelL.set {l : List AV} {xs : List Value} (h : RelL ρ l xs) {v : AV} {x : Value} (hv : RelV ρ v x) (k : Nat) : RelL ρ (l.set k v) (xs.set k x) := by
  refine RelL.of_get (by simp [h.length]) fun i u y h1 h2 => ?_
  rw [List.getElem?_set] at h1 h2
  by_cases hk : k = i
  · rw [if_pos hk] at h1 h2
    have hl := h.length
    by_cases hlt : i < l.length
    · rw [if_pos (by omega)] at h1
      rw [if_pos (by omega)] at h2
      cases h1; cases h2; exact hv
    · rw [if_neg (by omega)] at h1; cases h1
  · rw [if_neg hk] at h1 h2
    obtain ⟨x', hx', hr⟩ := h.get i u h1
    rw [hx'] at h2; cases h2; exact hr
theorem RelL.scs : ∀ (xs : List Value), RelL ρ (scs xs) xs
  | [] => RelL.nil_iff.2 rfl
  | x :: xs => RelL.cons (by simp only [RelV]) (RelL.scs xs)
theorem RelL.drop {l : List AV} {xs : List Value} (h : RelL ρ l xs) (k : Nat) : RelL ρ (l.drop k) (xs.drop k) := by
  refine RelL.of_get (by simp [h.length]) fun i u y h1 h2 => ?_
  rw [List.getElem?_drop] at h1 h2
  obtain ⟨x', hx', hr⟩ := h.get _ u h1
  rw [hx'] at h2; cases h2; exact hr
theorem RelL.take {l : List AV} {xs : List Value} (h : RelL ρ l xs) (k : Nat) : RelL ρ (l.take k) (xs.take k) := by
  refine RelL.of_get (by simp [h.length]) fun i u y h1 h2 => ?_
  rw [List.getElem?_take] at h1 h2
  by_cases hk : i < k
  · rw [if_pos hk] at h1 h2
    obtain ⟨x', hx', hr⟩ := h.get _ u h1
    rw [hx'] at h2; cases h2; exact hr
  · rw [if_neg hk] at h1; cases h1
end lists

/-! Values. -/
section values
variable {ρ : Rho}
theorem relV_sc {v x : Value} : RelV ρ (.sc v) x ↔ x = v := by simp only [RelV]
theorem RelV.sc (v : Value) : RelV ρ (.sc v) v := relV_sc.2 rfl
theorem relV_ptr {i k : Nat} {x : Value} : RelV ρ (.ptr i k) x ↔ ∃ a, At ρ i k a ∧ x = .pointer (some a) := by simp only [RelV]
theorem relV_sl {i k n z : Nat} {c : Option Nat} {x : Value} : RelV ρ (.sl i k n z c) x ↔ ∃ a cap, (0 < cap → At ρ i k a ∧ Room ρ i (k + cap * z)) ∧ n ≤ cap ∧ (∀ m, c = some m → cap = m) ∧ x = .slice (some a) n cap := by simp only [RelV]
theorem relV_mp {i : Nat} {x : Value} : RelV ρ (.mp i) x ↔ ∃ b, ρ i = some (b, 0, 0) ∧ x = .map (some b) := by simp only [RelV]
theorem relV_fn {f : Fn} {l m : List AV} {x : Value} : RelV ρ (.fn f l m) x ↔ ∃ xs ys, RelL ρ l xs ∧ RelL ρ m ys ∧ x = .func f xs.toArray ys.toArray := by simp only [RelV]
theorem relV_ifc {t : TypeId} {v : AV} {x : Value} : RelV ρ (.ifc t v) x ↔ ∃ y, RelV ρ v y ∧ x = .iface t y := by simp only [RelV]
theorem relV_agg {l : List AV} {x : Value} : RelV ρ (.agg l) x ↔ ∃ xs, RelL ρ l xs ∧ x = .agg xs.toArray := by simp only [RelV]
theorem relV_tup {l : List AV} {x : Value} : RelV ρ (.tup l) x ↔ ∃ xs, RelL ρ l xs ∧ x = .tuple xs.toArray := by simp only [RelV]
theorem relV_res {k : IntKind} {m r : Nat} {x : Value} : RelV ρ (.res k m r) x ↔ ∃ z : Nat, z < 65536 ∧ z % m = r ∧ x = .int k z := by simp only [RelV]

theorem RelV.cells {v : AV} {x : Value} (h : RelV ρ v x) : RelL ρ v.cells x.cells.toList := by
  have one : ∀ (u : AV) (y : Value), RelV ρ u y → (∀ cs, y ≠ .agg cs) → RelL ρ [u] y.cells.toList := by
    intro u y hu hne
    cases y with
    | agg cs => exact absurd rfl (hne cs)
    | _ => exact RelL.cons hu (RelL.nil_iff.2 rfl)
  cases v with
  | sc v => rw [relV_sc.1 h]; exact RelL.scs _
  | ptr i k => obtain ⟨a, _, rfl⟩ := relV_ptr.1 h; exact one _ _ h (by intros; simp)
  | sl i k n z c => obtain ⟨a, cap, _, _, _, rfl⟩ := relV_sl.1 h; exact one _ _ h (by intros; simp)
  | mp i => obtain ⟨a, _, rfl⟩ := relV_mp.1 h; exact one _ _ h (by intros; simp)
  | fn f l m => obtain ⟨a, _, _, _, rfl⟩ := relV_fn.1 h; exact one _ _ h (by intros; simp)
  | ifc t v => obtain ⟨a, _, rfl⟩ := relV_ifc.1 h; exact one _ _ h (by intros; simp)
  | agg l => obtain ⟨xs, hl, rfl⟩ := relV_agg.1 h; simpa [AV.cells, Value.cells] using hl
  | tup l => obtain ⟨xs, hl, rfl⟩ := relV_tup.1 h; exact one _ _ h (by intros; simp)
  | res k m r => obtain ⟨z, _, _, rfl⟩ := relV_res.1 h; exact one _ _ h (by intros; simp)

/-- A value of one cell is neither an aggregate nor a tuple. -/
def plainV : Value → Prop
  | .agg _ | .tuple _ => False
  | _ => True
theorem RelV.one {v : AV} {x : Value} (h : RelV ρ v x) (ho : v.one = true) : plainV x := by
  cases v with
  | sc v => rw [relV_sc.1 h]; cases v <;> simp_all [AV.one, plainV]
  | ptr i k => obtain ⟨a, _, rfl⟩ := relV_ptr.1 h; trivial
  | sl i k n z c => obtain ⟨a, cap, _, _, _, rfl⟩ := relV_sl.1 h; trivial
  | mp i => obtain ⟨a, _, rfl⟩ := relV_mp.1 h; trivial
  | fn f l m => obtain ⟨a, _, _, _, rfl⟩ := relV_fn.1 h; trivial
  | ifc t v => obtain ⟨a, _, rfl⟩ := relV_ifc.1 h; trivial
  | agg l => simp [AV.one] at ho
  | tup l => simp [AV.one] at ho
  | res k m r => obtain ⟨z, _, _, rfl⟩ := relV_res.1 h; trivial

mutual
theorem RelV.toV : ∀ (v : AV) (x y : Value), RelV ρ v x → v.toV = some y → x = y
  | .sc v, x, y, h, e => by
    have e' : v = y := Option.some.inj e
    rw [relV_sc.1 h, e']
  | .agg l, x, y, h, e => by
    obtain ⟨xs, hl, rfl⟩ := relV_agg.1 h
    simp only [AV.toV] at e
    split at e
    · rename_i vs hvs; cases e; rw [RelL.toVs l xs vs hl hvs]
    · cases e
  | .tup l, x, y, h, e => by
    obtain ⟨xs, hl, rfl⟩ := relV_tup.1 h
    simp only [AV.toV] at e
    split at e
    · rename_i vs hvs; cases e; rw [RelL.toVs l xs vs hl hvs]
    · cases e
  | .ptr _ _, _, _, _, e => by simp [AV.toV] at e
  | .sl _ _ _ _ _, _, _, _, e => by simp [AV.toV] at e
  | .mp _, _, _, _, e => by simp [AV.toV] at e
  | .fn _ _ _, _, _, _, e => by simp [AV.toV] at e
  | .ifc _ _, _, _, _, e => by simp [AV.toV] at e
  | .res _ _ _, _, _, _, e => by simp [AV.toV] at e
theorem RelL.toVs : ∀ (l : List AV) (xs ys : List Value), RelL ρ l xs → Ev.toVs l = some ys → xs = ys
  | [], xs, ys, h, e => by rw [RelL.nil_iff.1 h]; simp only [Ev.toVs, Option.some.injEq] at e; exact e
  | v :: l, xs, ys, h, e => by
    obtain ⟨z, zs, h1, h2, rfl⟩ := h.cons_inv
    simp only [Ev.toVs] at e
    split at e
    · rename_i u hu
      split at e
      · rename_i us hus
        cases e
        rw [RelV.toV v z u h1 hu, RelL.toVs l zs us h2 hus]
      · cases e
    · cases e
end
end values

/-! What asks for nothing but the program. -/
theorem semP_run {α : Type} {P : Program} : ∀ (s : Sem α) (a : α), semP P s = some a → ∀ w, s.run P w = .ok a w
  | .pure b, a, h, w => by cases (show some b = some a from h); rfl
  | .program k, a, h, w => by
    have h' : semP P (k P) = some a := h
    simp only [Sem.run]; exact semP_run (k P) a h' w
  | .load .., _, h, _ | .store .., _, h, _ | .new .., _, h, _ | .shape .., _, h, _ | .freeze .., _, h, _ | .frozen .., _, h, _
  | .getObj .., _, h, _ | .setObj .., _, h, _ | .choose .., _, h, _ | .sys .., _, h, _ | .mark .., _, h, _ | .halt .., _, h, _ => by cases (show none = some _ from h)

end Go.Proofs.Ythlcnklbeolhpaa.Ev

/-! EvHeap -/
namespace Go.Proofs.Ythlcnklbeolhpaa.Ev
open Go Go.RowKit

theorem get_lay (s : Nat) : ∀ (l : List AV) (q : Nat) (t : T (AV × Nat)) (k : Nat),
    (lay s l q t).get k = if q ≤ k ∧ k < q + l.length then (l[k - q]?).map (·, s) else t.get k
  | [], q, t, k => by simp only [lay, List.length_nil, Nat.add_zero]; rw [if_neg (by omega)]
  | v :: l, q, t, k => by
    simp only [lay]
    rw [get_lay s l (q + 1) _ k]
    by_cases h1 : q + 1 ≤ k ∧ k < q + 1 + l.length
    · rw [if_pos h1, if_pos (by simp; omega)]
      have e : k - q = (k - (q + 1)) + 1 := by omega
      rw [e, List.getElem?_cons_succ]
    · rw [if_neg h1]
      by_cases h2 : k = q
      · subst h2
        rw [T.get_put_same, if_pos (by simp)]; simp
      · rw [T.get_put_ne _ _ _ h2, if_neg (by simp; omega)]
theorem get_bump (s : Nat) : ∀ (r q : Nat) (t : T Nat) (k : Nat), (bump s r q t).get k = if q ≤ k ∧ k < q + r then some s else t.get k
  | 0, q, t, k => by simp only [bump]; rw [if_neg (by omega)]
  | r + 1, q, t, k => by
    simp only [bump]
    rw [get_bump s r (q + 1) _ k]
    by_cases h1 : q + 1 ≤ k ∧ k < q + 1 + r
    · rw [if_pos h1, if_pos (by omega)]
    · rw [if_neg h1]
      by_cases h2 : k = q
      · subst h2; rw [T.get_put_same, if_pos (by omega)]
      · rw [T.get_put_ne _ _ _ h2, if_neg (by omega)]

/-- What cell k of a class was stamped s with is still there. -/
def ValidIn (h : T AO) (cls k s : Nat) : Prop := ∃ c lo hi cl w, h.get cls = some (.cells c lo hi cl w) ∧ ∀ s', w.get k = some s' → s' ≤ s

def RelE (ρ : Rho) : List (Value × AV × Nat) → List MapEntry → Prop
  | [], es => es = []
  | (k, v, b) :: l, es => ∃ e es', RelV ρ v e.val ∧ e.key = k ∧ e.born = b ∧ RelE ρ l es' ∧ es = e :: es'

theorem RelE.mono {ρ ρ' : Rho} (hx : Ext ρ ρ') : ∀ {l : List (Value × AV × Nat)} {es : List MapEntry}, RelE ρ l es → RelE ρ' l es
  | [], _, h => h
  | (_, _, _) :: _, _, ⟨e, es', h1, h2, h3, h4, h5⟩ => ⟨e, es', h1.mono hx, h2, h3, RelE.mono hx h4, h5⟩

def RelO (ρ : Rho) (h : T AO) (w : World) (i : Nat) : AO → Prop
  | .cells c lo hi cls _ => ∃ b o e, ρ i = some (b, o, e) ∧ hi ≤ e ∧ ∀ k, lo ≤ k → k < e → ∃ n : Nat, (n : Int) = o + k ∧ w.frozen? ⟨b, n, none⟩ = false ∧
      ∃ x, w.cell? ⟨b, n, none⟩ = some x ∧ ∀ v s, k < hi → c.get k = some (v, s) → ValidIn h cls k s → RelV ρ v x
  | .map es clock => ∃ b, ρ i = some (b, 0, 0) ∧ ∃ es' : Array MapEntry, w.heap[b]? = some (.map es' clock) ∧ RelE ρ es es'.toList

def AO.cls? : AO → Option Nat
  | .cells _ _ _ cls _ => some cls
  | .map .. => none
/-- An object but for the writes of its class. -/
def AO.noW : AO → AO
  | .cells c lo hi cls _ => .cells c lo hi cls .leaf
  | m => m
theorem relO_noW {ρ : Rho} {h : T AO} {w : World} {i : Nat} {o o' : AO} (e : o.noW = o'.noW) (k : RelO ρ h w i o) : RelO ρ h w i o' := by
  cases o <;> cases o' <;> simp only [AO.noW, AO.cells.injEq, AO.map.injEq, reduceCtorEq] at e
  · obtain ⟨rfl, rfl, rfl, rfl, _⟩ := e; exact k
  · obtain ⟨rfl, rfl⟩ := e; exact k
theorem cls_noW {o o' : AO} (e : o.noW = o'.noW) : o.cls? = o'.cls? := by
  cases o <;> cases o' <;> simp only [AO.noW, AO.cells.injEq, AO.map.injEq, reduceCtorEq] at e
  · obtain ⟨rfl, rfl, rfl, rfl, _⟩ := e; rfl
  · rfl

structure RelH (ρ : Rho) (st : St) (w : World) : Prop where
  obj : ∀ i o, st.h.get i = some o → RelO ρ st.h w i o
  dom : ∀ i p, ρ i = some p → i < st.nx ∧ p.1 < w.heap.size
  sep : ∀ i j oi oj p q, st.h.get i = some oi → st.h.get j = some oj → i ≠ j → ρ i = some p → ρ j = some q → p.1 = q.1 →
    ∃ c, oi.cls? = some c ∧ oj.cls? = some c ∧ p.2.1 = q.2.1
  stamp : ∀ i c lo hi cls t, st.h.get i = some (.cells c lo hi cls t) →
    (∃ q, ρ cls = some q) ∧ (∀ k v s, c.get k = some (v, s) → s < st.nx) ∧ (∀ k s, t.get k = some s → s < st.nx)
  pos : 0 < st.nx

theorem RelO.at {ρ : Rho} {h : T AO} {w : World} {i : Nat} {o : AO} (k : RelO ρ h w i o) : ∃ p, ρ i = some p := by
  cases o with
  | cells c lo hi cls t => obtain ⟨b, o, e, h1, _⟩ := k; exact ⟨_, h1⟩
  | map es cl => obtain ⟨b, h1, _⟩ := k; exact ⟨_, h1⟩
theorem RelH.has {ρ : Rho} {st : St} {w : World} (H : RelH ρ st w) {i : Nat} {o : AO} (h : st.h.get i = some o) : i < st.nx := by
  obtain ⟨p, hp⟩ := (H.obj i o h).at
  exact (H.dom i p hp).1

/-- The blocks that the objects of a state stand for. -/
def Img (ρ : Rho) (h : T AO) (b : Nat) : Prop := ∃ j o q, h.get j = some o ∧ ρ j = some q ∧ q.1 = b

/-- What a piece of the run leaves as it was. -/
structure Fr (ρ : Rho) (st : St) (w : World) (ρ' : Rho) (st' : St) (w' : World) : Prop where
  nx : st.nx ≤ st'.nx
  old : ∀ i, i < st.nx → ρ' i = ρ i
  new : ∀ i p, st.nx ≤ i → ρ' i = some p → w.heap.size ≤ p.1 ∨ Img ρ st.h p.1
  ids : ∀ i o, st'.h.get i = some o → i < st.nx → ∃ o', st.h.get i = some o'
  size : w.heap.size ≤ w'.heap.size
  os : w'.os = w.os
  tape : w'.tape = w.tape
  output : w'.output = w.output
  keep : ∀ b, b < w.heap.size → ¬ Img ρ st.h b → w'.heap[b]? = w.heap[b]?
  cls : ∀ i o c, st'.h.get i = some o → o.cls? = some c → c < st.nx → ∃ j o', st.h.get j = some o' ∧ o'.cls? = some c

theorem Fr.refl (ρ : Rho) (st : St) (w : World) (H : RelH ρ st w) : Fr ρ st w ρ st w :=
  ⟨Nat.le_refl _, fun _ _ => rfl, fun i p h e => absurd (H.dom i p e).1 (by omega), fun _ o h _ => ⟨o, h⟩, Nat.le_refl _, rfl, rfl, rfl, fun _ _ _ => rfl, fun i o _ h hc _ => ⟨i, o, h, hc⟩⟩
theorem Fr.drew {ρ : Rho} {st : St} {w : World} {ρ' : Rho} {st' : St} {w' : World} (h : Fr ρ st w.drew ρ' st' w') : Fr ρ st w ρ' st' w' :=
  ⟨h.nx, h.old, h.new, h.ids, h.size, h.os, h.tape, h.output, h.keep, h.cls⟩
theorem Fr.trans {ρ : Rho} {st : St} {w : World} {ρ' : Rho} {st' : St} {w' : World} {ρ'' : Rho} {st'' : St} {w'' : World}
    (h : Fr ρ st w ρ' st' w') (k : Fr ρ' st' w' ρ'' st'' w'') : Fr ρ st w ρ'' st'' w'' := by
  have img : ∀ b, b < w.heap.size → Img ρ' st'.h b → Img ρ st.h b := by
    rintro b hb ⟨j, o, q, h1, h2, rfl⟩
    by_cases hj : j < st.nx
    · obtain ⟨o', ho'⟩ := h.ids j o h1 hj
      exact ⟨j, o', q, ho', by rw [← h.old j hj]; exact h2, rfl⟩
    · rcases h.new j q (by omega) h2 with h3 | h3
      · omega
      · exact h3
  refine ⟨Nat.le_trans h.nx k.nx, fun i hi => by rw [k.old i (by have := h.nx; omega), h.old i hi], fun i p hi hp => ?_, fun i o ho hi => ?_, Nat.le_trans h.size k.size, k.os.trans h.os, k.tape.trans h.tape, k.output.trans h.output, fun b hb hn => ?_, fun i o c ho hc hlt => ?_⟩
  · by_cases hi' : i < st'.nx
    · rw [k.old i hi'] at hp
      exact h.new i p hi hp
    · by_cases hb : p.1 < w.heap.size
      · rcases k.new i p (by omega) hp with h3 | h3
        · have := h.size; omega
        · exact .inr (img _ hb h3)
      · exact .inl (by omega)
  · obtain ⟨o', ho'⟩ := k.ids i o ho (by have := h.nx; omega)
    exact h.ids i o' ho' hi
  · rw [k.keep b (by have := h.size; omega) (fun hi => hn (img b hb hi)), h.keep b hb hn]
  · obtain ⟨j, o', h1, h2⟩ := k.cls i o c ho hc (by have := h.nx; omega)
    exact h.cls j o' c h1 h2 hlt

theorem Fr.ext {ρ : Rho} {st : St} {w : World} {ρ' : Rho} {st' : St} {w' : World} (h : Fr ρ st w ρ' st' w') (H : RelH ρ st w) : Ext ρ ρ' :=
  fun i p e => by rw [h.old i (H.dom i p e).1]; exact e

theorem RelH.drew {ρ : Rho} {st : St} {w : World} (H : RelH ρ st w) : RelH ρ st w.drew := ⟨H.obj, H.dom, H.sep, H.stamp, H.pos⟩

/-- A cell that is read. -/
theorem RelH.rd {ρ : Rho} {st : St} {w : World} (H : RelH ρ st w) {i k : Nat} {v : AV} (e : rdCell st.h i k = some v) {a : Addr} (ha : At ρ i k a) :
    ∃ x, w.cell? a = some x ∧ RelV ρ v x := by
  unfold rdCell at e
  split at e
  case h_2 => cases e
  rename_i c lo hi cls t hg
  obtain ⟨b, o, en, h1, hen, h2⟩ := H.obj i _ hg
  cases hb : (lo.ble k && k.blt hi) with
  | false => rw [hb] at e; cases e
  | true =>
    rw [hb] at e
    simp only [cond_true] at e
    simp only [Bool.and_eq_true, Nat.ble_eq, Nat.blt_eq] at hb
    obtain ⟨n, hn, _, x, hx, hv⟩ := h2 k hb.1 (by omega)
    obtain ⟨b', o', e', h1', hb', hs', ho'⟩ := ha
    rw [h1] at h1'; cases h1'
    have ea : a = ⟨b, n, none⟩ := by
      cases a; simp only at hb' hs' ho'; subst hb'; subst hs'
      congr 1; omega
    refine ⟨x, by rw [ea]; exact hx, ?_⟩
    split at e
    case h_2 => cases e
    rename_i u s hc
    split at e
    case h_2 => cases e
    rename_i c' lo' hi' cl' t' hg'
    split at e
    · rename_i hw; cases e
      exact hv _ _ hb.2 hc ⟨_, _, _, _, _, hg', fun s' h => by rw [hw] at h; cases h⟩
    · rename_i s' hw
      cases hle : s'.ble s with
      | false => rw [hle] at e; cases e
      | true =>
        rw [hle] at e; simp only [cond_true, Option.some.injEq] at e; subst e
        exact hv _ _ hb.2 hc ⟨_, _, _, _, _, hg', fun s'' h => by rw [hw] at h; cases h; exact Nat.le_of_ble_eq_true hle⟩

theorem At.addr {ρ : Rho} {i k : Nat} {a : Addr} (h : At ρ i k a) (j : Nat) : At ρ i (k + j) (a.add j) := by
  obtain ⟨b, o, e, h1, h2, h3, h4⟩ := h
  unfold Addr.add
  by_cases hj : j = 0
  · rw [if_pos hj]; exact ⟨b, o, e, h1, h2, h3, by omega⟩
  · rw [if_neg hj]; exact ⟨b, o, e, h1, h2, rfl, by simp only; omega⟩

theorem RelH.rds {ρ : Rho} {st : St} {w : World} (H : RelH ρ st w) {i : Nat} : ∀ {n k : Nat} {l : List AV}, rdCells st.h i k n = some l → ∀ {a : Addr}, At ρ i k a →
    ∃ xs : List Value, RelL ρ l xs ∧ xs.length = n ∧ ∀ j x, xs[j]? = some x → w.cell? (a.add j) = some x
  | 0, k, l, e, a, _ => by simp only [rdCells, Option.some.injEq] at e; subst e; exact ⟨[], RelL.nil_iff.2 rfl, rfl, fun j x h => by simp at h⟩
  | n + 1, k, l, e, a, ha => by
    simp only [rdCells] at e
    split at e
    case h_2 => cases e
    rename_i v hv
    split at e
    case h_2 => cases e
    rename_i l' hl
    cases e
    obtain ⟨x, hx, hr⟩ := H.rd hv ha
    obtain ⟨xs, h1, h2, h3⟩ := H.rds hl (ha.addr 1)
    refine ⟨x :: xs, RelL.cons hr h1, by simp [h2], fun j y hj => ?_⟩
    cases j with
    | zero => simp at hj; subst hj; simpa [Addr.add] using hx
    | succ j =>
      have := h3 j y (by simpa using hj)
      have e2 : (a.add 1).add j = a.add (j + 1) := by
        unfold Addr.add
        by_cases hj0 : j = 0
        · subst hj0; simp
        · simp [hj0]; omega
      rw [e2] at this; exact this
end Go.Proofs.Ythlcnklbeolhpaa.Ev

/-! EvWr -/
namespace Go.Proofs.Ythlcnklbeolhpaa.Ev
open Go Go.RowKit

theorem off_ne {b n m : Nat} (h : n ≠ m) : (⟨b, n, none⟩ : Addr) ≠ ⟨b, m, none⟩ := fun e => h (congrArg Addr.off e)

/-- The world's cells stand as they stood, but those of the class 'cls' at the places that 'hit' names: a state behind a write. -/
theorem RelH.written {ρ : Rho} {st : St} {w : World} (H : RelH ρ st w) {h' : T AO} {w' : World} {i cls : Nat} {hit : Nat → Prop}
    {c : T (AV × Nat)} {lo hi : Nat} {t : T Nat} (hi0 : st.h.get i = some (.cells c lo hi cls t)) {b : Nat} {o : Int} {en : Nat} (hp : ρ i = some (b, o, en))
    -- the objects, but for i: as they were
    (hoth : ∀ j ob', j ≠ i → h'.get j = some ob' → ∃ ob, st.h.get j = some ob ∧ ob.noW = ob'.noW)
    (hstamp : ∀ j c' lo' hi' cl' t', h'.get j = some (.cells c' lo' hi' cl' t') → (∃ q, ρ cl' = some q) ∧ (∀ k v s, c'.get k = some (v, s) → s < st.nx + 1) ∧ (∀ k s, t'.get k = some s → s < st.nx + 1))
    (hclass : ∀ k s, hit k → ValidIn h' cls k s → st.nx ≤ s)
    (hvalid : ∀ cl k s, ValidIn h' cl k s → ValidIn st.h cl k s)
    -- the world
    (hsize : w'.heap.size = w.heap.size)
    (hblock : ∀ b', b' ≠ b → w'.heap[b']? = w.heap[b']?)
    (hfroz : ∀ a, w'.frozen? a = w.frozen? a)
    (hcell : ∀ (n k : Nat), (n : Int) = o + k → ¬ hit k → w'.cell? ⟨b, n, none⟩ = w.cell? ⟨b, n, none⟩)
    (hsome : ∀ (n : Nat), (w.cell? ⟨b, n, none⟩).isSome → (w'.cell? ⟨b, n, none⟩).isSome)
    -- the object i
    {ob' : AO} (hob : h'.get i = some ob') (hcls : ob'.cls? = some cls) (hself : RelO ρ h' w' i ob') :
    RelH ρ ⟨h', st.nx + 1⟩ w' := by
  have keep : ∀ j ob, j ≠ i → st.h.get j = some ob → RelO ρ h' w' j ob := by
    intro j ob hj hg
    have K := H.obj j ob hg
    cases ob with
    | map es clock =>
      obtain ⟨b2, h1, es', h2, h3⟩ := K
      refine ⟨b2, h1, es', ?_, h3⟩
      by_cases hb : b2 = b
      · obtain ⟨c', hc', _⟩ := H.sep j i _ _ _ _ hg hi0 hj h1 hp hb
        simp [AO.cls?] at hc'
      · rw [hblock _ hb]; exact h2
    | cells c2 lo2 hi2 cls2 t2 =>
      obtain ⟨b2, o2, e2, h1, he2, h2⟩ := K
      refine ⟨b2, o2, e2, h1, he2, fun k hk1 hk2 => ?_⟩
      obtain ⟨n, hn, hf, x, hx, hv⟩ := h2 k hk1 hk2
      refine ⟨n, hn, by rw [hfroz]; exact hf, ?_⟩
      by_cases hb : b2 = b
      · subst hb
        obtain ⟨c', hc1, hc2, ho⟩ := H.sep j i _ _ _ _ hg hi0 hj h1 hp rfl
        simp only [AO.cls?, Option.some.injEq] at hc1 hc2
        have ho' : o2 = o := ho
        subst ho'; subst hc1; subst hc2
        by_cases hk : hit k
        · obtain ⟨y, hy⟩ := Option.isSome_iff_exists.1 (hsome n (by rw [hx]; rfl))
          refine ⟨y, hy, fun v s _ hc hval => ?_⟩
          have := hclass k s hk hval
          have := (H.stamp j _ _ _ _ _ hg).2.1 k v s hc
          omega
        · exact ⟨x, by rw [hcell n k hn hk]; exact hx, fun v s hh hc hval => hv v s hh hc (hvalid _ _ _ hval)⟩
      · refine ⟨x, ?_, fun v s hh hc hval => hv v s hh hc (hvalid _ _ _ hval)⟩
        rw [World.cell?_of_block (w := w) (hblock b2 hb)]; exact hx
  refine ⟨fun j ob hg => ?_, fun j p hjp => ?_, fun j k oj ok p q hj hk hne h1 h2 h3 => ?_, hstamp, Nat.succ_pos _⟩
  · by_cases hj : j = i
    · subst hj; rw [hob] at hg; cases hg; exact hself
    · obtain ⟨ob0, hg0, he⟩ := hoth j ob hj hg
      exact relO_noW he (keep j ob0 hj hg0)
  · have := H.dom j p hjp; rw [hsize]; exact ⟨Nat.lt_succ_of_lt this.1, this.2⟩
  · have get : ∀ m om, h'.get m = some om → ∃ om0, st.h.get m = some om0 ∧ om0.cls? = om.cls? := by
      intro m om hm
      by_cases hmi : m = i
      · subst hmi; rw [hob] at hm; cases hm; exact ⟨_, hi0, hcls.symm⟩
      · obtain ⟨ob0, hg0, he⟩ := hoth m om hmi hm
        exact ⟨ob0, hg0, cls_noW he⟩
    obtain ⟨oj0, hj0, ej⟩ := get j oj hj
    obtain ⟨ok0, hk0, ek⟩ := get k ok hk
    obtain ⟨c', hc1, hc2, ho⟩ := H.sep j k _ _ _ _ hj0 hk0 hne h1 h2 h3
    exact ⟨c', by rw [← ej]; exact hc1, by rw [← ek]; exact hc2, ho⟩

theorem wrCell_spec {st st' : St} {i k : Nat} {v : AV} (e : wrCell st i k v = some st') :
    ∃ c lo hi cls t, st.h.get i = some (.cells c lo hi cls t) ∧ lo ≤ k ∧ k < hi ∧ v.one = true ∧ st'.nx = st.nx + 1 ∧
      (∃ t', st'.h.get i = some (.cells (c.put k (v, st.nx)) lo hi cls t') ∧ (t' = t ∨ t' = t.put k st.nx)) ∧
      (∃ c' lo' hi' cl' u, st.h.get cls = some (.cells c' lo' hi' cl' u) ∧ ∃ c2 lo2 hi2 cl2, st'.h.get cls = some (.cells c2 lo2 hi2 cl2 (u.put k st.nx)) ∧
        (cls ≠ i → c2 = c' ∧ lo2 = lo' ∧ hi2 = hi' ∧ cl2 = cl')) ∧
      (∀ j, j ≠ i → j ≠ cls → st'.h.get j = st.h.get j) := by
  unfold wrCell at e
  split at e
  case h_2 => cases e
  rename_i c lo hi cls t hg
  cases hb : (lo.ble k && k.blt hi && v.one) with
  | false => rw [hb] at e; cases e
  | true =>
    rw [hb] at e; simp only [cond_true] at e
    simp only [Bool.and_eq_true, Nat.ble_eq, Nat.blt_eq] at hb
    refine ⟨c, lo, hi, cls, t, hg, hb.1.1, hb.1.2, hb.2, ?_⟩
    cases hc : cls.beq i with
    | true =>
      rw [hc] at e; simp only [cond_true, Option.some.injEq] at e
      have hci : cls = i := Nat.eq_of_beq_eq_true hc
      subst hci; subst e
      exact ⟨rfl, ⟨_, T.get_put_same _ _ _, .inr rfl⟩, ⟨c, lo, hi, cls, t, hg, _, _, _, _, T.get_put_same _ _ _, fun h => absurd rfl h⟩, fun j h _ => T.get_put_ne _ _ _ h⟩
    | false =>
      rw [hc] at e; simp only [cond_false] at e
      have hci : cls ≠ i := Nat.ne_of_beq_eq_false hc
      split at e
      case h_2 => cases e
      rename_i c' lo' hi' cl' u hg'
      simp only [Option.some.injEq] at e
      subst e
      refine ⟨rfl, ⟨_, T.get_put_same _ _ _, .inl rfl⟩, ⟨c', lo', hi', cl', u, hg', c', lo', hi', cl', ?_, fun _ => ⟨rfl, rfl, rfl, rfl⟩⟩, fun j h1 h2 => ?_⟩
      · rw [T.get_put_ne _ _ _ hci, T.get_put_same]
      · rw [T.get_put_ne _ _ _ h1, T.get_put_ne _ _ _ h2]

/-- A cell that is written. -/
theorem RelH.wr {ρ : Rho} {st st' : St} {w : World} (H : RelH ρ st w) {i k : Nat} {v : AV} (e : wrCell st i k v = some st') {a : Addr} (ha : At ρ i k a)
    {x : Value} (hx : RelV ρ v x) : (∃ y, w.cell? a = some y) ∧ w.frozen? a = false ∧ v.one = true ∧ RelH ρ st' (w.setCell a x) ∧ Fr ρ st w ρ st' (w.setCell a x) := by
  obtain ⟨c, lo, hi, cls, t, hg, hlo, hhi, hone, hnx, ⟨t', hg', ht'⟩, ⟨c', lo', hi', cl', u, hroot, c2, lo2, hi2, cl2, hroot', hsame⟩, hoth⟩ := wrCell_spec e
  obtain ⟨b, o, en, hp, hen, hcells⟩ := H.obj i _ hg
  obtain ⟨b', o', en', hp', hb', hs', ho'⟩ := ha
  rw [hp] at hp'; cases hp'
  obtain ⟨n, hn, hf, y, hy, _⟩ := hcells k hlo (by omega)
  have ea : a = ⟨b, n, none⟩ := by
    cases a; simp only at hb' hs' ho'; subst hb'; subst hs'
    congr 1; omega
  subst ea
  have hst' : st' = ⟨st'.h, st.nx + 1⟩ := by cases st'; simp only at hnx; rw [hnx]
  have hval : ∀ cl q s, ValidIn st'.h cl q s → ValidIn st.h cl q s := by
    rintro cl q s ⟨d, l2, h2, k2, r, hr, hrs⟩
    by_cases hcl : cl = cls
    · subst hcl
      rw [hroot'] at hr; cases hr
      refine ⟨_, _, _, _, _, hroot, fun s' hs' => ?_⟩
      by_cases hq : q = k
      · subst hq
        have h1 := hrs st.nx (T.get_put_same _ _ _)
        have h2 := (H.stamp _ _ _ _ _ _ hroot).2.2 _ _ hs'
        omega
      · exact hrs s' (by rw [T.get_put_ne _ _ _ hq]; exact hs')
    · by_cases hci : cl = i
      · subst hci
        rw [hg'] at hr; cases hr
        refine ⟨_, _, _, _, _, hg, fun s' hs' => ?_⟩
        rcases ht' with rfl | rfl
        · exact hrs s' hs'
        · by_cases hq : q = k
          · subst hq
            have h1 := hrs st.nx (T.get_put_same _ _ _)
            have h2 := (H.stamp _ _ _ _ _ _ hg).2.2 _ _ hs'
            omega
          · exact hrs s' (by rw [T.get_put_ne _ _ _ hq]; exact hs')
      · exact ⟨d, l2, h2, k2, r, by rw [← hoth cl hci hcl]; exact hr, hrs⟩
  have hcl : ∀ q s, q = k → ValidIn st'.h cls q s → st.nx ≤ s := by
    rintro q s rfl ⟨d, l2, h2, k2, r, hr, hrs⟩
    rw [hroot'] at hr; cases hr
    exact hrs _ (T.get_put_same _ _ _)
  refine ⟨⟨y, hy⟩, hf, hone, ?_, ?_⟩
  · rw [hst']
    refine H.written (hit := fun q => q = k) hg hp (fun j ob hj hgj => ?_) (fun j d l2 h2 k2 r hgj => ?_) hcl hval (by simp) (fun b2 hb2 => Below.heap_setCell _ _ _ _ hb2) (fun _ => by simp)
      (fun m q hm hq => World.cell?_setCell_other _ _ _ _ (off_ne (by omega))) (fun m hm => ?_) hg' rfl ?_
    · by_cases hjc : j = cls
      · subst hjc
        rw [hroot'] at hgj; cases hgj
        obtain ⟨e1, e2, e3, e4⟩ := hsame hj
        exact ⟨_, hroot, by subst e1; subst e2; subst e3; subst e4; rfl⟩
      · exact ⟨ob, by rw [← hoth j hj hjc]; exact hgj, rfl⟩
    · have base : ∀ (d : T (AV × Nat)), (d = c.put k (v, st.nx) ∨ ∀ q v s, d.get q = some (v, s) → s < st.nx) → ∀ q v s, d.get q = some (v, s) → s < st.nx + 1 := by
        rintro d hd q v2 s hs
        rcases hd with rfl | hd
        · by_cases hq : q = k
          · subst hq; rw [T.get_put_same] at hs; cases hs; omega
          · rw [T.get_put_ne _ _ _ hq] at hs; have := (H.stamp _ _ _ _ _ _ hg).2.1 _ _ _ hs; omega
        · have := hd q v2 s hs; omega
      have baseT : ∀ (r0 r : T Nat), (∀ q s, r0.get q = some s → s < st.nx) → (r = r0 ∨ r = r0.put k st.nx) → ∀ q s, r.get q = some s → s < st.nx + 1 := by
        rintro r0 r h0 (rfl | rfl) q s hs
        · have := h0 q s hs; omega
        · by_cases hq : q = k
          · subst hq; rw [T.get_put_same] at hs; cases hs; omega
          · rw [T.get_put_ne _ _ _ hq] at hs; have := h0 _ _ hs; omega
      by_cases hj : j = i
      · subst hj
        rw [hg'] at hgj; cases hgj
        have S := H.stamp _ _ _ _ _ _ hg
        exact ⟨S.1, base _ (.inl rfl), baseT _ _ S.2.2 ht'⟩
      · by_cases hjc : j = cls
        · subst hjc
          rw [hroot'] at hgj; cases hgj
          obtain ⟨e1, e2, e3, e4⟩ := hsame hj
          subst e1; subst e2; subst e3; subst e4
          have S := H.stamp _ _ _ _ _ _ hroot
          exact ⟨S.1, base _ (.inr S.2.1), baseT _ _ S.2.2 (.inr rfl)⟩
        · rw [hoth j hj hjc] at hgj
          have S := H.stamp _ _ _ _ _ _ hgj
          exact ⟨S.1, base _ (.inr S.2.1), baseT _ _ S.2.2 (.inl rfl)⟩
    · by_cases hmn : m = n
      · subst hmn; rw [World.cell?_setCell_same _ _ _ hy]; rfl
      · rw [World.cell?_setCell_other _ _ _ _ (off_ne (by omega))]; exact hm
    · refine ⟨b, o, en, hp, hen, fun q hq1 hq2 => ?_⟩
      obtain ⟨m, hm, hmf, z, hz, hzv⟩ := hcells q hq1 hq2
      refine ⟨m, hm, by simpa using hmf, ?_⟩
      by_cases hq : q = k
      · subst hq
        have : m = n := by omega
        subst this
        refine ⟨x, World.cell?_setCell_same _ _ _ hy, fun v2 s _ hs _ => ?_⟩
        rw [T.get_put_same] at hs; cases hs; exact hx
      · refine ⟨z, by rw [World.cell?_setCell_other _ _ _ _ (off_ne (by omega))]; exact hz, fun v2 s hh hs hvl => ?_⟩
        rw [T.get_put_ne _ _ _ hq] at hs
        exact hzv v2 s hh hs (hval _ _ _ hvl)
  · refine ⟨by omega, fun _ _ => rfl, fun j p h1 h2 => absurd (H.dom j p h2).1 (by omega), fun j ob hgj _ => ?_, by simp, rfl, rfl, rfl, fun b2 _ hb2 => Below.heap_setCell _ _ _ _ (fun e2 => hb2 ⟨i, _, _, hg, hp, e2.symm⟩), fun j ob c2 hgj hc2 _ => ?_⟩
    · by_cases hj : j = i
      · subst hj; exact ⟨_, hg⟩
      · by_cases hjc : j = cls
        · subst hjc; exact ⟨_, hroot⟩
        · exact ⟨ob, by rw [← hoth j hj hjc]; exact hgj⟩
    · by_cases hj : j = i
      · subst hj; rw [hg'] at hgj; cases hgj; exact ⟨j, _, hg, hc2⟩
      · by_cases hjc : j = cls
        · subst hjc
          rw [hroot'] at hgj; cases hgj
          obtain ⟨e1, e2, e3, e4⟩ := hsame hj
          subst e4
          exact ⟨j, _, hroot, hc2⟩
        · exact ⟨j, ob, by rw [← hoth j hj hjc]; exact hgj, hc2⟩
end Go.Proofs.Ythlcnklbeolhpaa.Ev

/-! EvNew -/
namespace Go.Proofs.Ythlcnklbeolhpaa.Ev
open Go Go.RowKit

def upd (ρ : Rho) (i : Nat) (p : Nat × Int × Nat) : Rho := fun j => if j = i then some p else ρ j
theorem upd_same (ρ : Rho) (i : Nat) (p : Nat × Int × Nat) : upd ρ i p i = some p := if_pos rfl
theorem upd_ne (ρ : Rho) {i j : Nat} (p : Nat × Int × Nat) (h : j ≠ i) : upd ρ i p j = ρ j := if_neg h
theorem ext_upd {ρ : Rho} {i : Nat} (p : Nat × Int × Nat) (h : ρ i = none) : Ext ρ (upd ρ i p) := fun j q e => by
  by_cases hj : j = i
  · subst hj; rw [h] at e; cases e
  · rw [upd_ne _ _ hj]; exact e

/-- A relation stays where the map is larger, the world is larger, and validity has not grown. -/
theorem RelO.mono {ρ ρ' : Rho} {h h' : T AO} {w w' : World} {i : Nat} {o : AO} (K : RelO ρ h w i o) (hx : Ext ρ ρ')
    (hb : ∀ p, ρ i = some p → w'.heap[p.1]? = w.heap[p.1]?) (hv : ∀ cl k s, o.cls? = some cl → ValidIn h' cl k s → ValidIn h cl k s) : RelO ρ' h' w' i o := by
  cases o with
  | map es clock =>
    obtain ⟨b, h1, es', h2, h3⟩ := K
    exact ⟨b, hx _ _ h1, es', by rw [← h2]; exact hb _ h1, h3.mono hx⟩
  | cells c lo hi cls t =>
    obtain ⟨b, o, e, h1, he, h2⟩ := K
    refine ⟨b, o, e, hx _ _ h1, he, fun k k1 k2 => ?_⟩
    obtain ⟨n, hn, hf, x, hxx, hvv⟩ := h2 k k1 k2
    refine ⟨n, hn, ?_, x, ?_, fun v s hh hc hval => RelV.mono hx _ _ (hvv v s hh hc (hv cls k s rfl hval))⟩
    · rw [World.frozen?_of_block (w := w) (hb _ h1)]; exact hf
    · rw [World.cell?_of_block (w := w) (hb _ h1)]; exact hxx

/-- An object laid anew, number i. -/
theorem RelH.new {ρ : Rho} {st : St} {w w' : World} (H : RelH ρ st w) {i n' : Nat} (hnone : ρ i = none) (hin : i < n') (hnn : st.nx ≤ n') {ao : AO} {p : Nat × Int × Nat}
    (B : Below w.heap.size w w') (hp : w.heap.size ≤ p.1) (hp' : p.1 < w'.heap.size)
    (hself : RelO (upd ρ i p) (st.h.put i ao) w' i ao)
    (hst : ∀ c lo hi cls t, ao = .cells c lo hi cls t → (cls = i ∨ ∃ q, ρ cls = some q) ∧ (∀ k v s, c.get k = some (v, s) → s < n') ∧ (∀ k s, t.get k = some s → s < n')) :
    RelH (upd ρ i p) ⟨st.h.put i ao, n'⟩ w' := by
  have hx : Ext ρ (upd ρ i p) := ext_upd p hnone
  have get : ∀ j o, j ≠ i → (st.h.put i ao).get j = some o → st.h.get j = some o := fun j o hj h => by rw [T.get_put_ne _ _ _ hj] at h; exact h
  refine ⟨fun j o hg => ?_, fun j q hq => ?_, fun j k oj ok q r hj hk hjk h1 h2 h3 => ?_, fun j c lo hi cls t hg => ?_, Nat.lt_of_lt_of_le H.pos hnn⟩
  · by_cases hj : j = i
    · subst hj; simp only [T.get_put_same, Option.some.injEq] at hg; subst hg; exact hself
    · have hg' := get j o hj hg
      refine (H.obj j o hg').mono hx (fun q hq => B.block _ (H.dom _ _ hq).2) (fun cl k s hcl => ?_)
      rintro ⟨d, l2, h2, k2, r, hr, hrs⟩
      have : cl ≠ i := by
        rintro rfl
        cases o with
        | map _ _ => simp [AO.cls?] at hcl
        | cells c lo hi cls t =>
          simp only [AO.cls?, Option.some.injEq] at hcl
          obtain ⟨q, hq⟩ := (H.stamp _ _ _ _ _ _ hg').1
          rw [hcl, hnone] at hq; cases hq
      exact ⟨d, l2, h2, k2, r, get cl _ this hr, hrs⟩
  · by_cases hj : j = i
    · subst hj; rw [upd_same] at hq; cases hq; exact ⟨hin, hp'⟩
    · rw [upd_ne _ _ hj] at hq
      have := H.dom j q hq
      exact ⟨Nat.lt_of_lt_of_le this.1 hnn, Nat.lt_of_lt_of_le this.2 B.size⟩
  · have low : ∀ m om s, m ≠ i → upd ρ i p m = some s → (st.h.put i ao).get m = some om → ρ m = some s ∧ st.h.get m = some om ∧ s.1 < w.heap.size := by
      intro m om s hm hs hg
      rw [upd_ne _ _ hm] at hs
      exact ⟨hs, get m om hm hg, (H.dom _ _ hs).2⟩
    by_cases hj' : j = i
    · subst hj'
      rw [upd_same] at h1; cases h1
      have := (low k ok r (fun e => hjk e.symm) h2 hk).2.2
      omega
    · obtain ⟨a1, a2, a3⟩ := low j oj q hj' h1 hj
      by_cases hk' : k = i
      · subst hk'
        rw [upd_same] at h2; cases h2
        omega
      · obtain ⟨b1, b2, b3⟩ := low k ok r hk' h2 hk
        exact H.sep j k oj ok q r a2 b2 hjk a1 b1 h3
  · by_cases hj : j = i
    · subst hj; simp only [T.get_put_same, Option.some.injEq] at hg
      obtain ⟨h1, h2, h3⟩ := hst _ _ _ _ _ hg
      rcases h1 with h1 | ⟨q, hq⟩
      · exact ⟨⟨p, by rw [h1]; exact upd_same _ _ _⟩, h2, h3⟩
      · exact ⟨⟨q, hx _ _ hq⟩, h2, h3⟩
    · have S := H.stamp _ _ _ _ _ _ (get j _ hj hg)
      obtain ⟨q, hq⟩ := S.1
      exact ⟨⟨q, hx _ _ hq⟩, fun k v s h => Nat.lt_of_lt_of_le (S.2.1 k v s h) hnn, fun k s h => Nat.lt_of_lt_of_le (S.2.2 k s h) hnn⟩

theorem Fr.fresh {ρ0 : Rho} {st0 : St} {w0 : World} {ρ : Rho} {st : St} {w w' : World} (F : Fr ρ0 st0 w0 ρ st w) {i n' : Nat} (hi : st0.nx ≤ i) (hnn : st.nx ≤ n') (ao : AO) (hcl : ∀ c, ao.cls? = some c → c = i) {p : Nat × Int × Nat}
    (B : Below w.heap.size w w') (hp : w.heap.size ≤ p.1) : Fr ρ0 st0 w0 (upd ρ i p) ⟨st.h.put i ao, n'⟩ w' := by
  refine ⟨Nat.le_trans F.nx hnn, fun j hj => by rw [upd_ne _ _ (by omega)]; exact F.old j hj, fun j q hj hq => ?_, fun j o hg hj => ?_, Nat.le_trans F.size B.size, B.os.trans F.os, B.tape.trans F.tape, B.output.trans F.output,
    fun b hb hn => by rw [B.block b (Nat.lt_of_lt_of_le hb F.size)]; exact F.keep b hb hn, fun j o c hg hc hlt => ?_⟩
  · by_cases hji : j = i
    · subst hji; rw [upd_same] at hq; cases hq; exact .inl (Nat.le_trans F.size hp)
    · rw [upd_ne _ _ hji] at hq; exact F.new j q hj hq
  · have hji : j ≠ i := by omega
    simp only [T.get_put_ne _ _ _ hji] at hg
    exact F.ids j o hg hj
  · by_cases hji : j = i
    · subst hji
      simp only [T.get_put_same, Option.some.injEq] at hg; subst hg
      have := hcl c hc
      omega
    · simp only [T.get_put_ne _ _ _ hji] at hg
      exact F.cls j o c hg hc hlt

theorem RelH.none_nx {ρ : Rho} {st : St} {w : World} (H : RelH ρ st w) {i : Nat} (hi : st.nx ≤ i) : ρ i = none := by
  cases h : ρ i with
  | none => rfl
  | some q => have := (H.dom _ _ h).1; omega

theorem allOne_get : ∀ {l : List AV}, allOne l = true → ∀ (i : Nat) (v : AV), l[i]? = some v → v.one = true
  | [], _, i, v, h => by simp at h
  | u :: l, e, i, v, h => by
    simp only [allOne, Bool.and_eq_true] at e
    cases i with
    | zero => simp at h; subst h; exact e.1
    | succ i => exact allOne_get e.2 i v (by simpa using h)

theorem rowOf_cls {i : Nat} {l : List AV} {ao : AO} (e : rowOf i l = some ao) : ∀ c, ao.cls? = some c → c = i := by
  unfold rowOf at e
  cases ho : allOne l with
  | false => rw [ho] at e; cases e
  | true =>
    rw [ho] at e; simp only [cond_true, Option.some.injEq] at e
    subst e
    intro c hc
    simp only [AO.cls?, Option.some.injEq] at hc
    exact hc.symm

/-- A new row of cells. -/
theorem RelH.row {ρ : Rho} {st : St} {w : World} (H : RelH ρ st w) {i n' : Nat} (hnone : ρ i = none) (hin : i < n') (hnn : st.nx ≤ n') {l : List AV} {ao : AO} (e : rowOf i l = some ao) {xs : List Value} (hl : RelL ρ l xs)
    (more : List Value) (t : TypeId) : RelH (upd ρ i (w.heap.size, 0, (xs ++ more).length)) ⟨st.h.put i ao, n'⟩ (w.alloc (.cells (xs ++ more).toArray t)) := by
  unfold rowOf at e
  cases ho : allOne l with
  | false => rw [ho] at e; cases e
  | true =>
    rw [ho] at e; simp only [cond_true, Option.some.injEq] at e
    have hx : Ext ρ (upd ρ i (w.heap.size, (0 : Int), (xs ++ more).length)) := ext_upd _ hnone
    refine H.new hnone hin hnn ((Below.refl _ _).alloc (Nat.le_refl _) _) (Nat.le_refl _) (by simp) ?_ ?_
    · subst e
      have hlen := hl.length
      refine ⟨w.heap.size, 0, (xs ++ more).length, upd_same _ _ _, by simp; omega, fun k _ hk => ?_⟩
      refine ⟨k, by omega, by simp, (xs ++ more)[k], ?_, fun v s hh hc _ => ?_⟩
      · rw [World.cell?_alloc_new]; simp
      · have hk' : k < xs.length := by omega
        rw [get_lay] at hc
        rw [if_pos ⟨Nat.zero_le _, by omega⟩] at hc
        simp only [Nat.sub_zero, Option.map_eq_some_iff] at hc
        obtain ⟨u, hu, huv⟩ := hc
        cases huv
        obtain ⟨x, hx1, hx2⟩ := hl.get k _ hu
        rw [List.getElem?_eq_getElem hk'] at hx1
        cases hx1
        rw [List.getElem_append_left hk']
        exact RelV.mono hx _ _ hx2
    · intro c lo hi cls t' hao
      subst e
      simp only [AO.cells.injEq] at hao
      obtain ⟨rfl, rfl, rfl, rfl, rfl⟩ := hao
      refine ⟨.inl rfl, fun k v s hc => ?_, fun k s hc => by simp [T.get_leaf] at hc⟩
      rw [get_lay] at hc
      split at hc
      · simp only [Option.map_eq_some_iff] at hc
        obtain ⟨u, hu, huv⟩ := hc; cases huv; omega
      · simp [T.get_leaf] at hc

/-- Many cells are written. -/
theorem RelH.wrs {ρ : Rho} : ∀ {l : List AV} {st st' : St} {w : World} (_ : RelH ρ st w) {i k : Nat} (_ : wrCells st i k l = some st') {a : Addr} (_ : At ρ i k a) {xs : List Value} (_ : RelL ρ l xs) (P : Program) (j : Nat) (a0 : Addr) (_ : a = a0.add j),
    ∃ w', (storeCells a0 xs j).run P w = .ok () w' ∧ RelH ρ st' w' ∧ Fr ρ st w ρ st' w'
  | [], st, st', w, H, i, k, e, a, ha, xs, hl, P, j, a0, _ => by
    simp only [wrCells, Option.some.injEq] at e; subst e
    rw [RelL.nil_iff.1 hl]
    exact ⟨w, rfl, H, Fr.refl _ _ _ H⟩
  | v :: l, st, st', w, H, i, k, e, a, ha, xs, hl, P, j, a0, hj => by
    simp only [wrCells] at e
    split at e
    case h_2 => cases e
    rename_i st1 h1
    obtain ⟨x, ys, hv, hys, rfl⟩ := hl.cons_inv
    obtain ⟨⟨y, hy⟩, hf, hone, H1, F1⟩ := H.wr h1 ha hv
    have ha' : At ρ i (k + 1) (a0.add (j + 1)) := by
      have := ha.addr 1
      rw [hj] at this
      have e2 : (a0.add j).add 1 = a0.add (j + 1) := by
        unfold Addr.add
        by_cases hj0 : j = 0
        · subst hj0; simp
        · simp [hj0]; omega
      rw [e2] at this; exact this
    obtain ⟨w', hr, H2, F2⟩ := RelH.wrs H1 e ha' hys P (j + 1) a0 rfl
    refine ⟨w', ?_, H2, F1.trans F2⟩
    have hp := hv.one hone
    have hone' : x.oneCell' = true := by cases x <;> first | rfl | exact hp.elim
    unfold storeCells
    rw [Sem.run_bind, run_store P w _ _ _ hone', ← hj, hy]
    simp only [hf, Bool.false_eq_true, if_false, Result.andThen_ok]
    exact hr
end Go.Proofs.Ythlcnklbeolhpaa.Ev

/-! EvQ1 -/
namespace Go.Proofs.Ythlcnklbeolhpaa.Ev
open Go Go.RowKit

def EvOk (ρ : Rho) (ev : Operand → Option AV) (f : Operand → Value) : Prop := ∀ x v, ev x = some v → RelV ρ v (f x)

theorem run_v {P : Program} {s : Sem Value} {y : Value} {w w' : World} (h : s.run P w = .ok y w') :
    (do let a ← s; pure (Next.value a) : Sem Next).run P w = .ok (.value y) w' := by
  rw [Sem.run_bind, h]; rfl
theorem run_u {P : Program} {s : Sem Unit} {w w' : World} (h : s.run P w = .ok () w') :
    (do s; pure Next.skip : Sem Next).run P w = .ok .skip w' := by
  rw [Sem.run_bind, h]; rfl

section
variable {P : Program} {ρ : Rho} {ev : Operand → Option AV} {f : Operand → Value}

theorem evXs_sound (E : EvOk ρ ev f) : ∀ {l : List Operand} {vs : List AV}, evXs ev l = some vs → RelL ρ vs (l.map f)
  | [], _, e => by simp only [evXs, Option.some.injEq] at e; subst e; exact RelL.nil_iff.2 rfl
  | x :: l, _, e => by
    simp only [evXs] at e
    split at e
    case h_2 => cases e
    rename_i v hv
    split at e
    case h_2 => cases e
    rename_i us hus
    cases e
    exact RelL.cons (E x v hv) (evXs_sound E hus)

/-- Parts of a literal. -/
def RelP (ρ : Rho) : List (Nat × AV) → List (Nat × Value) → Prop
  | [], ps => ps = []
  | (i, v) :: l, ps => ∃ y qs, RelV ρ v y ∧ RelP ρ l qs ∧ ps = (i, y) :: qs
theorem evPs_sound (E : EvOk ρ ev f) : ∀ {l : List (Nat × Operand)} {vs : List (Nat × AV)}, evPs ev l = some vs → RelP ρ vs (l.map fun (i, x) => (i, f x))
  | [], _, e => by simp only [evPs, Option.some.injEq] at e; subst e; rfl
  | (i, x) :: l, _, e => by
    simp only [evPs] at e
    split at e
    case h_2 => cases e
    rename_i v hv
    split at e
    case h_2 => cases e
    rename_i us hus
    cases e
    exact ⟨_, _, E x v hv, evPs_sound E hus, rfl⟩

def setVs (k : Nat) : List Value → List Value → List Value
  | [], cs => cs
  | v :: l, cs => setVs (k + 1) l (cs.set k v)
theorem setAll_sound : ∀ {l : List AV} {xs : List Value} (_ : RelL ρ l xs) (k : Nat) {cs : List AV} {ys : List Value} (_ : RelL ρ cs ys), RelL ρ (setAll k l cs) (setVs k xs ys)
  | [], _, h, k, _, _, hc => by rw [RelL.nil_iff.1 h]; exact hc
  | v :: l, _, h, k, _, _, hc => by
    obtain ⟨y, zs, h1, h2, rfl⟩ := h.cons_inv
    exact setAll_sound h2 (k + 1) (hc.set h1 k)
theorem foldl_setVs (off : Nat) : ∀ (l : List Value) (s : Nat) (cs : Array Value),
    ((l.zipIdx s).foldl (fun (cs : Array Value) (p : Value × Nat) => cs.setIfInBounds (off + p.2) p.1) cs).toList = setVs (off + s) l cs.toList
  | [], s, cs => rfl
  | v :: l, s, cs => by
    simp only [List.zipIdx_cons, List.foldl_cons]
    rw [foldl_setVs off l (s + 1) _]
    simp only [setVs, Array.toList_setIfInBounds, Nat.add_assoc]
theorem fillA_sound {place : Nat → Option (Nat × Nat)} : ∀ {ps : List (Nat × AV)} {qs : List (Nat × Value)} (_ : RelP ρ ps qs) {cs r : List AV} {ys : Array Value} (_ : RelL ρ cs ys.toList),
    fillA place cs ps = some r → ∃ zs : Array Value, Instr.fill place ys qs = some zs ∧ RelL ρ r zs.toList
  | [], _, h, cs, r, ys, hc, e => by
    simp only [fillA, Option.some.injEq] at e; subst e
    have h' : _ = ([] : List (Nat × Value)) := h
    subst h'
    exact ⟨ys, rfl, hc⟩
  | (i, v) :: ps, _, h, cs, r, ys, hc, e => by
    obtain ⟨y, qs, hv, hq, rfl⟩ := h
    simp only [fillA] at e
    split at e
    case h_1 => cases e
    rename_i off size hpl
    cases hb : (v.cells.length.beq size && (off + v.cells.length).ble cs.length) with
    | false => rw [hb] at e; cases e
    | true =>
      rw [hb] at e; simp only [cond_true] at e
      simp only [Bool.and_eq_true, Nat.beq_eq, Nat.ble_eq] at hb
      have hl := hv.cells.length
      have hl2 := hc.length
      simp only [Array.length_toList] at hl hl2
      have hn : ¬ (y.cells.size ≠ size ∨ off + y.cells.size > ys.size) := by omega
      simp only [Instr.fill, hpl]
      rw [if_neg (by simpa using hn)]
      refine fillA_sound hq ?_ e
      have key : (y.cells.zipIdx.foldl (fun (cs : Array Value) (p : Value × Nat) => cs.setIfInBounds (off + p.2) p.1) ys).toList = setVs off y.cells.toList ys.toList := by
        rw [← Array.foldl_toList, Array.toList_zipIdx, foldl_setVs off _ 0 ys]; rfl
      rw [show (y.cells.zipIdx.foldl (fun cs x => match x with | (c, j) => cs.setIfInBounds (off + j) c) ys).toList = setVs off y.cells.toList ys.toList from key]
      exact setAll_sound hv.cells off hc
end
end Go.Proofs.Ythlcnklbeolhpaa.Ev

/-! EvQ2 -/
namespace Go.Proofs.Ythlcnklbeolhpaa.Ev
open Go Go.RowKit
section
variable {P : Program} {ρ : Rho} {ev : Operand → Option AV} {f : Operand → Value} {st : St} {w : World}

theorem run_under {t : TypeId} {d : TypeDesc} (h : P.underlying t = some d) (w : World) : (underlying t).run P w = .ok d w := by
  simp [underlying, h]

theorem run_loadCells_rel (H : RelH ρ st w) {i k n : Nat} {l : List AV} (e : rdCells st.h i k n = some l) {a : Addr} (ha : At ρ i k a) :
    ∃ xs : List Value, RelL ρ l xs ∧ xs.length = n ∧ (loadCells a n).run P w = .ok xs.toArray w := by
  obtain ⟨xs, h1, h2, h3⟩ := H.rds e ha
  refine ⟨xs, h1, h2, ?_⟩
  rw [← h2]; exact run_loadCells_list (P := P) w a xs h3

theorem loadA_sound (H : RelH ρ st w) {t : TypeId} {i k : Nat} {v : AV} (e : loadA P st.h t i k = some v) {a : Addr} (ha : At ρ i k a) :
    ∃ y, (loadVar t a).run P w = .ok y w ∧ RelV ρ v y := by
  unfold loadA at e
  split at e
  · rename_i hagg
    split at e
    case h_2 => cases e
    rename_i n hn
    split at e
    case h_2 => cases e
    rename_i l hl
    cases e
    obtain ⟨xs, h1, _, h3⟩ := run_loadCells_rel (P := P) H hl ha
    refine ⟨.agg xs.toArray, ?_, relV_agg.2 ⟨xs, h1, rfl⟩⟩
    unfold loadVar
    rw [Sem.run_bind, semP_run _ _ hagg w]
    simp only [Result.andThen_ok, if_true]
    rw [Sem.run_bind, semP_run _ _ hn w]
    simp only [Result.andThen_ok]
    rw [Sem.run_bind, h3]; rfl
  · rename_i hagg
    obtain ⟨x, hx, hr⟩ := H.rd e ha
    refine ⟨x, ?_, hr⟩
    unfold loadVar
    rw [Sem.run_bind, semP_run _ _ hagg w]
    simp only [Result.andThen_ok, Bool.false_eq_true, if_false]
    rw [run_load, hx]
  · cases e

theorem sureAddr_run {a : Addr} (w : World) : (Instr.sureAddr (.pointer (some a))).run P w = .ok a w := rfl

theorem loadAt_sound (H : RelH ρ st w) {t : TypeId} {i k : Nat} {v : AV} (e : loadA P st.h t i k = some v) {x : Value} (hx : RelV ρ (.ptr i k) x) :
    ∃ y, (Instr.loadAt t x).run P w = .ok y w ∧ RelV ρ v y := by
  obtain ⟨a, ha, rfl⟩ := relV_ptr.1 hx
  obtain ⟨y, h1, h2⟩ := loadA_sound H e ha
  refine ⟨y, ?_, h2⟩
  unfold Instr.loadAt
  rw [Sem.run_bind, sureAddr_run]
  exact h1

theorem pickA_sound (E : EvOk ρ ev f) {c a b : Operand} {v : AV} (e : pickA ev c a b = some v) :
    ∃ y, (do pure (Next.value (if ← asBool (f c) then f a else f b)) : Sem Next).run P w = .ok (.value y) w ∧ RelV ρ v y := by
  unfold pickA at e
  split at e
  · rename_i hc
    have := relV_sc.1 (E c _ hc)
    exact ⟨f a, by rw [this]; rfl, E a v e⟩
  · rename_i hc
    have := relV_sc.1 (E c _ hc)
    exact ⟨f b, by rw [this]; rfl, E b v e⟩
  · cases e

theorem nilCheckA_sound {o : Oper} {x : Operand} (ho : o.op = .nilCheck x) {u v : AV} (e : nilCheckA u = some v) (hx : RelV ρ u (f x)) :
    ∃ y, (execOp f o).run P w = .ok (.value y) w ∧ RelV ρ v y := by
  refine ⟨f x, ?_, ?_⟩
  · unfold execOp
    rw [ho]
    simp only
    generalize f x = y at hx
    unfold nilCheckA at e
    split at e
    · obtain ⟨a, _, rfl⟩ := relV_ptr.1 hx; rfl
    · obtain ⟨a, _, _, _, rfl⟩ := relV_fn.1 hx; rfl
    · rw [relV_sc.1 hx]; rfl
    · obtain ⟨a, _, rfl⟩ := relV_ifc.1 hx; rfl
    · rw [relV_sc.1 hx]; rfl
    · cases e
  · unfold nilCheckA at e
    split at e <;> first | (cases e; exact hx) | cases e

theorem scF_some {r : Option Value} {v : AV} (e : scF r = some v) : ∃ x, r = some x ∧ v = .sc x := by
  cases r with
  | none => cases e
  | some x =>
    unfold scF at e
    cases hf : forced x with
    | false => simp only [hf, cond_false] at e; cases e
    | true => simp only [hf, cond_true] at e; cases e; exact ⟨x, rfl, rfl⟩
theorem scF_run {s : Sem Value} {v : AV} (e : scF (semP P s) = some v) : ∃ y, s.run P w = .ok y w ∧ RelV ρ v y := by
  obtain ⟨x, h1, rfl⟩ := scF_some e
  exact ⟨x, semP_run _ _ h1 w, RelV.sc x⟩

theorem unOpA_sound {op : UnOp} {u v : AV} {x : Value} (hx : RelV ρ u x) (e : unOpA P op u = some v) : ∃ y, (Op.unary op x).run P w = .ok y w ∧ RelV ρ v y := by
  unfold unOpA at e
  split at e
  · rw [relV_sc.1 hx]; exact scF_run e
  · cases e
theorem convertA_sound {s d : TypeId} {u v : AV} {x : Value} (hx : RelV ρ u x) (e : convertA P s d u = some v) : ∃ y, (convert s d x).run P w = .ok y w ∧ RelV ρ v y := by
  unfold convertA at e
  split at e
  · rw [relV_sc.1 hx]; exact scF_run e
  · rename_i k m r
    obtain ⟨z, h1, h2, rfl⟩ := relV_res.1 hx
    split at e
    case h_2 => cases e
    rename_i k1 hs hd
    cases e
    refine ⟨.int .i64 z, ?_, relV_res.2 ⟨z, h1, h2, rfl⟩⟩
    have hw : IntKind.i64.wrap (z : Int) = (z : Int) := by rw [IntKind.wrap_i64]; omega
    simp [convert, underlying, hs, hd, Conv.intToInt, hw]
  · cases e
theorem mkIfc_rel {t : TypeId} {u : AV} {x : Value} (hx : RelV ρ u x) : RelV ρ (mkIfc t u) (.iface t x) := by
  unfold mkIfc
  split
  · rw [relV_sc.1 hx]; exact RelV.sc _
  · exact relV_ifc.2 ⟨x, hx, rfl⟩
theorem makeIfcA_sound {t : TypeId} {u v : AV} {x : Value} (hx : RelV ρ u x) (e : makeIfcA P t u = some v) : ∃ y, (Instr.makeInterface t x).run P w = .ok y w ∧ RelV ρ v y := by
  unfold makeIfcA at e
  split at e
  · cases e
  · rename_i d hni hd
    cases e
    refine ⟨.iface t x, ?_, mkIfc_rel hx⟩
    unfold Instr.makeInterface
    rw [Sem.run_bind, run_under hd]
    simp only [Result.andThen_ok]
    cases d <;> first | (exact absurd rfl (hni _)) | rfl
  · cases e

section eqs
variable {t : TypeId} (d : Nat)
theorem eqd_ptr {e : TypeId} (hu : P.underlying t = some (.pointer e)) (a : Addr) : (Op.equalIn (d + 1) t (.pointer (some a)) (.pointer none)).run P w = .ok false w ∧ (Op.equalIn (d + 1) t (.pointer none) (.pointer (some a))).run P w = .ok false w := by
  constructor <;> simp [Op.equalIn, run_under hu]
theorem eqd_sl {e : TypeId} (hu : P.underlying t = some (.slice e)) (a : Addr) (n c m k : Nat) : (Op.equalIn (d + 1) t (.slice (some a) n c) (.slice none m k)).run P w = .ok false w ∧ (Op.equalIn (d + 1) t (.slice none m k) (.slice (some a) n c)).run P w = .ok false w := by
  constructor <;> simp [Op.equalIn, run_under hu]
theorem eqd_mp {e e' : TypeId} (hu : P.underlying t = some (.map e e')) (a : Nat) : (Op.equalIn (d + 1) t (.map (some a)) (.map none)).run P w = .ok false w ∧ (Op.equalIn (d + 1) t (.map none) (.map (some a))).run P w = .ok false w := by
  constructor <;> simp [Op.equalIn, run_under hu]
theorem eqd_fn {a b : Array TypeId} {c : Bool} (hu : P.underlying t = some (.func a b c)) (g : Fn) (l m : Array Value) : (Op.equalIn (d + 1) t (.func g l m) .nilFunc).run P w = .ok false w ∧ (Op.equalIn (d + 1) t .nilFunc (.func g l m)).run P w = .ok false w := by
  constructor <;> simp [Op.equalIn, run_under hu]
theorem eqd_ifc {a : Array (String × TypeId)} (hu : P.underlying t = some (.interface a)) (s : TypeId) (x : Value) : (Op.equalIn (d + 1) t (.iface s x) .nilIface).run P w = .ok false w ∧ (Op.equalIn (d + 1) t .nilIface (.iface s x)).run P w = .ok false w := by
  constructor <;> simp [Op.equalIn, run_under hu]
end eqs

theorem eqNil_main {op : BinOp} {t : TypeId} {x y r : Value} (p q : Operand) (hg : eqGuard op t p q x y = pure ()) (h1 : op = .eql → binOp .eql t x y = (do pure (.bool (← Op.equal t x y))))
    (h2 : op = .neq → binOp .neq t x y = (do pure (.bool (!(← Op.equal t x y))))) (h3 : (Op.equal t x y).run P w = .ok false w) (h4 : unlike op = some r) :
    (do eqGuard op t p q x y; binOp op t x y : Sem Value).run P w = .ok r w := by
  unfold unlike at h4
  split at h4
  · cases h4
    rw [hg, h1 rfl]
    simp [h3]
  · cases h4
    rw [hg, h2 rfl]
    simp [h3]
  · cases h4
theorem guard_pure {op : BinOp} {t : TypeId} {x y : Value} (p q : Operand) (h : (match x, y with | .nilIface, .nilIface | .agg _, .agg _ => false | _, _ => true) = true) : eqGuard op t p q x y = pure () := by
  unfold eqGuard
  split at h
  · cases h
  · cases h
  · rename_i h1 h2
    have key : ∀ (A : Sem Unit) (B : Array Value → Array Value → Sem Unit), (match x, y with | .nilIface, .nilIface => A | .agg a, .agg b => B a b | _, _ => pure ()) = pure () := by
      intro A B
      split
      · exact (h1 rfl rfl).elim
      · exact (h2 _ _ rfl rfl).elim
      · rfl
    generalize hop : (!(match op with | .eql => true | .neq => true | _ => false)) = c
    cases c with
    | true => rw [if_pos rfl]
    | false => rw [if_neg (by simp)]; exact key _ _

theorem eqNil_sound {op : BinOp} {t : TypeId} {a : AV} {x y r : Value} (hx : RelV ρ a x) (e : eqNil P op t a y = some r) (p q : Operand) :
    (do eqGuard op t p q x y; binOp op t x y : Sem Value).run P w = .ok r w ∧ (do eqGuard op t p q y x; binOp op t y x : Sem Value).run P w = .ok r w := by
  unfold eqNil at e
  split at e
  · rename_i e1 hu
    obtain ⟨a, _, rfl⟩ := relV_ptr.1 hx
    exact ⟨eqNil_main p q (guard_pure p q rfl) (fun _ => rfl) (fun _ => rfl) (eqd_ptr 9999 hu a).1 e, eqNil_main p q (guard_pure p q rfl) (fun _ => rfl) (fun _ => rfl) (eqd_ptr 9999 hu a).2 e⟩
  · rename_i e1 hu
    obtain ⟨a, cap, _, _, _, rfl⟩ := relV_sl.1 hx
    exact ⟨eqNil_main p q (guard_pure p q rfl) (fun _ => rfl) (fun _ => rfl) (eqd_sl 9999 hu a _ _ _ _).1 e, eqNil_main p q (guard_pure p q rfl) (fun _ => rfl) (fun _ => rfl) (eqd_sl 9999 hu a _ _ _ _).2 e⟩
  · rename_i e1 hu
    obtain ⟨a, _, rfl⟩ := relV_mp.1 hx
    exact ⟨eqNil_main p q (guard_pure p q rfl) (fun _ => rfl) (fun _ => rfl) (eqd_mp 9999 hu a).1 e, eqNil_main p q (guard_pure p q rfl) (fun _ => rfl) (fun _ => rfl) (eqd_mp 9999 hu a).2 e⟩
  · rename_i e1 hu
    obtain ⟨a, _, _, _, rfl⟩ := relV_fn.1 hx
    exact ⟨eqNil_main p q (guard_pure p q rfl) (fun _ => rfl) (fun _ => rfl) (eqd_fn 9999 hu _ _ _).1 e, eqNil_main p q (guard_pure p q rfl) (fun _ => rfl) (fun _ => rfl) (eqd_fn 9999 hu _ _ _).2 e⟩
  · rename_i e1 hu
    obtain ⟨a, _, rfl⟩ := relV_ifc.1 hx
    exact ⟨eqNil_main p q (guard_pure p q rfl) (fun _ => rfl) (fun _ => rfl) (eqd_ifc 9999 hu _ _).1 e, eqNil_main p q (guard_pure p q rfl) (fun _ => rfl) (fun _ => rfl) (eqd_ifc 9999 hu _ _).2 e⟩
  · cases e

theorem evBin0_sound {op : BinOp} {t : TypeId} {p q : Operand} {a b v : AV} {x y : Value} (hx : RelV ρ a x) (hy : RelV ρ b y) (e : evBin0 P op t p q a b = some v) :
    ∃ z, (do eqGuard op t p q x y; binOp op t x y : Sem Value).run P w = .ok z w ∧ RelV ρ v z := by
  unfold evBin0 at e
  split at e
  · rename_i u u' h1 h2
    rw [RelV.toV _ _ _ hx h1, RelV.toV _ _ _ hy h2]
    refine scF_run (s := do eqGuard op t p q u u'; binOp op t u u') ?_
    unfold scF
    exact e
  · rename_i u h1 h2
    split at e
    case h_2 => cases e
    rename_i r hr
    cases e
    rw [RelV.toV _ _ _ hy h2]
    exact ⟨r, (eqNil_sound hx hr p q).1, RelV.sc r⟩
  · rename_i u h1 h2
    split at e
    case h_2 => cases e
    rename_i r hr
    cases e
    rw [RelV.toV _ _ _ hx h1]
    exact ⟨r, (eqNil_sound hy hr p q).2, RelV.sc r⟩
  · cases e

theorem evBin_sound {op : BinOp} {t : TypeId} {p q : Operand} {a b v : AV} {x y : Value} (hx : RelV ρ a x) (hy : RelV ρ b y) (e : evBin P op t p q a b = some v) :
    ∃ z, (do eqGuard op t p q x y; binOp op t x y : Sem Value).run P w = .ok z w ∧ RelV ρ v z := by
  unfold evBin at e
  split at e
  · rename_i k m r
    obtain ⟨z, h1, h2, rfl⟩ := relV_res.1 hx
    unfold resRem at e
    split at e
    case h_2 => cases e
    rename_i j c
    split at e
    case h_2 => cases e
    have hy' := relV_sc.1 hy
    subst hy'
    cases hb : (decide (j = k) && Nat.blt 0 c && Nat.blt c 32768 && (m % c).beq 0 && (r % c).beq (r % c)) with
    | false => rw [hb] at e; cases e
    | true =>
      rw [hb] at e
      simp only [cond_true, Option.some.injEq] at e
      subst e
      simp only [Bool.and_eq_true, decide_eq_true_eq, Nat.blt_eq, Nat.beq_eq] at hb
      obtain ⟨⟨⟨⟨rfl, h3⟩, h4⟩, h5⟩, _⟩ := hb
      refine ⟨.int j ((z % c : Nat) : Int), ?_, ?_⟩
      · rw [Sem.run_bind, guard_pure p q rfl]
        simp only [Sem.run_pure, Result.andThen_ok, Int.ofNat_eq_natCast]
        have hc : ¬ c = 0 := by omega
        have ht : (z : Int).tmod (c : Int) = ((z % c : Nat) : Int) := by rw [Int.tmod_eq_emod_of_nonneg (by omega)]; exact (Int.natCast_emod z c).symm
        simp [binOp, Op.intDiv, hc, ht]
      · have : r % c = z % c := by rw [← h2]; exact Nat.mod_mod_of_dvd z (Nat.dvd_of_mod_eq_zero h5)
        rw [this]; exact RelV.sc _
  · exact evBin0_sound hx hy e

theorem partA_sound {t : TypeId} {cs : List AV} {off : Nat} {v : AV} {xs : Array Value} (h : RelL ρ cs xs.toList) (e : partA P t cs off = some v) :
    ∃ y, (part t xs off).run P w = .ok y w ∧ RelV ρ v y := by
  unfold partA at e
  split at e
  · rename_i hagg
    split at e
    case h_2 => cases e
    rename_i n hn
    cases hb : (off + n).ble cs.length with
    | false => rw [hb] at e; cases e
    | true =>
      rw [hb] at e; simp only [cond_true, Option.some.injEq] at e
      subst e
      refine ⟨.agg (xs.extract off (off + n)), ?_, relV_agg.2 ⟨(xs.toList.drop off).take n, (h.drop off).take n, ?_⟩⟩
      · unfold part
        rw [Sem.run_bind, semP_run _ _ hagg w]
        simp only [Result.andThen_ok, if_true]
        rw [Sem.run_bind, semP_run _ _ hn w]
        rfl
      · congr 1
        apply Array.toList_inj.1
        simp
  · rename_i hagg
    unfold nth at e
    obtain ⟨y, hy, hr⟩ := h.get off v e
    refine ⟨y, ?_, hr⟩
    unfold part
    rw [Sem.run_bind, semP_run _ _ hagg w]
    have : xs[off]? = some y := by simpa using hy
    simp [this]
  · cases e

theorem aggOf_sound {u : AV} {cs : List AV} {x : Value} (hx : RelV ρ u x) (e : aggOf u = some cs) : ∃ xs : Array Value, x = .agg xs ∧ RelL ρ cs xs.toList := by
  unfold aggOf at e
  split at e
  · cases e; obtain ⟨xs, h1, rfl⟩ := relV_agg.1 hx; exact ⟨_, rfl, by simpa using h1⟩
  · cases e; rw [relV_sc.1 hx]; exact ⟨_, rfl, RelL.scs _⟩
  · cases e

theorem fieldA_sound {t : TypeId} {u v : AV} {n : Nat} {x : Value} (hx : RelV ρ u x) (e : fieldA P t u n = some v) : ∃ y, (Instr.field t x n).run P w = .ok y w ∧ RelV ρ v y := by
  unfold fieldA at e
  split at e
  case h_2 => cases e
  rename_i cs hcs
  split at e
  case h_2 => cases e
  rename_i fs hfs
  split at e
  case h_2 => cases e
  rename_i fd hfd
  obtain ⟨xs, rfl, hl⟩ := aggOf_sound hx hcs
  obtain ⟨y, h1, h2⟩ := partA_sound (P := P) (w := w) hl e
  refine ⟨y, ?_, h2⟩
  unfold Instr.field
  rw [Sem.run_bind, run_under hfs]
  simp only [Result.andThen_ok, hfd]
  rw [Sem.run_bind]
  simp only [asAgg, Sem.run_pure, Result.andThen_ok]
  exact h1

theorem natOf_sound {u : AV} {m : Nat} {x : Value} (hx : RelV ρ u x) (e : natOf u = some m) : ∃ k, x = .int k (m : Int) := by
  unfold natOf at e
  split at e
  · cases e; rw [relV_sc.1 hx]; exact ⟨_, rfl⟩
  · cases e

theorem fieldAddrA_sound {s : TypeId} {u v : AV} {n : Nat} {x : Value} (hx : RelV ρ u x) (e : fieldAddrA P s u n = some v) : ∃ y, (Instr.fieldAt s x n).run P w = .ok y w ∧ RelV ρ v y := by
  unfold fieldAddrA at e
  split at e
  case h_2 => cases e
  rename_i i k
  split at e
  case h_2 => cases e
  rename_i fs hfs
  split at e
  case h_2 => cases e
  rename_i fd hfd
  split at e
  case h_2 => cases e
  rename_i sz hsz
  cases e
  obtain ⟨a, ha, rfl⟩ := relV_ptr.1 hx
  refine ⟨.pointer (some (a.add fd.offset)), ?_, relV_ptr.2 ⟨_, ha.addr _, rfl⟩⟩
  unfold Instr.fieldAt
  rw [Sem.run_bind, run_under hfs]
  simp only [Result.andThen_ok, hfd]
  rw [Sem.run_bind, sureAddr_run]
  simp only [Result.andThen_ok]
  rw [Sem.run_bind]
  unfold fieldPlace
  rw [Sem.run_bind, semP_run _ _ hsz w]
  simp

theorem indexAddrA_sound {t : TypeId} {u i v : AV} {x ix : Value} (hx : RelV ρ u x) (hi : RelV ρ i ix) (e : indexAddrA P t u i = some v) : ∃ y, (Instr.indexAt t x ix).run P w = .ok y w ∧ RelV ρ v y := by
  unfold indexAddrA at e
  split at e
  case h_1 => cases e
  rename_i m hm
  obtain ⟨kd, rfl⟩ := natOf_sound hi hm
  split at e
  · rename_i j k
    split at e
    case h_2 => cases e
    rename_i n el hd
    split at e
    case h_2 => cases e
    rename_i size hs
    cases hb : m.blt n with
    | false => rw [hb] at e; cases e
    | true =>
      rw [hb] at e; simp only [cond_true, Option.some.injEq] at e; subst e
      have hlt : m < n := by simpa [Nat.blt_eq] using hb
      obtain ⟨a, ha, rfl⟩ := relV_ptr.1 hx
      refine ⟨.pointer (some (a.add (m * size))), ?_, relV_ptr.2 ⟨_, ha.addr _, rfl⟩⟩
      unfold Instr.indexAt
      simp [asIntOf, run_under hd, Instr.sureAddr, semP_run _ _ hs w, hlt]
  · rename_i j k n z c
    split at e
    case h_2 => cases e
    rename_i el hd
    split at e
    case h_2 => cases e
    rename_i size hs
    cases hb : m.blt n with
    | false => rw [hb] at e; cases e
    | true =>
      rw [hb] at e; simp only [cond_true, Option.some.injEq] at e; subst e
      have hlt : m < n := by simpa [Nat.blt_eq] using hb
      obtain ⟨a, cap, ha, hn, _, rfl⟩ := relV_sl.1 hx
      refine ⟨.pointer (some (a.add (m * size))), ?_, relV_ptr.2 ⟨_, (ha (by omega)).1.addr _, rfl⟩⟩
      unfold Instr.indexAt
      simp [asIntOf, run_under hd, semP_run _ _ hs w, hlt]
  · cases e

theorem indexA_sound {t : TypeId} {u i v : AV} {x ix : Value} (hx : RelV ρ u x) (hi : RelV ρ i ix) (e : indexA P t u i = some v) : ∃ y, (Instr.index t x ix).run P w = .ok y w ∧ RelV ρ v y := by
  unfold indexA at e
  split at e
  · rename_i cs
    split at e
    case h_1 => cases e
    rename_i m hm
    obtain ⟨kd, rfl⟩ := natOf_sound hi hm
    split at e
    case h_2 => cases e
    rename_i n el hd
    split at e
    case h_2 => cases e
    rename_i size hs
    cases hb : m.blt n with
    | false => rw [hb] at e; cases e
    | true =>
      rw [hb] at e; simp only [cond_true] at e
      have hlt : m < n := by simpa [Nat.blt_eq] using hb
      obtain ⟨xs, h1, rfl⟩ := relV_agg.1 hx
      obtain ⟨y, h2, h3⟩ := partA_sound (P := P) (w := w) (xs := xs.toArray) (by simpa using h1) e
      refine ⟨y, ?_, h3⟩
      unfold Instr.index
      simp [asIntOf, run_under hd, semP_run _ _ hs w, hlt, h2]
  · split at e
    · rw [relV_sc.1 hx, relV_sc.1 hi]; exact scF_run e
    · cases e
  · cases e

theorem extractA_sound {n : Nat} {u v : AV} {x : Value} (hx : RelV ρ u x) (e : extractA u n = some v) : ∃ y, (Instr.extract x n).run P w = .ok y w ∧ RelV ρ v y := by
  unfold extractA at e
  split at e
  · unfold nth at e
    obtain ⟨xs, h1, rfl⟩ := relV_tup.1 hx
    obtain ⟨y, hy, hr⟩ := h1.get n v e
    exact ⟨y, by simp [Instr.extract, hy], hr⟩
  · split at e
    · rename_i y hy
      cases e
      rw [relV_sc.1 hx]
      exact ⟨y, by simp [Instr.extract, hy], RelV.sc y⟩
    · cases e
  · cases e

theorem dynA_sound {u v : AV} {t : TypeId} {x : Value} (hx : RelV ρ u x) (e : dynA u = some (t, v)) : ∃ y, x = .iface t y ∧ RelV ρ v y := by
  unfold dynA at e
  split at e
  · cases e; obtain ⟨y, h1, rfl⟩ := relV_ifc.1 hx; exact ⟨y, rfl, h1⟩
  · cases e; rw [relV_sc.1 hx]; exact ⟨_, rfl, RelV.sc _⟩
  · cases e

theorem typeAssertA_sound {s t : TypeId} {ok : Bool} {u v : AV} {x : Value} (hx : RelV ρ u x) (e : typeAssertA P u t ok = some v) : ∃ y, (Instr.typeAssert x s t ok).run P w = .ok y w ∧ RelV ρ v y := by
  unfold typeAssertA at e
  split at e
  case h_1 =>
    cases hb : (isNilI u && ok) with
    | false => rw [hb] at e; cases e
    | true =>
      rw [hb] at e
      simp only [cond_true] at e
      rw [Bool.and_eq_true] at hb
      have hu : u = .sc .nilIface := by
        have h1 := hb.1
        unfold isNilI at h1
        split at h1
        · rfl
        · cases h1
      subst hu
      rw [relV_sc.1 hx]
      split at e
      case h_2 => cases e
      rename_i d z hd hz
      cases e
      refine ⟨.tuple #[z, .bool false], ?_, relV_tup.2 ⟨[z, .bool false], RelL.cons (RelV.sc _) (RelL.cons (RelV.sc _) (RelL.nil_iff.2 rfl)), rfl⟩⟩
      unfold Instr.typeAssert
      rw [Sem.run_bind, run_under hd]
      simp only [Result.andThen_ok]
      cases d <;> simp [hb.2, semP_run _ _ hz w]
  rename_i dt dv hd
  obtain ⟨y, rfl, hy⟩ := dynA_sound hx hd
  split at e
  · cases e
  · cases e
  · rename_i d hni hu
    unfold Instr.typeAssert
    rw [Sem.run_bind, run_under hu]
    simp only [Result.andThen_ok]
    have hd' : ∀ ms, d ≠ .interface ms := fun ms h => hni ms h
    cases hb : dt.beq t with
    | true =>
      rw [hb] at e; simp only [cond_true, Option.some.injEq] at e
      have : dt = t := Nat.eq_of_beq_eq_true hb
      subst this
      cases ok with
      | true => subst e; refine ⟨.tuple #[y, .bool true], ?_, relV_tup.2 ⟨[y, .bool true], RelL.cons hy (RelL.cons (RelV.sc _) (RelL.nil_iff.2 rfl)), rfl⟩⟩; cases d <;> first | (exact absurd rfl (hd' _)) | simp
      | false => subst e; refine ⟨y, ?_, hy⟩; cases d <;> first | (exact absurd rfl (hd' _)) | simp
    | false =>
      rw [hb] at e; simp only [cond_false] at e
      have hne : ¬ dt = t := Nat.ne_of_beq_eq_false hb
      cases ok with
      | false => cases e
      | true =>
        simp only [cond_true] at e
        split at e
        case h_2 => cases e
        rename_i z hz
        cases e
        refine ⟨.tuple #[z, .bool false], ?_, relV_tup.2 ⟨[z, .bool false], RelL.cons (RelV.sc _) (RelL.cons (RelV.sc _) (RelL.nil_iff.2 rfl)), rfl⟩⟩
        cases d <;> first | (exact absurd rfl (hd' _)) | simp [hne, semP_run _ _ hz w]
end
end Go.Proofs.Ythlcnklbeolhpaa.Ev

/-! EvQ3 -/
namespace Go.Proofs.Ythlcnklbeolhpaa.Ev
open Go Go.RowKit
section
variable {P : Program} {ρ : Rho} {ev : Operand → Option AV} {f : Operand → Value} {st : St} {w : World}

def RelOpt (ρ : Rho) : Option AV → Option Value → Prop
  | none, x => x = none
  | some v, x => ∃ y, RelV ρ v y ∧ x = some y
theorem optX_sound (E : EvOk ρ ev f) {o : Option Operand} {r : Option AV} (e : optX ev o = some r) : RelOpt ρ r (o.map f) := by
  unfold optX at e
  cases o with
  | none => simp only [Option.some.injEq] at e; subst e; rfl
  | some x =>
    simp only at e
    split at e
    case h_2 => cases e
    rename_i v hv
    cases e
    exact ⟨_, E x v hv, rfl⟩

theorem bnd_sound {v : AV} {x : Value} {y0 y n : Nat} (hx : RelV ρ v x) (e : bnd v y0 = some n) (hy : y0 ≤ y) (code : BoundsCode) (w : World) :
    (Instr.sliceBound x y code).run P w = .ok n w ∧ n ≤ y0 := by
  unfold bnd at e
  split at e
  case h_2 => cases e
  rename_i kd m
  cases hb : m.ble y0 with
  | false => rw [hb] at e; cases e
  | true =>
    rw [hb] at e; simp only [cond_true, Option.some.injEq] at e; subst e
    have hle := Nat.le_of_ble_eq_true hb
    rw [relV_sc.1 hx]
    refine ⟨?_, hle⟩
    unfold Instr.sliceBound
    simp only [asIntOf, pure_bind]
    rw [if_pos ⟨Int.natCast_nonneg m, by show ((m : Nat) : Int) ≤ y; omega⟩]
    rfl

theorem sliceA_sound {isSl : Bool} {len cap : Nat} {c : Option Nat} {lo hi mx : Option AV} {lo' hi' mx' : Option Value} {l h : Nat} {c' : Option Nat}
    (h1 : RelOpt ρ lo lo') (h2 : RelOpt ρ hi hi') (h3 : RelOpt ρ mx mx') (e : sliceA len c lo hi mx = some (l, h, c')) (hc : ∀ q, c = some q → cap = q) (hl : len ≤ cap) (w : World) :
    ∃ m, (Instr.sliceBounds isSl len cap lo' hi' mx').run P w = .ok (l, h, m) w ∧ l ≤ h ∧ h ≤ m ∧ m ≤ cap ∧ (∀ q, c' = some q → m - l = q) := by
  have htop : c.getD len ≤ cap := by
    cases c with
    | none => exact hl
    | some q => rw [hc q rfl]; exact Nat.le_refl _
  unfold sliceA at e
  simp only at e
  split at e
  · rename_i mv
    split at e
    case h_1 => cases e
    rename_i m hm
    split at e
    case h_1 => cases e
    rename_i hv
    split at e
    case h_1 => cases e
    rename_i hh hhb
    split at e
    case h_1 => cases e
    rename_i ll hlb
    simp only [Option.some.injEq, Prod.mk.injEq] at e
    obtain ⟨rfl, rfl, rfl⟩ := e
    obtain ⟨y3, r3, rfl⟩ := h3
    obtain ⟨y2, r2, rfl⟩ := h2
    have s3 := fun code => (bnd_sound (P := P) r3 hm htop code w).1
    have s2 := fun code => (bnd_sound (P := P) r2 hhb (Nat.le_refl _) code w).1
    have k3 := (bnd_sound (P := P) r3 hm htop .index w).2
    have k2 := (bnd_sound (P := P) r2 hhb (Nat.le_refl _) .index w).2
    cases lo with
    | none =>
      have e1 : lo' = none := h1
      subst e1
      simp only [bndO, Option.some.injEq] at hlb; subst hlb
      refine ⟨m, ?_, Nat.zero_le _, k2, by omega, fun q hq => by cases hq; rfl⟩
      unfold Instr.sliceBounds
      simp [s3, s2]
    | some v =>
      obtain ⟨y1, r1, rfl⟩ := h1
      have s1 := fun code => (bnd_sound (P := P) r1 hlb (Nat.le_refl _) code w).1
      have k1 := (bnd_sound (P := P) r1 hlb (Nat.le_refl _) .index w).2
      refine ⟨m, ?_, k1, k2, by omega, fun q hq => by cases hq; rfl⟩
      unfold Instr.sliceBounds
      simp [s3, s2, s1]
  · split at e
    case h_1 => cases e
    rename_i hh hhb
    split at e
    case h_1 => cases e
    rename_i ll hlb
    simp only [Option.some.injEq, Prod.mk.injEq] at e
    obtain ⟨rfl, rfl, rfl⟩ := e
    have e3 : mx' = none := h3
    subst e3
    have last : ∀ q, (match c with | some c => some (c - ll) | none => none : Option Nat) = some q → cap - ll = q := by
      intro q hq
      cases c with
      | none => cases hq
      | some c0 => simp only [Option.some.injEq] at hq; rw [hc c0 rfl]; exact hq
    cases hi with
    | none =>
      have e2 : hi' = none := h2
      subst e2
      simp only [bndO, Option.some.injEq] at hhb; subst hhb
      cases lo with
      | none =>
        have e1 : lo' = none := h1
        subst e1
        simp only [bndO, Option.some.injEq] at hlb; subst hlb
        refine ⟨cap, ?_, Nat.zero_le _, hl, Nat.le_refl _, last⟩
        unfold Instr.sliceBounds
        simp
      | some v =>
        obtain ⟨y1, r1, rfl⟩ := h1
        have s1 := fun code => (bnd_sound (P := P) r1 hlb (Nat.le_refl _) code w).1
        have k1 := (bnd_sound (P := P) r1 hlb (Nat.le_refl _) .index w).2
        refine ⟨cap, ?_, k1, hl, Nat.le_refl _, last⟩
        unfold Instr.sliceBounds
        simp [s1]
    | some hv =>
      obtain ⟨y2, r2, rfl⟩ := h2
      have s2 := fun code => (bnd_sound (P := P) r2 hhb htop code w).1
      have k2 := (bnd_sound (P := P) r2 hhb htop .index w).2
      cases lo with
      | none =>
        have e1 : lo' = none := h1
        subst e1
        simp only [bndO, Option.some.injEq] at hlb; subst hlb
        refine ⟨cap, ?_, Nat.zero_le _, by omega, Nat.le_refl _, last⟩
        unfold Instr.sliceBounds
        simp [s2]
      | some v =>
        obtain ⟨y1, r1, rfl⟩ := h1
        have s1 := fun code => (bnd_sound (P := P) r1 hlb (Nat.le_refl _) code w).1
        have k1 := (bnd_sound (P := P) r1 hlb (Nat.le_refl _) .index w).2
        refine ⟨cap, ?_, k1, by omega, Nat.le_refl _, last⟩
        unfold Instr.sliceBounds
        simp [s2, s1]

theorem unA_sound {o : Option AV} {r x : Option Value} (h : RelOpt ρ o x) (e : unA o = some r) : x = r := by
  cases o with
  | none => simp only [unA, Option.some.injEq] at e; subst e; exact h
  | some v =>
    obtain ⟨y, hy, rfl⟩ := h
    cases v with
    | sc v => simp only [unA, Option.some.injEq] at e; subst e; rw [relV_sc.1 hy]
    | _ => simp [unA] at e

theorem sliceQ_sound (H : RelH ρ st w) {t : TypeId} {u v : AV} {x : Value} {lo hi mx : Option AV} {lo' hi' mx' : Option Value} (hx : RelV ρ u x)
    (h1 : RelOpt ρ lo lo') (h2 : RelOpt ρ hi hi') (h3 : RelOpt ρ mx mx') (e : sliceQ P st.h t u lo hi mx = some v) : ∃ y, (Instr.sliceAt t x lo' hi' mx').run P w = .ok y w ∧ RelV ρ v y := by
  unfold sliceQ at e
  split at e
  · split at e
    case h_2 => cases e
    rename_i a b c ha hb hc
    split at e
    case h_2 => cases e
    rename_i r hr
    cases e
    rw [relV_sc.1 hx, unA_sound h1 ha, unA_sound h2 hb, unA_sound h3 hc]
    exact ⟨r, semP_run _ _ hr w, RelV.sc r⟩
  · rename_i i k n z c
    split at e
    case h_2 => cases e
    rename_i el hd
    split at e
    case h_2 => cases e
    rename_i size hs
    split at e
    case h_2 => cases e
    rename_i l h c' hsl
    cases hbz : size.beq z with
    | false => rw [hbz] at e; cases e
    | true =>
    rw [hbz] at e; simp only [cond_true, Option.some.injEq] at e; subst e
    have hz : size = z := Nat.eq_of_beq_eq_true hbz
    subst hz
    obtain ⟨a, cap, ha, hn, hcc, rfl⟩ := relV_sl.1 hx
    obtain ⟨m, hr, g1, g2, g3, g4⟩ := sliceA_sound (P := P) (isSl := true) h1 h2 h3 hsl hcc hn w
    refine ⟨.slice (some (if m = l then a else a.add (l * size))) (h - l) (m - l), ?_, relV_sl.2 ⟨_, m - l, fun hp => ?_, by omega, g4, rfl⟩⟩
    · unfold Instr.sliceAt
      rw [Sem.run_bind, run_under hd]; simp only [Result.andThen_ok]
      unfold Instr.slice
      rw [Sem.run_bind, run_under hd]; simp only [Result.andThen_ok]
      rw [Sem.run_bind, hr]; simp only [Result.andThen_ok]
      rw [Sem.run_bind, semP_run _ _ hs w]; simp only [Result.andThen_ok]
      by_cases hml : m = l
      · simp [hml]
      · simp [hml]
    · rw [if_neg (by omega)]
      obtain ⟨g5, b1, o1, e1, g6, g7⟩ := ha (by omega)
      refine ⟨g5.addr _, b1, o1, e1, g6, ?_⟩
      have : l * size + (m - l) * size = m * size := by rw [← Nat.add_mul, show l + (m - l) = m by omega]
      have : m * size ≤ cap * size := Nat.mul_le_mul_right _ g3
      omega
  · rename_i i k
    split at e
    case h_2 => cases e
    rename_i n el hd
    split at e
    case h_2 => cases e
    rename_i size hs
    split at e
    case h_2 => cases e
    rename_i l h c' hsl
    split at e
    case h_2 => cases e
    rename_i cc blo bhi bcl bt hob
    cases hbz : (blo.ble k && (k + n * size).ble bhi) with
    | false => rw [hbz] at e; cases e
    | true =>
    rw [hbz] at e; simp only [cond_true, Option.some.injEq] at e; subst e
    simp only [Bool.and_eq_true, Nat.ble_eq] at hbz
    obtain ⟨b1, o1, e1, g6, g7, _⟩ := H.obj _ _ hob
    obtain ⟨a, ha, rfl⟩ := relV_ptr.1 hx
    obtain ⟨m, hr, g1, g2, g3, g4⟩ := sliceA_sound (P := P) (isSl := false) h1 h2 h3 hsl (cap := n) (fun q hq => by cases hq; rfl) (Nat.le_refl _) w
    refine ⟨.slice (some (if m = l then a else a.add (l * size))) (h - l) (m - l), ?_, relV_sl.2 ⟨_, m - l, fun hp => ?_, by omega, g4, rfl⟩⟩
    · unfold Instr.sliceAt
      rw [Sem.run_bind, run_under hd]; simp only [Result.andThen_ok]
      rw [Sem.run_bind, sureAddr_run]; simp only [Result.andThen_ok]
      rw [Sem.run_bind, hr]; simp only [Result.andThen_ok]
      rw [Sem.run_bind, semP_run _ _ hs w]; rfl
    · rw [if_neg (by omega)]
      refine ⟨ha.addr _, b1, o1, e1, g6, ?_⟩
      have : l * size + (m - l) * size = m * size := by rw [← Nat.add_mul, show l + (m - l) = m by omega]
      have : m * size ≤ n * size := Nat.mul_le_mul_right _ g3
      omega
  · cases e

theorem buildA_sound {t : TypeId} {vs : List (Nat × AV)} {v : AV} {ps : Array (Nat × Value)} (hp : RelP ρ vs ps.toList) (e : buildA P t vs = some v) :
    ∃ y, (Instr.build t ps).run P w = .ok y w ∧ RelV ρ v y := by
  unfold buildA at e
  split at e
  case h_1 => cases e
  rename_i z hz
  split at e
  · rename_i fs hd
    split at e
    case h_2 => cases e
    rename_i places hpl
    split at e
    case h_2 => cases e
    rename_i cs hcs
    cases e
    obtain ⟨zs, g1, g2⟩ := fillA_sound hp (RelL.scs z.cells.toList) hcs
    refine ⟨.agg zs, ?_, relV_agg.2 ⟨zs.toList, g2, by simp⟩⟩
    unfold Instr.build
    rw [Sem.run_bind, semP_run _ _ hz w]; simp only [Result.andThen_ok]
    rw [Sem.run_bind, run_under hd]; simp only [Result.andThen_ok]
    rw [Sem.run_bind, semP_run _ _ hpl w]; simp only [Result.andThen_ok]
    rw [g1]; rfl
  · rename_i n el hd
    split at e
    case h_2 => cases e
    rename_i size hs
    split at e
    case h_2 => cases e
    rename_i cs hcs
    cases e
    obtain ⟨zs, g1, g2⟩ := fillA_sound hp (RelL.scs z.cells.toList) hcs
    refine ⟨.agg zs, ?_, relV_agg.2 ⟨zs.toList, g2, by simp⟩⟩
    unfold Instr.build
    rw [Sem.run_bind, semP_run _ _ hz w]; simp only [Result.andThen_ok]
    rw [Sem.run_bind, run_under hd]; simp only [Result.andThen_ok]
    rw [Sem.run_bind, semP_run _ _ hs w]; simp only [Result.andThen_ok]
    rw [g1]; rfl
  · cases e

/-! Maps. -/
theorem RelE.length : ∀ {l : List (Value × AV × Nat)} {es : List MapEntry}, RelE ρ l es → es.length = l.length
  | [], _, h => by rw [show _ = [] from h]; rfl
  | _ :: _, _, ⟨_, _, _, _, _, h4, h5⟩ => by rw [h5]; simp [RelE.length h4]

/-- findAsking by semP. -/
theorem findAsk_sound {kt : TypeId} {k : Value} : ∀ {l : List (Value × AV × Nat)} {es : List MapEntry} {i : Nat} {r : Option (Nat × Value × AV × Nat)}, RelE ρ l es → findA P kt k l i = some r →
    (Instr.findAsking kt k es i).run P w = .ok (r.map fun q => (q.1, ((es[q.1 - i]?).map (·.val)).getD undef)) w ∧
    (∀ j k' v b, r = some (j, k', v, b) → i ≤ j ∧ ∃ e, es[j - i]? = some e ∧ RelV ρ v e.val ∧ e.key = k' ∧ e.born = b ∧ l[j - i]? = some (k', v, b))
  | [], _, i, r, h, e => by
    rw [show _ = [] from h]
    simp only [findA, Option.some.injEq] at e; subst e
    exact ⟨rfl, fun _ _ _ _ h => by cases h⟩
  | (k', v, b) :: l, _, i, r, ⟨en, es', h1, h2, h3, h4, h5⟩, e => by
    subst h5
    simp only [findA] at e
    split at e
    · rename_i heq
      simp only [Option.some.injEq] at e; subst e
      refine ⟨?_, fun j k2 v2 b2 h => ?_⟩
      · unfold Instr.findAsking
        rw [Sem.run_bind, h2, semP_run _ _ heq w]
        simp
      · simp only [Option.some.injEq, Prod.mk.injEq] at h
        obtain ⟨rfl, rfl, rfl, rfl⟩ := h
        exact ⟨Nat.le_refl _, en, by simp, h1, h2, h3, by simp⟩
    · rename_i heq
      obtain ⟨g1, g2⟩ := findAsk_sound h4 e
      refine ⟨?_, fun j k2 v2 b2 h => ?_⟩
      · unfold Instr.findAsking
        rw [Sem.run_bind, h2, semP_run _ _ heq w]
        simp only [Result.andThen_ok, Bool.false_eq_true, if_false]
        rw [g1]
        cases r with
        | none => rfl
        | some q =>
          obtain ⟨j, k2, v2, b2⟩ := q
          have := (g2 j k2 v2 b2 rfl).1
          simp only [Option.map_some]
          rw [show j - i = (j - (i + 1)) + 1 by omega, List.getElem?_cons_succ]
      · obtain ⟨a1, e2, a2, a3⟩ := g2 j k2 v2 b2 h
        refine ⟨by omega, e2, ?_, a3.1, a3.2.1, a3.2.2.1, ?_⟩
        · rw [show j - i = (j - (i + 1)) + 1 by omega, List.getElem?_cons_succ]; exact a2
        · rw [show j - i = (j - (i + 1)) + 1 by omega, List.getElem?_cons_succ]; exact a3.2.2.2
    · cases e
theorem sameNow_run {kt : TypeId} {d : TypeDesc} (hd : P.underlying kt = some d) {a b : Value} {r : Bool} (e : Instr.sameNow d a b = some r) : (Op.equal kt a b).run P w = .ok r w := by
  have main : ∀ n, (Op.equalIn (n + 1) kt a b).run P w = .ok r w := by
    intro n
    unfold Instr.sameNow at e
    split at e
    · split at e
      · rename_i hk
        simp only [Option.some.injEq] at e; subst e; subst hk
        simp [Op.equalIn, run_under hd]
      · cases e
    · simp only [Option.some.injEq] at e; subst e
      simp [Op.equalIn, run_under hd]
    · simp only [Option.some.injEq] at e; subst e
      simp [Op.equalIn, run_under hd]
    · cases e
  exact main 9999

theorem findNow_run {kt : TypeId} {d : TypeDesc} (hd : P.underlying kt = some d) {k : Value} : ∀ {es : List MapEntry} {i : Nat} {r : Option (Nat × Value)}, Instr.findNow d k es i = some r → (Instr.findAsking kt k es i).run P w = .ok r w
  | [], i, r, e => by simp only [Instr.findNow, Option.some.injEq] at e; subst e; rfl
  | en :: es, i, r, e => by
    simp only [Instr.findNow] at e
    split at e
    · rename_i h
      simp only [Option.some.injEq] at e; subst e
      unfold Instr.findAsking
      rw [Sem.run_bind, sameNow_run hd h]; simp
    · rename_i h
      unfold Instr.findAsking
      rw [Sem.run_bind, sameNow_run hd h]
      simp only [Result.andThen_ok, Bool.false_eq_true, if_false]
      exact findNow_run hd e
    · cases e

theorem findKey_sound {kt : TypeId} {k : Value} {l : List (Value × AV × Nat)} {es : List MapEntry} {r : Option (Nat × Value × AV × Nat)} (h : RelE ρ l es) (e : findKeyA P kt k l = some r) :
    (Instr.findKey kt k es).run P w = .ok (r.map fun q => (q.1, ((es[q.1]?).map (·.val)).getD undef)) w ∧
    (∀ j k' v b, r = some (j, k', v, b) → ∃ e, es[j]? = some e ∧ RelV ρ v e.val ∧ e.key = k' ∧ e.born = b) := by
  unfold findKeyA at e
  split at e
  case h_2 => cases e
  rename_i d hd
  obtain ⟨g1, g2⟩ := findAsk_sound (w := w) h e
  refine ⟨?_, fun j k' v b hr => ?_⟩
  · unfold Instr.findKey
    rw [Sem.run_bind, run_under hd]
    simp only [Result.andThen_ok]
    have g1' : (Instr.findAsking kt k es).run P w = .ok (r.map fun q => (q.1, ((es[q.1]?).map (·.val)).getD undef)) w := by simpa using g1
    split
    · rename_i r' hr'
      have := findNow_run (w := w) hd hr'
      have e2 := g1'.symm.trans this
      simp only [Sem.run_pure]
      exact e2.symm
    · exact g1'
  · obtain ⟨_, e2, a1, a2, a3, a4, _⟩ := g2 j k' v b hr
    exact ⟨e2, by simpa using a1, a2, a3, a4⟩

theorem run_getObj_map {b : Nat} {es : Array MapEntry} {clock : Nat} (h : w.heap[b]? = some (.map es clock)) : (getObj b).run P w = .ok (.map es clock) w := by
  simp [getObj, Sem.run, h]

theorem entsA_sound (H : RelH ρ st w) {u : AV} {l : List (Value × AV × Nat)} {x : Value} (hx : RelV ρ u x) (e : entsA st.h u = some l) :
    ∃ es : Array MapEntry, RelE ρ l es.toList ∧ ((x = .map none ∧ es = #[]) ∨ ∃ b clock, x = .map (some b) ∧ w.heap[b]? = some (.map es clock)) := by
  unfold entsA at e
  split at e
  · cases e; exact ⟨#[], rfl, .inl ⟨relV_sc.1 hx, rfl⟩⟩
  · rename_i i
    split at e
    case h_2 => cases e
    rename_i es clock hg
    cases e
    obtain ⟨b, h1, es', h2, h3⟩ := H.obj i _ hg
    obtain ⟨b', h1', rfl⟩ := relV_mp.1 hx
    rw [h1] at h1'; cases h1'
    exact ⟨es', h3, .inr ⟨b, clock, rfl, h2⟩⟩
  · cases e

theorem lookupA_sound (H : RelH ρ st w) {t : TypeId} {u k v : AV} {ok : Bool} {x y : Value} (hx : RelV ρ u x) (hy : RelV ρ k y) (e : lookupA P st.h t u k ok = some v) :
    ∃ z, (Instr.lookup t x y ok).run P w = .ok z w ∧ RelV ρ v z := by
  unfold lookupA at e
  split at e
  case h_1 => cases e
  rename_i kv hkv
  split at e
  case h_2 => cases e
  rename_i kt et hd
  split at e
  case h_1 => cases e
  rename_i l hl
  split at e
  case h_1 => cases e
  rename_i hchk
  obtain ⟨es, hE, hrun⟩ := entsA_sound H hx hl
  have hyk := RelV.toV _ _ _ hy hkv
  subst hyk
  have hemp : es.isEmpty = l.isEmpty := by
    have := hE.length
    cases l <;> simp_all [Array.isEmpty]
  have step : ∀ (r : Option (Nat × Value)), (Instr.findKey kt y es.toList).run P w = .ok r w → (Instr.lookup t x y ok).run P w =
      ((match r with
        | some (_, v) => pure (v, true)
        | none => do pure (← zeroValue et, false)) >>= fun (p : Value × Bool) => pure (if ok then Value.tuple #[p.1, .bool p.2] else p.1) : Sem Value).run P w := by
    intro r hr
    have hc := semP_run _ _ hchk w
    rw [← hemp] at hc
    unfold Instr.lookup
    rcases hrun with ⟨rfl, rfl⟩ | ⟨b, clock, rfl, hb⟩
    · simp only [Sem.run_bind, run_under hd, Result.andThen_ok, Sem.run_pure, hc, hr]
      cases r <;> simp <;> (cases (Sem.run P (zeroValue et) w) <;> rfl)
    · simp only [Sem.run_bind, run_under hd, Result.andThen_ok, run_getObj_map hb, Sem.run_pure, hc, hr]
      cases r <;> simp <;> (cases (Sem.run P (zeroValue et) w) <;> rfl)
  split at e
  · rename_i j k' u' b hf
    simp only [Option.some.injEq] at e
    obtain ⟨g1, g2⟩ := findKey_sound (w := w) hE hf
    obtain ⟨en, a1, a2, a3, a4⟩ := g2 _ _ _ _ rfl
    rw [step _ g1]
    simp only [Option.map_some, a1, Option.getD_some]
    cases ok with
    | true => simp only [cond_true] at e; subst e; exact ⟨.tuple #[en.val, .bool true], rfl, relV_tup.2 ⟨[en.val, .bool true], RelL.cons a2 (RelL.cons (RelV.sc _) (RelL.nil_iff.2 rfl)), rfl⟩⟩
    | false => simp only [cond_false] at e; subst e; exact ⟨en.val, rfl, a2⟩
  · rename_i hf
    split at e
    case h_2 => cases e
    rename_i z hz
    simp only [Option.some.injEq] at e
    obtain ⟨g1, _⟩ := findKey_sound (w := w) hE hf
    rw [step _ g1]
    simp only [Option.map_none]
    rw [Sem.run_bind, Sem.run_bind, semP_run _ _ hz w]
    cases ok with
    | true => simp only [cond_true] at e; subst e; exact ⟨.tuple #[z, .bool false], rfl, relV_tup.2 ⟨[z, .bool false], RelL.cons (RelV.sc _) (RelL.cons (RelV.sc _) (RelL.nil_iff.2 rfl)), rfl⟩⟩
    | false => simp only [cond_false] at e; subst e; exact ⟨z, rfl, RelV.sc z⟩
  · cases e
end
end Go.Proofs.Ythlcnklbeolhpaa.Ev

/-! EvQ4 -/
namespace Go.Proofs.Ythlcnklbeolhpaa.Ev
open Go Go.RowKit
section
variable {P : Program} {ρ : Rho} {ev : Operand → Option AV} {f : Operand → Value} {st : St} {w : World}

theorem allSc_sound : ∀ {l : List AV} {vs xs : List Value}, RelL ρ l xs → allSc l = some vs → xs = vs
  | [], vs, xs, h, e => by simp only [allSc, Option.some.injEq] at e; subst e; exact RelL.nil_iff.1 h
  | .sc v :: l, vs, xs, h, e => by
    obtain ⟨y, ys, h1, h2, rfl⟩ := h.cons_inv
    simp only [allSc] at e
    split at e
    case h_2 => cases e
    rename_i us hus
    cases e
    rw [relV_sc.1 h1, allSc_sound h2 hus]
  | .ptr _ _ :: _, _, _, _, e | .sl _ _ _ _ _ :: _, _, _, _, e | .mp _ :: _, _, _, _, e | .fn _ _ _ :: _, _, _, _, e | .ifc _ _ :: _, _, _, _, e | .agg _ :: _, _, _, _, e | .tup _ :: _, _, _, _, e | .res _ _ _ :: _, _, _, _, e => by simp [allSc] at e

theorem lenA_sound (H : RelH ρ st w) {t : TypeId} {at' : Array TypeId} (ht : at'[0]? = some t) {u : AV} {n : Nat} {x : Value} (hx : RelV ρ u x) (e : lenA P t st.h u = some n) (ty : TypeId) :
    (Builtin.len_ at' ty #[x]).run P w = .ok (goInt n) w := by
  unfold lenA at e
  split at e
  · rename_i d i k m z c hd
    cases e
    obtain ⟨a, cap, _, _, _, rfl⟩ := relV_sl.1 hx
    simp [Builtin.len_, ht, run_under hd]
  · rename_i d a m c hd
    cases e
    rw [relV_sc.1 hx]
    simp [Builtin.len_, ht, run_under hd]
  · rename_i s hd
    cases e
    rw [relV_sc.1 hx]
    simp [Builtin.len_, ht, run_under hd]
  · rename_i m el hd
    cases e
    simp [Builtin.len_, ht, run_under hd]
  · rename_i hd
    cases e
    rw [relV_sc.1 hx]
    simp [Builtin.len_, ht, run_under hd]
  · rename_i i hd
    split at e
    case h_2 => cases e
    rename_i es clock hg
    cases e
    obtain ⟨b, h1, es', h2, h3⟩ := H.obj i _ hg
    obtain ⟨b', h1', rfl⟩ := relV_mp.1 hx
    rw [h1] at h1'; cases h1'
    have := h3.length
    simp only [Array.length_toList] at this
    simp [Builtin.len_, ht, run_under hd, run_getObj_map h2, this]
  · cases e
theorem capA_sound {t : TypeId} {at' : Array TypeId} (ht : at'[0]? = some t) {u : AV} {n : Nat} {x : Value} (hx : RelV ρ u x) (e : capA P t u = some n) (ty : TypeId) :
    (Builtin.cap_ at' ty #[x]).run P w = .ok (goInt n) w := by
  unfold capA at e
  split at e
  · rename_i d i k m z c hd
    cases e
    obtain ⟨a, cap, _, _, hc, rfl⟩ := relV_sl.1 hx
    have := hc _ rfl
    subst this
    simp [Builtin.cap_, ht, run_under hd]
  · rename_i d a m c hd
    cases e
    rw [relV_sc.1 hx]
    simp [Builtin.cap_, ht, run_under hd]
  · rename_i m el hd
    cases e
    simp [Builtin.cap_, ht, run_under hd]
  · cases e

theorem resolve_builtin {c : Call} {b : Builtin} (hc : c.callee = .builtin b) (t : TypeId) : resolve f c t = pure { target := .builtin b c.argTypes t (c.args.map fun | .const _ => true | _ => false), args := c.args.map f } := by
  unfold resolve; simp only [hc]; rfl

theorem toArr {α β : Type} (a : Array α) (g : α → β) : a.map g = (a.toList.map g).toArray := by
  apply Array.toList_inj.1; simp

theorem builtinQ_sound (H : RelH ρ st w) {b : Builtin} {at' : Array TypeId} {t : TypeId} {vs : List AV} {xs : List Value} {v : AV} (hx : RelL ρ vs xs) (e : builtinQ P st.h b at' t vs = some v) (cs : Array Bool) :
    ∃ y, (builtin b at' t cs xs.toArray).run P w = .ok (.value y) w ∧ RelV ρ v y := by
  unfold builtinQ at e
  split at e
  · split at e
    case h_2 => cases e
    rename_i ty u ht
    split at e
    case h_2 => cases e
    rename_i n hn
    cases e
    obtain ⟨y, ys, h1, h2, rfl⟩ := hx.cons_inv
    have := RelL.nil_iff.1 h2
    subst this
    exact ⟨goInt n, run_v (lenA_sound H ht h1 hn t), RelV.sc _⟩
  · split at e
    case h_2 => cases e
    rename_i ty u ht
    split at e
    case h_2 => cases e
    rename_i n hn
    cases e
    obtain ⟨y, ys, h1, h2, rfl⟩ := hx.cons_inv
    have := RelL.nil_iff.1 h2
    subst this
    exact ⟨goInt n, run_v (capA_sound ht h1 hn t), RelV.sc _⟩
  · split at e
    case h_2 => cases e
    rename_i us hus
    obtain ⟨y, h1, h2⟩ := scF_run (P := P) (ρ := ρ) (w := w) e
    rw [allSc_sound hx hus]
    exact ⟨y, run_v h1, h2⟩
  · split at e
    case h_2 => cases e
    rename_i us hus
    obtain ⟨y, h1, h2⟩ := scF_run (P := P) (ρ := ρ) (w := w) e
    rw [allSc_sound hx hus]
    exact ⟨y, run_v h1, h2⟩
  · cases e

theorem bind_some {α β : Type} {o : Option α} {g : α → Option β} {b : β} (e : o.bind g = some b) : ∃ a, o = some a ∧ g a = some b := Option.bind_eq_some_iff.1 e

/-- The operations that leave the world as it is. -/
theorem evQ_sound (H : RelH ρ st w) (E : EvOk ρ ev f) {o : Oper} {v : AV} (e : evQ P ev st.h o = some v) :
    ∃ y, (execOp f o).run P w = .ok (.value y) w ∧ RelV ρ v y := by
  unfold evQ at e
  split at e
  · rename_i x ho
    exact ⟨f x, by unfold execOp; rw [ho]; rfl, E x v e⟩
  · rename_i x ho
    exact ⟨f x, by unfold execOp; rw [ho]; rfl, E x v e⟩
  · rename_i c a b ho
    unfold execOp; rw [ho]
    exact pickA_sound E e
  · rename_i t ps ho
    obtain ⟨vs, h1, h2⟩ := bind_some e
    obtain ⟨y, g1, g2⟩ := buildA_sound (P := P) (w := w) (ps := ps.map fun (i, x) => (i, f x)) (by simpa using evPs_sound E h1) h2
    refine ⟨y, ?_, g2⟩
    unfold execOp; rw [ho]
    exact run_v g1
  · rename_i t a ho
    split at e
    case h_2 => cases e
    rename_i i k ha
    obtain ⟨y, g1, g2⟩ := loadAt_sound H e (E a _ ha)
    refine ⟨y, ?_, g2⟩
    unfold execOp; rw [ho]
    exact run_v g1
  · rename_i x ho
    obtain ⟨u, h1, h2⟩ := bind_some e
    exact nilCheckA_sound ho h2 (E x u h1)
  · rename_i op t x y t' ho
    obtain ⟨a, h1, e⟩ := bind_some e
    obtain ⟨b, h2, e⟩ := bind_some e
    obtain ⟨z, g1, g2⟩ := evBin_sound (P := P) (w := w) (E x a h1) (E y b h2) e
    refine ⟨z, ?_, g2⟩
    unfold execOp; rw [ho]
    exact run_v g1
  · rename_i op t x ho
    obtain ⟨u, h1, e⟩ := bind_some e
    obtain ⟨y, g1, g2⟩ := unOpA_sound (P := P) (w := w) (E x u h1) e
    refine ⟨y, ?_, g2⟩
    unfold execOp; rw [ho]
    exact run_v g1
  · rename_i s d x ho
    obtain ⟨u, h1, e⟩ := bind_some e
    obtain ⟨y, g1, g2⟩ := convertA_sound (P := P) (w := w) (E x u h1) e
    refine ⟨y, ?_, g2⟩
    unfold execOp; rw [ho]
    exact run_v g1
  · rename_i t x ho
    obtain ⟨u, h1, e⟩ := bind_some e
    obtain ⟨y, g1, g2⟩ := makeIfcA_sound (P := P) (w := w) (E x u h1) e
    refine ⟨y, ?_, g2⟩
    unfold execOp; rw [ho]
    exact run_v g1
  · rename_i g a b ho
    obtain ⟨l, h1, e⟩ := bind_some e
    obtain ⟨m, h2, e⟩ := bind_some e
    cases e
    refine ⟨.func g (a.toList.map f).toArray (b.toList.map f).toArray, ?_, relV_fn.2 ⟨_, _, evXs_sound E h1, evXs_sound E h2, rfl⟩⟩
    unfold execOp; rw [ho]
    simp only [Instr.makeFunc, pure_bind]
    rw [toArr a f, toArr b f]; rfl
  · rename_i t x lo hi mx ho
    obtain ⟨u, h1, e⟩ := bind_some e
    obtain ⟨l, h2, e⟩ := bind_some e
    obtain ⟨h, h3, e⟩ := bind_some e
    obtain ⟨m, h4, e⟩ := bind_some e
    obtain ⟨y, g1, g2⟩ := sliceQ_sound (P := P) H (E x u h1) (optX_sound E h2) (optX_sound E h3) (optX_sound E h4) e
    refine ⟨y, ?_, g2⟩
    unfold execOp; rw [ho]
    exact run_v g1
  · rename_i s x n ho
    obtain ⟨u, h1, e⟩ := bind_some e
    obtain ⟨y, g1, g2⟩ := fieldAddrA_sound (P := P) (w := w) (E x u h1) e
    refine ⟨y, ?_, g2⟩
    unfold execOp; rw [ho]
    exact run_v g1
  · rename_i s x n ho
    obtain ⟨u, h1, e⟩ := bind_some e
    obtain ⟨y, g1, g2⟩ := fieldA_sound (P := P) (w := w) (E x u h1) e
    refine ⟨y, ?_, g2⟩
    unfold execOp; rw [ho]
    exact run_v g1
  · rename_i t x ix ho
    obtain ⟨u, h1, e⟩ := bind_some e
    obtain ⟨i, h2, e⟩ := bind_some e
    obtain ⟨y, g1, g2⟩ := indexAddrA_sound (P := P) (w := w) (E x u h1) (E ix i h2) e
    refine ⟨y, ?_, g2⟩
    unfold execOp; rw [ho]
    exact run_v g1
  · rename_i t x ix ho
    obtain ⟨u, h1, e⟩ := bind_some e
    obtain ⟨i, h2, e⟩ := bind_some e
    obtain ⟨y, g1, g2⟩ := indexA_sound (P := P) (w := w) (E x u h1) (E ix i h2) e
    refine ⟨y, ?_, g2⟩
    unfold execOp; rw [ho]
    exact run_v g1
  · rename_i t x k ok ho
    obtain ⟨u, h1, e⟩ := bind_some e
    obtain ⟨i, h2, e⟩ := bind_some e
    obtain ⟨y, g1, g2⟩ := lookupA_sound (P := P) H (E x u h1) (E k i h2) e
    refine ⟨y, ?_, g2⟩
    unfold execOp; rw [ho]
    exact run_v g1
  · rename_i x s t ok ho
    obtain ⟨u, h1, e⟩ := bind_some e
    obtain ⟨y, g1, g2⟩ := typeAssertA_sound (P := P) (w := w) (s := s) (E x u h1) e
    refine ⟨y, ?_, g2⟩
    unfold execOp; rw [ho]
    exact run_v g1
  · rename_i x n ho
    obtain ⟨u, h1, e⟩ := bind_some e
    obtain ⟨y, g1, g2⟩ := extractA_sound (P := P) (w := w) (E x u h1) e
    refine ⟨y, ?_, g2⟩
    unfold execOp; rw [ho]
    exact run_v g1
  · rename_i c ho
    split at e
    case h_2 => cases e
    rename_i b hc
    obtain ⟨vs, h1, e⟩ := bind_some e
    obtain ⟨y, g1, g2⟩ := builtinQ_sound (P := P) H (evXs_sound E h1) e (c.args.map fun | .const _ => true | _ => false)
    refine ⟨y, ?_, g2⟩
    unfold execOp; rw [ho]
    simp only
    rw [Sem.run_bind, resolve_builtin hc]
    simp only [Sem.run_pure, Result.andThen_ok, invoke]
    rw [toArr c.args f]
    exact g1
  · cases e
end
end Go.Proofs.Ythlcnklbeolhpaa.Ev
