import Derived.Below
import Derived.Orders
import Derived.Scope
import Derived.KernelRfl
namespace Go.Proofs.Ytfkfejonlfcgoaa.Ev
open Go Go.RowKit
noncomputable section

/-! Finite maps from numbers. -/
inductive T (α : Type) where
  | leaf
  | node (l : T α) (v : Option α) (r : T α)

namespace T
variable {α : Type}
def nodeGet (v : Option α) (gl gr : Nat → Option α) (n : Nat) : Option α :=
  @Nat.rec (fun _ => Option α) v (fun m _ => @Nat.rec (fun _ => Option α) (gl (Nat.div m 2)) (fun _ _ => gr (Nat.div m 2)) (Nat.mod m 2)) n
def get (t : T α) : Nat → Option α :=
  @T.rec α (fun _ => Nat → Option α) (fun _ => none) (fun _ v _ gl gr => nodeGet v gl gr) t
/-- A tree with one entry. -/
def one (x : α) (f : Nat) : Nat → T α :=
  @Nat.rec (fun _ => Nat → T α) (fun _ => .leaf) (fun _ p n =>
    @Nat.rec (fun _ => T α) (.node .leaf (some x) .leaf) (fun m _ => @Nat.rec (fun _ => T α) (.node (p (Nat.div m 2)) none .leaf) (fun _ _ => .node .leaf none (p (Nat.div m 2))) (Nat.mod m 2)) n) f
def nodePut (x : α) (l : T α) (v : Option α) (r : T α) (pl pr : Nat → T α) (n : Nat) : T α :=
  @Nat.rec (fun _ => T α) (.node l (some x) r) (fun m _ => @Nat.rec (fun _ => T α) (.node (pl (Nat.div m 2)) v r) (fun _ _ => .node l v (pr (Nat.div m 2))) (Nat.mod m 2)) n
def put (t : T α) (n : Nat) (x : α) : T α :=
  @T.rec α (fun _ => Nat → T α) (fun n => one x (n + 1) n) (fun l v r pl pr => nodePut x l v r pl pr) t n
end T

/-! Abstract values, objects, states. -/
inductive AV where
  | sc (v : Value)
  | ptr (i k : Nat)
  | sl (i k n z : Nat) (c : Option Nat)
  | mp (i : Nat)
  | fn (f : Fn) (first captured : List AV)
  | ifc (t : TypeId) (v : AV)
  | agg (l : List AV)
  | tup (l : List AV)
  | res (k : IntKind) (m r : Nat)
  deriving Inhabited

inductive AO where
  | cells (c : T (AV × Nat)) (lo hi cls : Nat) (w : T Nat)
  | map (es : List (Value × AV × Nat)) (clock : Nat)
  deriving Inhabited

structure St where
  h : T AO
  nx : Nat

/-- What a computation yields that asks for nothing but the program. -/
def semP {α : Type} (P : Program) (s : Sem α) : Option α :=
  @Sem.rec α (fun _ => Option α) (fun a => some a) (fun _ _ _ _ => none) (fun _ _ _ _ _ => none) (fun _ _ _ => none) (fun _ _ _ => none) (fun _ _ _ _ => none) (fun _ _ _ => none)
    (fun _ _ _ => none) (fun _ _ _ _ => none) (fun _ _ _ => none) (fun _ _ _ => none) (fun _ ih => ih P) (fun _ _ _ => none) (fun _ => none) s

def forceI (n : Int) : Bool := match n with | .ofNat m => m.beq m | .negSucc m => m.beq m
def forced (v : Value) : Bool := match v with | .int _ n => forceI n | .bool b => b || true | _ => true

def AV.cells : AV → List AV
  | .agg l => l
  | .sc v => v.cells.toList.map .sc
  | v => [v]
/-- A value that fits into one cell. -/
def AV.one : AV → Bool
  | .sc (.agg _) | .sc (.tuple _) | .agg _ | .tup _ => false
  | _ => true

/-! Memory. -/
def rdCell (h : T AO) (i k : Nat) : Option AV :=
  match h.get i with
  | some (.cells c lo hi cls _) =>
    bif lo.ble k && k.blt hi then
      match c.get k with
      | some (v, s) => match h.get cls with
        | some (.cells _ _ _ _ w) => match w.get k with
          | none => some v
          | some s' => bif s'.ble s then some v else none
        | _ => none
      | none => none
    else none
  | _ => none
def rdCells (h : T AO) (i : Nat) : Nat → Nat → Option (List AV)
  | _, 0 => some []
  | k, n + 1 => match rdCell h i k with
    | some v => match rdCells h i (k + 1) n with
      | some l => some (v :: l)
      | none => none
    | none => none
def wrCell (st : St) (i k : Nat) (v : AV) : Option St :=
  match st.h.get i with
  | some (.cells c lo hi cls w) =>
    bif lo.ble k && k.blt hi && v.one then
      bif cls.beq i then some ⟨st.h.put i (.cells (c.put k (v, st.nx)) lo hi cls (w.put k st.nx)), st.nx + 1⟩
      else match st.h.get cls with
        | some (.cells c' lo' hi' cls' w') =>
          some ⟨(st.h.put cls (.cells c' lo' hi' cls' (w'.put k st.nx))).put i (.cells (c.put k (v, st.nx)) lo hi cls w), st.nx + 1⟩
        | _ => none
    else none
  | _ => none
def wrCells (st : St) (i k : Nat) : List AV → Option St
  | [] => some st
  | v :: l => match wrCell st i k v with
    | some st' => wrCells st' i (k + 1) l
    | none => none
/-- Values laid from cell q on, with a stamp. -/
def lay (s : Nat) : List AV → Nat → T (AV × Nat) → T (AV × Nat)
  | [], _, t => t
  | v :: l, q, t => lay s l (q + 1) (t.put q (v, s))
/-- r cells from q on are written anew at stamp s. -/
def bump (s : Nat) : Nat → Nat → T Nat → T Nat
  | 0, _, t => t
  | r + 1, q, t => bump s r (q + 1) (t.put q s)
def allOne : List AV → Bool
  | [] => true
  | v :: l => v.one && allOne l
/-- A new row of cells: its object. -/
def rowOf (i : Nat) (l : List AV) : Option AO := bif allOne l then some (.cells (lay 0 l 0 .leaf) 0 l.length i .leaf) else none

/-! Operands. -/
def evX (tm : T AV) : Operand → Option AV
  | .tmp t => tm.get t
  | .const v => some (.sc v)
  | .func f => some (.sc (.func (.func f) #[] #[]))
  | .global _ => none
def evXs (ev : Operand → Option AV) : List Operand → Option (List AV)
  | [] => some []
  | x :: l => match ev x with
    | some v => match evXs ev l with
      | some vs => some (v :: vs)
      | none => none
    | none => none
/-- Parts of a literal. -/
def evPs (ev : Operand → Option AV) : List (Nat × Operand) → Option (List (Nat × AV))
  | [] => some []
  | (i, x) :: l => match ev x with
    | some v => match evPs ev l with
      | some vs => some ((i, v) :: vs)
      | none => none
    | none => none

def setAll (k : Nat) : List AV → List AV → List AV
  | [], cs => cs
  | v :: l, cs => setAll (k + 1) l (cs.set k v)
def fillA (place : Nat → Option (Nat × Nat)) (cells : List AV) : List (Nat × AV) → Option (List AV)
  | [] => some cells
  | (i, v) :: rest =>
    match place i with
    | none => none
    | some (off, size) =>
      let vc := v.cells
      bif vc.length.beq size && (off + vc.length).ble cells.length then fillA place (setAll off vc cells) rest else none

def scs (l : List Value) : List AV := l.map .sc
mutual
/-- The value itself, where nothing in it leads to memory. -/
def AV.toV : AV → Option Value
  | .sc v => some v
  | .agg l => match toVs l with | some vs => some (.agg vs.toArray) | none => none
  | .tup l => match toVs l with | some vs => some (.tuple vs.toArray) | none => none
  | _ => none
def toVs : List AV → Option (List Value)
  | [] => some []
  | v :: l => match v.toV with
    | some x => match toVs l with
      | some xs => some (x :: xs)
      | none => none
    | none => none
end

def asInt? : AV → Option Int
  | .sc (.int _ n) => some n
  | _ => none
/-- A bound of a slice expression: within 0 and y. -/
def bnd (x : AV) (y : Nat) : Option Nat :=
  match x with
  | .sc (.int _ (.ofNat n)) => bif n.ble y then some n else none
  | _ => none
def bndO (x : Option AV) (y d : Nat) : Option Nat := match x with | some v => bnd v y | none => some d

/-- The parts of a slice expression over len, cap (a lower bound of it, exact or not): low, high, the new cap if it is known. -/
def sliceA (len : Nat) (cap : Option Nat) (lo hi mx : Option AV) : Option (Nat × Nat × Option Nat) :=
  let top := cap.getD len
  match mx with
  | some m => match bnd m top with
    | none => none
    | some m => match hi with
      | none => none
      | some hv => match bnd hv m with
        | none => none
        | some h => match bndO lo h 0 with
          | none => none
          | some l => some (l, h, some (m - l))
  | none => match bndO hi top len with
    | none => none
    | some h => match bndO lo h 0 with
      | none => none
      | some l => some (l, h, match cap with | some c => some (c - l) | none => none)

def optX (ev : Operand → Option AV) : Option Operand → Option (Option AV)
  | none => some none
  | some x => match ev x with | some v => some (some v) | none => none

def mkIfc (t : TypeId) : AV → AV
  | .sc v => .sc (.iface t v)
  | v => .ifc t v
def nth (l : List AV) (i : Nat) : Option AV := l[i]?

/-- A part of an aggregate. -/
def partA (P : Program) (t : TypeId) (cs : List AV) (off : Nat) : Option AV :=
  match semP P (isAgg t) with
  | some true => match semP P (sizeOf t) with
    | some n => bif (off + n).ble cs.length then some (.agg ((cs.drop off).take n)) else none
    | none => none
  | some false => nth cs off
  | none => none

def isNilV : Value → Bool
  | .pointer none | .slice none _ _ | .map none | .nilFunc | .nilIface => true
  | _ => false
def unlike (op : BinOp) : Option Value := match op with | .eql => some (.bool false) | .neq => some (.bool true) | _ => none
/-- Is a value that is no scalar equal to nil of its type? -/
def eqNil (P : Program) (op : BinOp) (t : TypeId) (x : AV) (y : Value) : Option Value :=
  match x, y, P.underlying t with
  | .ptr _ _, .pointer none, some (.pointer _) => unlike op
  | .sl _ _ _ _ _, .slice none _ _, some (.slice _) => unlike op
  | .mp _, .map none, some (.map _ _) => unlike op
  | .fn _ _ _, .nilFunc, some (.func _ _ _) => unlike op
  | .ifc _ _, .nilIface, some (.interface _) => unlike op
  | _, _, _ => none

def evBin0 (P : Program) (op : BinOp) (t : TypeId) (x y : Operand) (a b : AV) : Option AV :=
  match a.toV, b.toV with
  | some u, some v => match semP P (do eqGuard op t x y u v; binOp op t u v) with
    | some r => bif forced r then some (.sc r) else none
    | none => none
  | none, some v => match eqNil P op t a v with | some r => some (.sc r) | none => none
  | some v, none => match eqNil P op t b v with | some r => some (.sc r) | none => none
  | _, _ => none

/-- Of a number that is known by its remainder alone: its remainder by a divisor. -/
def resRem (op : BinOp) (k : IntKind) (m r : Nat) : AV → Option AV
  | .sc (.int j (.ofNat c)) => match op with
    | .rem => bif decide (j = k) && Nat.blt 0 c && Nat.blt c 32768 && (m % c).beq 0 && (r % c).beq (r % c) then some (.sc (.int k (.ofNat (r % c)))) else none
    | _ => none
  | _ => none
def evBin (P : Program) (op : BinOp) (t : TypeId) (x y : Operand) (a b : AV) : Option AV :=
  match a with
  | .res k m r => resRem op k m r b
  | a => evBin0 P op t x y a b

def lenA (P : Program) (t : TypeId) (h : T AO) (x : AV) : Option Nat :=
  match P.underlying t, x with
  | some (.slice _), .sl _ _ n _ _ => some n
  | some (.slice _), .sc (.slice _ n _) => some n
  | some .string, .sc (.string s) => some s.size
  | some (.array n _), _ => some n
  | some (.map _ _), .sc (.map none) => some 0
  | some (.map _ _), .mp i => match h.get i with | some (.map es _) => some es.length | _ => none
  | _, _ => none
def capA (P : Program) (t : TypeId) (x : AV) : Option Nat :=
  match P.underlying t, x with
  | some (.slice _), .sl _ _ _ _ (some c) => some c
  | some (.slice _), .sc (.slice _ _ c) => some c
  | some (.array n _), _ => some n
  | _, _ => none

/-- Where a key stands among entries. -/
def findA (P : Program) (kt : TypeId) (k : Value) : List (Value × AV × Nat) → Nat → Option (Option (Nat × Value × AV × Nat))
  | [], _ => some none
  | (k', v, b) :: es, i => match semP P (Op.equal kt k k') with
    | some true => some (some (i, k', v, b))
    | some false => findA P kt k es (i + 1)
    | none => none

def findKeyA (P : Program) (kt : TypeId) (k : Value) (es : List (Value × AV × Nat)) : Option (Option (Nat × Value × AV × Nat)) :=
  match P.underlying kt with
  | some _ => findA P kt k es 0
  | none => none

/-- What a variable holds. -/
def loadA (P : Program) (h : T AO) (t : TypeId) (i k : Nat) : Option AV :=
  match semP P (isAgg t) with
  | some true => match semP P (sizeOf t) with
    | some n => match rdCells h i k n with
      | some l => some (.agg l)
      | none => none
    | none => none
  | some false => rdCell h i k
  | none => none

def unA : Option AV → Option (Option Value)
  | none => some none
  | some (.sc v) => some (some v)
  | some _ => none
def allSc : List AV → Option (List Value)
  | [] => some []
  | .sc v :: l => match allSc l with | some vs => some (v :: vs) | none => none
  | _ :: _ => none
/-- An interface value's type and value. -/
def dynA : AV → Option (TypeId × AV)
  | .ifc t v => some (t, v)
  | .sc (.iface t v) => some (t, .sc v)
  | _ => none

def pickA (ev : Operand → Option AV) (c a b : Operand) : Option AV :=
  match ev c with
  | some (.sc (.bool true)) => ev a
  | some (.sc (.bool false)) => ev b
  | _ => none
def buildA (P : Program) (t : TypeId) (vs : List (Nat × AV)) : Option AV :=
  match semP P (zeroValue t) with
  | none => none
  | some z => match P.underlying t with
    | some (.struct fs) => match semP P (fs.mapM fun f => do pure (f.offset, ← sizeOf f.type)) with
      | some places => match fillA (places[·]?) (scs z.cells.toList) vs with
        | some cs => some (.agg cs)
        | none => none
      | none => none
    | some (.array _ e) => match semP P (sizeOf e) with
      | some size => match fillA (fun i => some (i * size, size)) (scs z.cells.toList) vs with
        | some cs => some (.agg cs)
        | none => none
      | none => none
    | _ => none
def nilCheckA : AV → Option AV
  | .ptr i k => some (.ptr i k)
  | .fn (.func f) a b => some (.fn (.func f) a b)
  | .sc (.func (.func f) a b) => some (.sc (.func (.func f) a b))
  | .ifc t v => some (.ifc t v)
  | .sc (.iface t v) => some (.sc (.iface t v))
  | _ => none
/-- A number that was computed, its digits forced. -/
def scF : Option Value → Option AV
  | some r => bif forced r then some (.sc r) else none
  | none => none
def unOpA (P : Program) (op : UnOp) : AV → Option AV
  | .sc v => scF (semP P (Op.unary op v))
  | _ => none
def convertA (P : Program) (s d : TypeId) : AV → Option AV
  | .sc v => scF (semP P (convert s d v))
  | .res _ m r => match P.underlying s, P.underlying d with
    | some (.int _), some (.int .i64) => some (.res .i64 m r)
    | _, _ => none
  | _ => none
def makeIfcA (P : Program) (t : TypeId) (v : AV) : Option AV :=
  match P.underlying t with
  | some (.interface _) => none
  | some _ => some (mkIfc t v)
  | none => none
def sliceQ (P : Program) (h : T AO) (t : TypeId) (v : AV) (lo hi mx : Option AV) : Option AV :=
  match v with
  | .sc v => match unA lo, unA hi, unA mx with
    | some lo, some hi, some mx => match semP P (Instr.sliceAt t v lo hi mx) with
      | some r => some (.sc r)
      | none => none
    | _, _, _ => none
  | .sl i k n z c => match P.underlying t with
    | some (.slice e) => match semP P (sizeOf e) with
      | some size => match sliceA n c lo hi mx with
        | some (l, h, c') => bif size.beq z then some (.sl i (k + l * size) (h - l) z c') else none
        | none => none
      | none => none
    | _ => none
  | .ptr i k => match P.underlying t with
    | some (.array n e) => match semP P (sizeOf e) with
      | some size => match sliceA n (some n) lo hi mx with
        | some (l, h', c') => match h.get i with
          | some (.cells _ blo bhi _ _) => bif blo.ble k && (k + n * size).ble bhi then some (.sl i (k + l * size) (h' - l) size c') else none
          | _ => none
        | none => none
      | none => none
    | _ => none
  | _ => none
def fieldAddrA (P : Program) (s : TypeId) (x : AV) (f : Nat) : Option AV :=
  match x with
  | .ptr i k => match P.underlying s with
    | some (.struct fs) => match fs[f]? with
      | some fd => match semP P (sizeOf fd.type) with
        | some (_ + 1) => some (.ptr i (k + fd.offset))
        | _ => none
      | none => none
    | _ => none
  | _ => none
def aggOf : AV → Option (List AV)
  | .agg cs => some cs
  | .sc (.agg cs) => some (scs cs.toList)
  | _ => none
def fieldA (P : Program) (t : TypeId) (x : AV) (f : Nat) : Option AV :=
  match aggOf x with
  | some cs => match P.underlying t with
    | some (.struct fs) => match fs[f]? with
      | some fd => partA P fd.type cs fd.offset
      | none => none
    | _ => none
  | none => none
def natOf : AV → Option Nat
  | .sc (.int _ (.ofNat m)) => some m
  | _ => none
def indexAddrA (P : Program) (t : TypeId) (x ix : AV) : Option AV :=
  match natOf ix with
  | none => none
  | some m => match x with
    | .ptr i k => match P.underlying t with
      | some (.array n e) => match semP P (sizeOf e) with
        | some size => bif m.blt n then some (.ptr i (k + m * size)) else none
        | none => none
      | _ => none
    | .sl i k n _ _ => match P.underlying t with
      | some (.slice e) => match semP P (sizeOf e) with
        | some size => bif m.blt n then some (.ptr i (k + m * size)) else none
        | none => none
      | _ => none
    | _ => none
def indexA (P : Program) (t : TypeId) (x ix : AV) : Option AV :=
  match x with
  | .agg cs => match natOf ix with
    | none => none
    | some m => match P.underlying t with
      | some (.array n e) => match semP P (sizeOf e) with
        | some size => bif m.blt n then partA P e cs (m * size) else none
        | none => none
      | _ => none
  | .sc v => match ix with
    | .sc i => scF (semP P (Instr.index t v i))
    | _ => none
  | _ => none
def entsA (h : T AO) : AV → Option (List (Value × AV × Nat))
  | .sc (.map none) => some []
  | .mp i => match h.get i with
    | some (.map es _) => some es
    | _ => none
  | _ => none
def lookupA (P : Program) (h : T AO) (t : TypeId) (m k : AV) (ok : Bool) : Option AV :=
  match k.toV with
  | none => none
  | some kv => match P.underlying t with
    | some (.map kt et) => match entsA h m with
      | none => none
      | some es => match semP P (Instr.checkKey es.isEmpty 10000 kt kv) with
        | none => none
        | some _ => match findKeyA P kt kv es with
          | some (some (_, _, v, _)) => some (bif ok then .tup [v, .sc (.bool true)] else v)
          | some none => match semP P (zeroValue et) with
            | some z => some (bif ok then .tup [.sc z, .sc (.bool false)] else .sc z)
            | none => none
          | none => none
    | _ => none
def isNilI : AV → Bool
  | .sc .nilIface => true
  | _ => false
def typeAssertA (P : Program) (x : AV) (t : TypeId) (ok : Bool) : Option AV :=
  match dynA x with
  | none => bif isNilI x && ok then match P.underlying t, semP P (zeroValue t) with
      | some _, some z => some (.tup [.sc z, .sc (.bool false)])
      | _, _ => none
    else none
  | some (dt, dv) => match P.underlying t with
    | none => none
    | some (.interface _) => none
    | some _ => bif dt.beq t then some (bif ok then .tup [dv, .sc (.bool true)] else dv)
      else bif ok then match semP P (zeroValue t) with
        | some z => some (.tup [.sc z, .sc (.bool false)])
        | none => none
      else none
def extractA (x : AV) (i : Nat) : Option AV :=
  match x with
  | .tup l => nth l i
  | .sc (.tuple vs) => match vs[i]? with
    | some v => some (.sc v)
    | none => none
  | _ => none
def builtinQ (P : Program) (h : T AO) (b : Builtin) (argTypes : Array TypeId) (t : TypeId) (args : List AV) : Option AV :=
  match b with
  | .len => match argTypes[0]?, args with
    | some t, [x] => match lenA P t h x with
      | some n => some (.sc (goInt n))
      | none => none
    | _, _ => none
  | .cap => match argTypes[0]?, args with
    | some t, [x] => match capA P t x with
      | some n => some (.sc (goInt n))
      | none => none
    | _, _ => none
  | .min => match allSc args with
    | some vs => scF (semP P (Builtin.min_ argTypes t vs.toArray))
    | none => none
  | .max => match allSc args with
    | some vs => scF (semP P (Builtin.max_ argTypes t vs.toArray))
    | none => none
  | _ => none

/-- The operations that leave the world as it is. -/
def evQ (P : Program) (ev : Operand → Option AV) (h : T AO) (o : Oper) : Option AV :=
  match o.op with
  | .move x | .assign x => ev x
  | .pick c a b => pickA ev c a b
  | .build t ps => (evPs ev ps.toList).bind (buildA P t)
  | .load t a => match ev a with
    | some (.ptr i k) => loadA P h t i k
    | _ => none
  | .nilCheck x => (ev x).bind nilCheckA
  | .binOp op t x y _ => (ev x).bind fun a => (ev y).bind fun b => evBin P op t x y a b
  | .unOp op _ x => (ev x).bind (unOpA P op)
  | .convert s d x => (ev x).bind (convertA P s d)
  | .makeInterface t x => (ev x).bind (makeIfcA P t)
  | .makeFunc f a b => (evXs ev a.toList).bind fun l => (evXs ev b.toList).bind fun m => some (.fn f l m)
  | .slice t x lo hi mx => (ev x).bind fun v => (optX ev lo).bind fun lo => (optX ev hi).bind fun hi => (optX ev mx).bind fun mx => sliceQ P h t v lo hi mx
  | .fieldAddr s x f => (ev x).bind fun v => fieldAddrA P s v f
  | .field t x f => (ev x).bind fun v => fieldA P t v f
  | .indexAddr t x ix => (ev x).bind fun v => (ev ix).bind fun i => indexAddrA P t v i
  | .index t x ix => (ev x).bind fun v => (ev ix).bind fun i => indexA P t v i
  | .lookup t x k ok => (ev x).bind fun m => (ev k).bind fun k => lookupA P h t m k ok
  | .typeAssert x _ t ok => (ev x).bind fun v => typeAssertA P v t ok
  | .extract x i => (ev x).bind fun v => extractA v i
  | .call c => match c.callee with
    | .builtin b => (evXs ev c.args.toList).bind (builtinQ P h b c.argTypes o.type)
    | _ => none
  | _ => none

/-- The operations that make one object, number i, and do nothing besides. -/
def evF (P : Program) (ev : Operand → Option AV) (i : Nat) (o : Oper) : Option (AV × AO) :=
  match o.op with
  | .alloc t => match semP P (zeroValue t) with
    | some z => match rowOf i (scs z.cells.toList) with | some ao => some (.ptr i 0, ao) | none => none
    | none => none
  | .box _ x => match ev x with
    | some v => match rowOf i v.cells with | some ao => some (.ptr i 0, ao) | none => none
    | none => none
  | .buildSlice t n ps => match evPs ev ps.toList, P.underlying t with
    | some vs, some (.slice e) => match semP P (sizeOf e), semP P (zeroValue e) with
      | some size, some z =>
        bif (n * size).ble 4096 then
          match fillA (fun i => some (i * size, size)) (scs ((Array.range (n * size)).map (z.cells[· % z.cells.size]!)).toList) vs with
          | some cs => match rowOf i cs with | some ao => some (.sl i 0 n size (some n), ao) | none => none
          | none => none
        else none
      | _, _ => none
    | _, _ => none
  | .makeMap _ r => match r with
    | none => some (.mp i, .map [] 0)
    | some _ => none
  | .makeSlice t l c => match ev l, ev c, P.underlying t with
    | some (.sc (.int _ (.ofNat l))), some (.sc (.int _ (.ofNat c))), some (.slice e) =>
      match semP P (sizeOf e), semP P (zeroValue e), semP P (typeInfo e) with
      | some size, some z, some info =>
        bif l.ble c && c.ble 65536 && (info.bytes).ble 65536 && (1).ble (c * size) then
          match rowOf i (scs ((Array.range (c * size)).map (z.cells[· % z.cells.size]!)).toList) with
          | some ao => some (.sl i 0 l size (some c), ao)
          | none => none
        else none
      | _, _, _ => none
    | _, _, _ => none
  | _ => none

/-- What is appended: how many elements, and their cells. -/
def addedA (st : St) (info : TypeInfo) (z : Value) (zeros : Bool) (x : AV) : Option (Nat × List AV) :=
  bif zeros then
    match x with
    | .sc (.int _ (.ofNat m)) => bif m.ble 65536 then some (m, scs (Builtin.zeroCells z.cells m).toList) else none
    | _ => none
  else match x with
    | .sl j k n _ _ => match rdCells st.h j k (n * info.size) with
      | some l => some (n, l)
      | none => none
    | .sc (.slice none n _) => bif n.beq 0 then some (0, []) else none
    | .sc (.string b) => some (b.size, b.data.toList.map fun b => .sc (.int .u8 b.toNat))
    | _ => none
/-- The slice behind an append that may lie where the old one lies: a version of its object. -/
def versionA (st : St) (i k n m size : Nat) (c : Option Nat) (new : List AV) : Option (AV × St) :=
  match st.h.get i with
  | some (.cells cs lo hi cls _) =>
    bif lo.ble k && (k + n * size).ble hi && allOne new then
      match st.h.get cls with
      | some (.cells c' lo' hi' cls' w') =>
        some (.sl st.nx k (n + m) size c,
          ⟨(st.h.put cls (.cells c' lo' hi' cls' (bump st.nx (m * size) (k + n * size) w'))).put st.nx
            (.cells (lay st.nx new (k + n * size) cs) k (k + (n + m) * size) cls .leaf), st.nx + 1⟩)
      | _ => none
    else none
  | _ => none
def mayFit (c : Option Nat) (need : Nat) : Bool := match c with | some c => need.ble c | none => true
def appendA (P : Program) (st : St) (sT : TypeId) (zeros : Bool) (s x : AV) : Option (AV × St) :=
  match P.underlying sT with
  | some (.slice e) => match semP P (typeInfo e) with
    | none => none
    | some info => match info.zero with
      | none => none
      | some z => match addedA st info z zeros x with
        | none => none
        | some (m, new) =>
          bif (1).ble info.size && info.bytes.ble 65536 && new.length.beq (m * info.size) && z.cells.size.beq info.size && m.ble 65536 then
            match s with
            | .sc (.slice none n c) =>
              bif n.beq 0 && c.beq 0 then
                bif m.beq 0 then some (s, st)
                else match rowOf st.nx new with
                  | some ao => some (.sl st.nx 0 m info.size none, ⟨st.h.put st.nx ao, st.nx + 1⟩)
                  | none => none
              else none
            | .sl i k n zz c =>
              bif (n + m).ble 65536 && zz.beq info.size then
                bif m.beq 0 then some (s, st)
                else bif mayFit c (n + m) then versionA st i k n m info.size c new
                else match rdCells st.h i k (n * info.size) with
                  | some old => match rowOf st.nx (old ++ new) with
                    | some ao => some (.sl st.nx 0 (n + m) info.size none, ⟨st.h.put st.nx ao, st.nx + 1⟩)
                    | none => none
                  | none => none
              else none
            | _ => none
          else none
  | _ => none

def storeA (P : Program) (st : St) (t : TypeId) (a v : AV) : Option St :=
  match a with
  | .ptr i k => match semP P (sizeOf t) with
    | some n => let cs := v.cells
      bif cs.length.beq n then wrCells st i k cs else none
    | none => none
  | _ => none

/-- Entry i's key and value anew. -/
def setEnt (key : Value) (v : AV) : Nat → List (Value × AV × Nat) → List (Value × AV × Nat)
  | _, [] => []
  | 0, (_, _, b) :: es => (key, v, b) :: es
  | i + 1, e :: es => e :: setEnt key v i es
def bornAt (b : Int) : List (Value × AV × Nat) → Nat → Option (Nat × Value)
  | [], _ => none
  | (k, _, c) :: es, i => bif decide ((c : Int) = b) then some (i, k) else bornAt b es (i + 1)

def evMapUpdate (P : Program) (st : St) (t : TypeId) (m k v : AV) : Option St :=
  match m, k.toV, P.underlying t with
  | .mp i, some kv, some (.map kt _) => match st.h.get i with
    | some (.map es clock) =>
      match semP P (Instr.checkKey false 10000 kt kv), findKeyA P kt kv es with
      | some _, some (some (j, k', _, _)) => match semP P (Instr.keyThatStays k' kv) with
        | some key => some ⟨st.h.put i (.map (setEnt key v j es) clock), st.nx⟩
        | none => none
      | some _, some none => some ⟨st.h.put i (.map (es ++ [(kv, v, clock)]) (clock + 1)), st.nx⟩
      | _, _ => none
    | _ => none
  | _, _, _ => none

def evMapEntry (P : Program) (st : St) (t : TypeId) (m k : AV) : Option (AV × St) :=
  match m, k.toV, P.underlying t with
  | .mp i, some kv, some (.map kt et) => match st.h.get i with
    | some (.map es clock) =>
      match semP P (Instr.checkKey false 10000 kt kv), findKeyA P kt kv es with
      | some _, some (some (j, k', v, b)) => match semP P (Instr.keyThatStays k' kv) with
        | some key => some (.tup [v, .sc (goInt b)], ⟨st.h.put i (.map (setEnt key v j es) clock), st.nx⟩)
        | none => none
      | some _, some none => match semP P (zeroValue et) with
        | some z => some (.tup [.sc z, .sc (goInt clock)], ⟨st.h.put i (.map (es ++ [(kv, .sc z, clock)]) (clock + 1)), st.nx⟩)
        | none => none
      | _, _ => none
    | _ => none
  | _, _, _ => none
def evEntryStore (st : St) (m s v : AV) : Option St :=
  match m, s with
  | .mp i, .sc (.int _ b) => match st.h.get i with
    | some (.map es clock) => match bornAt b es 0 with
      | some (j, key) => some ⟨st.h.put i (.map (setEnt key v j es) clock), st.nx⟩
      | none => none
    | _ => none
  | _, _ => none

/-- The call that a function value stands for. -/
def calleeA (f : AV) (args : List AV) : Option (FuncId × List AV) :=
  match f with
  | .fn (.func g) first captured => some (g, first ++ args ++ captured)
  | .sc (.func (.func g) first captured) => some (g, scs first.toList ++ args ++ scs captured.toList)
  | _ => none
def invokeA (P : Program) (recv : AV) (name : String) (args : List AV) : Option (FuncId × List AV) :=
  match dynA recv with
  | none => none
  | some (t, v) => match semP P (typeInfo t) with
    | none => none
    | some info => match info.methods.find? (·.name == name) with
      | none => none
      | some m => match m.path.isEmpty, m.func, P.underlying t with
        | true, some (f, pr), some d => match d, pr with
          | .pointer _, true => some (f, v :: args)
          | .pointer _, false => none
          | _, false => some (f, v :: args)
          | _, true => none
        | _, _, _ => none

def callable (P : Program) (g : FuncId) : Bool :=
  match P.funcs[g]? with
  | some fn => fn.body.isSome && !(fn.name == "runtime.NumGoroutine")
  | none => false

/-- The other operations. -/
def evW (P : Program) (call : FuncId → List AV → St → Option (AV × St)) (ev : Operand → Option AV) (st : St) (o : Oper) : Option (AV × St) :=
  match o.op with
  | .store t a x => match ev a, ev x with
    | some a, some v => match storeA P st t a v with
      | some st' => some (.sc undef, st')
      | none => none
    | _, _ => none
  | .mapUpdate t m k x | .insert t m k x => match ev m, ev k, ev x with
    | some m, some k, some v => match evMapUpdate P st t m k v with
      | some st' => some (.sc undef, st')
      | none => none
    | _, _, _ => none
  | .mapEntry t m k => match ev m, ev k with
    | some m, some k => evMapEntry P st t m k
    | _, _ => none
  | .entryStore _ m s x => match ev m, ev s, ev x with
    | some m, some s, some v => match evEntryStore st m s v with
      | some st' => some (.sc undef, st')
      | none => none
    | _, _, _ => none
  | .call c => match c.callee, evXs ev c.args.toList with
    | .builtin .append, some [s, x] => match c.argTypes[0]?, c.argTypes[1]? with
      | some sT, some xT => match P.underlying xT with
        | some (.int _) => appendA P st sT true s x
        | some _ => appendA P st sT false s x
        | none => none
      | _, _ => none
    | .builtin .copy, some [.sl i k n _ _, x] => match c.argTypes[0]? with
      | some dT => match P.underlying dT with
        | some (.slice e) => match semP P (sizeOf e) with
          | some size => match x with
            | .sl j k' n' _ _ => match rdCells st.h j k' (Nat.min n' n * size) with
              | some l => match wrCells st i k l with
                | some st' => some (.sc (goInt (Nat.min n' n)), st')
                | none => none
              | none => none
            | _ => none
          | none => none
        | _ => none
      | none => none
    | .value f, some args => match ev f with
      | some f => match calleeA f args with
        | some (g, as) => bif callable P g then call g as st else none
        | none => none
      | none => none
    | .invoke r name, some args => match ev r with
      | some r => match invokeA P r name args with
        | some (g, as) => bif callable P g then call g as st else none
        | none => none
      | none => none
    | _, _ => none
  | _ => none

inductive K | q | f | x
def kindOf : Op → K
  | .alloc _ | .box .. | .buildSlice .. | .makeMap .. | .makeSlice .. => .f
  | .store .. | .mapUpdate .. | .insert .. | .mapEntry .. | .entryStore .. => .x
  | .call c => match c.callee with
    | .builtin .len | .builtin .cap | .builtin .min | .builtin .max => .q
    | _ => .x
  | _ => .q

def evOp (P : Program) (call : FuncId → List AV → St → Option (AV × St)) (ev : Operand → Option AV) (st : St) (o : Oper) : Option (AV × St) :=
  match kindOf o.op with
  | .q => match evQ P ev st.h o with | some v => some (v, st) | none => none
  | .f => match evF P ev st.nx o with | some (v, ao) => some (v, ⟨st.h.put st.nx ao, st.nx + 1⟩) | none => none
  | .x => evW P call ev st o

def wantedA (all : List Oper) (get : Nat → Option AV) (o : Oper) : Option Bool :=
  match o.guard with
  | none => some true
  | some (j, want) => match all[j]? with
    | some og => match og.dst with
      | some d => match get d with
        | some (.sc (.bool b)) => some (b == want)
        | some _ => some false
        | none => none
      | none => none
    | none => none
def putA (n : Nat) (tm : T AV) (dst : Option Tmp) (v : AV) : Option (T AV) :=
  match dst with
  | none => some tm
  | some d => bif d.blt n then some (tm.put d v) else none

def evSeq (P : Program) (call : FuncId → List AV → St → Option (AV × St)) (n : Nat) (all : List Oper) : List Oper → T AV → St → Option (T AV × St)
  | [], tm, st => some (tm, st)
  | o :: os, tm, st =>
    match wantedA all tm.get o with
    | none => none
    | some false => match putA n tm o.dst (.sc undef) with
      | some tm' => evSeq P call n all os tm' st
      | none => none
    | some true => match evOp P call (evX tm) st o with
      | none => none
      | some (v, st') => match putA n tm o.dst v with
        | some tm' => evSeq P call n all os tm' st'
        | none => none
end
end Go.Proofs.Ytfkfejonlfcgoaa.Ev
