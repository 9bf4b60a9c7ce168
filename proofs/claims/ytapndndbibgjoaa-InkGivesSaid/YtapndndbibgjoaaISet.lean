/- Package ink: sets of colours: what the evaluator says of all of them. -/
import Derived.Test.YtapndndbibgjoaaEvRes
import Derived.Test.YtapndndbibgjoaaIRChk
import Derived.Test.YtapndndbibgjoaaRows
namespace Go.Proofs.Ytapndndbibgjoaa
open Go.RowKit

theorem ink_mixed0 : Try.prog.follows .mixedOrders = true := Try.checked.mixed
/-- Nothing is known of any function. -/
def noOrc0 : Ev.Orc := fun _ => none
theorem noOrc0_ok : Ev.OrcOk Try.prog noOrc0 := fun _ _ _ _ h => by cases h

def u8B (o : Option Value) (r : Nat) : Bool := match o with | some (.int .u8 (.ofNat m)) => m.beq r | _ => false
theorem u8B_eq {o : Option Value} {r : Nat} (h : u8B o r = true) : o = some (.int .u8 (r : Int)) := by
  unfold u8B at h
  split at h
  · rw [Nat.eq_of_beq_eq_true h]; rfl
  · cases h
def boolB (o : Option Value) (r : Bool) : Bool := match o with | some (.bool m) => m == r | _ => false
theorem boolB_eq {o : Option Value} {r : Bool} (h : boolB o r = true) : o = some (.bool r) := by
  unfold boolB at h
  split at h
  · rw [eq_of_beq h]
  · cases h
def listB : List Int → List Int → Bool
  | [], [] => true
  | x :: l, y :: m => decide (x = y) && listB l m
  | _, _ => false
theorem listB_eq : ∀ {l m : List Int}, listB l m = true → l = m
  | [], [], _ => rfl
  | x :: l, y :: m, h => by
    simp only [listB, Bool.and_eq_true, decide_eq_true_eq] at h
    rw [h.1, listB_eq h.2]
  | [], _ :: _, h => by cases h
  | _ :: _, [], h => by cases h

/-- The colours of a set. -/
def K.list (s : Nat) : List Int := ((List.range 7).filter (s.testBit ·)).map fun i : Nat => (i : Int)

theorem setWith_run : Ev.allB (fun s => Ev.allB (fun c => u8B (Ev.chkF Try.prog noOrc0 100 88 [.int .u8 (.ofNat s), .int .i64 (.ofNat c)]) (s ||| 2 ^ c)) 7) 128 = true := by kernel_rfl
theorem setWith_any (s c : Nat) (w : World) (hs : s < 128) (hc : c < 7) :
    Calls Try.prog 88 #[.int .u8 s, .int .i64 c] w fun e w' => e = .returned (.int .u8 ((s ||| 2 ^ c : Nat) : Int)) ∧ Below w.heap.size w w' :=
  Ev.chkF_sound (args := [.int .u8 s, .int .i64 c]) ink_mixed0 noOrc0_ok (u8B_eq (Ev.allB_get (Ev.allB_get setWith_run s hs) c hc)) w

theorem setHas_run : Ev.allB (fun s => Ev.allB (fun c => boolB (Ev.chkF Try.prog noOrc0 100 74 [.int .u8 (.ofNat s), .int .i64 (.ofNat c)]) (s.testBit c)) 7) 128 = true := by kernel_rfl
theorem setHas_any (s c : Nat) (w : World) (hs : s < 128) (hc : c < 7) :
    Calls Try.prog 74 #[.int .u8 s, .int .i64 c] w fun e w' => e = .returned (.bool (s.testBit c)) ∧ Below w.heap.size w w' :=
  Ev.chkF_sound (args := [.int .u8 s, .int .i64 c]) ink_mixed0 noOrc0_ok (boolB_eq (Ev.allB_get (Ev.allB_get setHas_run s hs) c hc)) w

def listOB (o : Option (List Int)) (r : List Int) : Bool := match o with | some l => listB l r | none => false
theorem listOB_eq {o : Option (List Int)} {r : List Int} (h : listOB o r = true) : o = some r := by
  unfold listOB at h
  split at h
  · rw [listB_eq h]
  · cases h
theorem setList_run : Ev.allB (fun s => listOB (Ev.chkL Try.prog noOrc0 1000 58 [.sc (.int .u8 (.ofNat s))]) (K.list s)) 128 = true := by kernel_rfl
theorem setList_any (s : Nat) (w : World) (hs : s < 128) :
    Calls Try.prog 58 #[.int .u8 s] w fun e w' => ∃ a c, e = .returned (.slice a (K.list s).length c) ∧ (K.list s).length ≤ c ∧ RdI w' a (K.list s) ∧ Below w.heap.size w w' :=
  Ev.chkL_sound (vs := [.int .u8 s]) ink_mixed0 noOrc0_ok (Ev.RelL.scs [.int .u8 s]) (listOB_eq (Ev.allB_get setList_run s hs)) w

theorem refListed_run : Ev.allB (fun s => listOB (Ev.chkL Try.prog noOrc0 1000 60 [.sc (.int .i64 (.ofNat s))]) (K.list s)) 128 = true := by kernel_rfl
theorem refListed_any (s : Nat) (w : World) (hs : s < 128) :
    Calls Try.prog 60 #[.int .i64 s] w fun e w' => ∃ a c, e = .returned (.slice a (K.list s).length c) ∧ (K.list s).length ≤ c ∧ RdI w' a (K.list s) ∧ Below w.heap.size w w' :=
  Ev.chkL_sound (vs := [.int .i64 s]) ink_mixed0 noOrc0_ok (Ev.RelL.scs [.int .i64 s]) (listOB_eq (Ev.allB_get refListed_run s hs)) w
end Go.Proofs.Ytapndndbibgjoaa
