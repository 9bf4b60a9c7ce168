/- Package mark: suspects; a doubt in a variable. -/
import Derived.Test.YthnklabdjaiplaaDoorMSus
import Derived.Test.YthnklabdjaiplaaDoorMCom
namespace Go.Proofs.YthnklabdjaiplaaDoor
open Go.RowKit Go.Shelf
attribute [local go_sem] Oper.semAt_some

set_option maxHeartbeats 1000000 in
theorem suspects_in (n : Nat) (N : Nat) (w : World) :
    CallsIn Fence.wide n Tryd.prog 61 #[.int .i64 (N : Nat)] w fun e w' => e = .returned (.func (.func 75) #[] #[.pointer (some ⟨w.heap.size, 0, none⟩)]) ∧ w' = w.alloc (.cells #[.int .i64 (N : Nat)] 3) := by
  refine callsIn_of_wp Tryd.func61 rfl trivial ?_ rfl
  simp only [Tryd.ntmps61, List.size_toArray, List.length_cons, List.length_nil, Nat.reduceAdd, Nat.reduceSub, Array.replicate_succ, Array.replicate_zero, List.push_toArray, List.append_toArray, List.nil_append, List.cons_append]
  gi_wp2
  go_ret
  exact ⟨rfl, rfl⟩

/-- A doubt in a variable of the call's own. -/
def M.Bx2 (w : World) (b : Nat) (v u : Value) : Prop := w.heap[b]? = some (.cells #[v, u] 57 (0, 0))
theorem M.Bx2.new (w : World) (v u : Value) : M.Bx2 (w.alloc (.cells #[v, u] 57)) w.heap.size v u := World.alloc_heap_new w _
theorem M.Bx2.lt {w : World} {b : Nat} {v u : Value} (h : M.Bx2 w b v u) : b < w.heap.size := (Array.getElem?_eq_some_iff.1 h).1
theorem M.Bx2.cell0 {w : World} {b : Nat} {v u : Value} (h : M.Bx2 w b v u) : w.cell? ⟨b, 0, none⟩ = some v := by
  unfold M.Bx2 at h
  unfold World.cell?
  simp [h]
theorem M.Bx2.cell1 {w : World} {b : Nat} {v u : Value} (h : M.Bx2 w b v u) : w.cell? ⟨b, 1, none⟩ = some u := by
  unfold M.Bx2 at h
  unfold World.cell?
  simp [h]
theorem M.Bx2.fz {w : World} {b : Nat} {v u : Value} (h : M.Bx2 w b v u) (o : Nat) : w.frozen? ⟨b, o, none⟩ = false := by
  unfold M.Bx2 at h
  unfold World.frozen?
  simp [h]
theorem M.Bx2.of_block {w w' : World} {b : Nat} {v u : Value} (h : M.Bx2 w b v u) (e : w'.heap[b]? = w.heap[b]?) : M.Bx2 w' b v u := e.trans h
theorem M.Bx2.set {w : World} {b : Nat} {v u : Value} (h : M.Bx2 w b v u) (v' u' : Value) : M.Bx2 ((w.setCell ⟨b, 0, none⟩ v').setCell ⟨b, 1, none⟩ u') b v' u' := by
  unfold M.Bx2 at *
  have hlt := (Array.getElem?_eq_some_iff.1 h).1
  have he := (Array.getElem?_eq_some_iff.1 h).2
  unfold World.setCell
  simp [hlt, he, Array.getElem_modify]

theorem M.resD {fn : Func} {p q : Tmp} (h : fn.results = #[.cell p 57, .cell q 29]) (tmps : Array Value) (w : World) (x y : Nat) (v1 v2 u : Value)
    (hp : tmps.getD p undef = .pointer (some ⟨x, 0, none⟩)) (hq : tmps.getD q undef = .pointer (some ⟨y, 0, none⟩)) (h1 : M.Bx2 w x v1 v2) (h2 : w.cell? ⟨y, 0, none⟩ = some u) :
    (results fn tmps).run Tryd.prog w = .ok (.tuple #[.agg #[v1, v2], u]) w := by
  have hp' : tmps[p]?.getD undef = .pointer (some ⟨x, 0, none⟩) := by simpa using hp
  have hq' : tmps[q]?.getD undef = .pointer (some ⟨y, 0, none⟩) := by simpa using hq
  have e1 := run_loadVar_row (P := Tryd.prog) w x 57 57 #[v1, v2] (0, 0) _ h1 Tryd.underlying57 rfl (by kernel_rfl)
  have e2 : (loadVar 29 ⟨y, 0, none⟩).run Tryd.prog w = .ok u w := by simp [loadVar, h2, go_sem]
  simp [results, h, hp', hq', asAddr, e1, e2]
end Go.Proofs.YthnklabdjaiplaaDoor
