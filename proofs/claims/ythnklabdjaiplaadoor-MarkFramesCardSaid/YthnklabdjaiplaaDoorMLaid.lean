/- What the program's text lays in package mark's table: the numbers of marks, for the walks. -/
import Derived.Test.YthnklabdjaiplaaDoorMCan
import Derived.Test.YthnklabdjaiplaaDoorRows
import Derived.LaidMore
import Derived.ProofKit
import Derived.OpenShut
namespace Go.Proofs.YthnklabdjaiplaaDoor
open Go.ChangeShapes Go.WideShapes Go.ChangeAt Go.WideElems Go.RowKit

def M.laid : List (String × DataW Unit) := [("tusche/mark.marksIn", Rows.laid_tusche_mark_marksIn)]
theorem M.gMarks : Tryd.prog.globalNamed "tusche/mark.marksIn" = some 0 := by kernel_rfl
theorem M.tMarks : (Tryd.prog.globals[0]?).map (·.type) = some 81 := by kernel_rfl
def M.pcs : List Int := [0, 1, 1, 2, 1, 2, 2, 3, 1, 2, 2, 3, 2, 3, 3, 4]
theorem M.pcs_at : ∀ i, i < 16 → M.pcs[i]? = some (M.pc i : Int) := by decide
theorem M.tb_of_laid {W : World} (h : laidMetH Tryd.prog M.laid W) : M.TB W := by
  rw [MakeChecks.laidMetH_plain _ _ _ (by kernel_rfl)] at h
  obtain ⟨ps, ⟨g0, t0, cs0, f0, p0, q0, hg0, ht0, hv0, hd0, _, _⟩, _, _⟩ := h
  obtain rfl := Option.some.inj (M.gMarks.symm.trans hg0)
  obtain rfl := Option.some.inj (M.tMarks.symm.trans ht0)
  obtain ⟨xs, m1, rfl, hx1, hlen, hn3, hel⟩ := DataW.trod_array Tryd.underlying81 hd0
  have hV : (Rows.laid_tusche_mark_marksIn : DataW Unit) = .agg (M.pcs.map fun v => .lit (.int .i64 v)) := rfl
  rw [hV] at hx1
  simp only [Prod.mk.injEq, DataW.agg.injEq] at hx1
  have hx := hx1.1
  intro i hi
  have c3 : Tryd.prog.cellsOf 3 = 1 := by kernel_rfl
  have h0 := hel i hi
  have hlt : i < xs.length := by omega
  have hl := congrArg (·[i]?) hx
  simp only [List.getElem?_map] at hl
  obtain ⟨x, hxi⟩ : ∃ x, xs[i]? = some x := ⟨_, List.getElem?_eq_getElem hlt⟩
  rw [hxi] at h0 hl
  obtain ⟨k, e1, e2, _⟩ := DataW.trod_int Tryd.underlying3 h0
  rw [c3, Nat.mul_one] at e1
  have e3 : cs0.toList[i]? = some (.int .i64 k) := by
    have := congrArg (·[0]?) e1
    simpa [List.getElem?_take, List.getElem?_drop] using this
  have hk : k = (M.pc i : Nat) := by
    subst e2
    rw [M.pcs_at i hi] at hl
    simp only [Option.map_some, Option.some.injEq, DataW.lit.injEq, Lit.int.injEq] at hl
    exact hl.2.symm
  subst hk
  have := World.var?_cell hg0 hv0 i
  rw [this]
  simpa using e3
/-- The door's own heap meets the condition: three closed facts. -/
theorem M.door_met (os : Os) (args : Array Value) : laidMetH Tryd.prog M.laid ((World.doorLaid Tryd.prog 400 os).forCall (fun _ _ => 0) ⟨#[], args, []⟩).memory :=
  laidMetH_of_parts3 (fuel := 8) (laidMet_of_run' 8 (by kernel_rfl) (by kernel_rfl)) (by kernel_rfl) (by kernel_rfl)
end Go.Proofs.YthnklabdjaiplaaDoor
