/- Package hours's own examples hold. No condition. -/
import Derived.Test.YthlcnklbeolhpaaHHk
import Derived.ProofKit
import Derived.OpenShut
import Derived.Deep.Matrix
namespace Go.Proofs.Ythlcnklbeolhpaa
open Go.ChangeShapes Go.WideShapes Go.RowKit Go.Deep Ev
theorem laidOut : laidOutB Try.prog = true := by kernel_rfl
theorem own : ownKnob Try.prog.godebug = none := by kernel_rfl
noncomputable def runA (g : FuncId) (args : List AV) : Bool := isTrue (chkP Try.prog hkA 100000 100000 g args)
theorem runA_gives {g : FuncId} {args : List AV} {vs : List Value} (hr : RelL (fun _ => none) args vs) (h : runA g args = true) : GivesV Try.prog g vs (.bool true) :=
  chkP_sound hkA_ok t_mixed hr (isTrue_eq h)
theorem works_run : runA 16 [] = true := by kernel_rfl
theorem works_gives : GivesV Try.prog 16 [] (.bool true) := runA_gives (RelL.nil_iff.2 rfl) works_run
def worksF (args : List AV) : Option Value := match args with | [] => some (.bool true) | _ => none
theorem worksF_ok (args : List AV) (v : Value) (h : worksF args = some v) : ∃ vs, toVs args = some vs ∧ GivesV Try.prog 16 vs v := by
  unfold worksF at h
  split at h
  · cases h; exact ⟨[], rfl, works_gives⟩
  · cases h
noncomputable def hkC : Hks := hksOf [⟨16, always, hookNum worksF⟩]
theorem hkC_ok : HksOk Try.prog hkC := by
  refine hksOf_ok ?_
  intro en hm
  simp only [List.mem_cons, List.not_mem_nil, or_false] at hm
  rcases hm with rfl
  exact hookNum_ok (g := 16) worksF_ok
noncomputable def runC' (g : FuncId) (args : List AV) : Bool := isTrue (chkP Try.prog hkC 100000 100000 g args)
theorem runC'_gives {g : FuncId} {args : List AV} {vs : List Value} (hr : RelL (fun _ => none) args vs) (h : runC' g args = true) : GivesV Try.prog g vs (.bool true) :=
  chkP_sound hkC_ok t_mixed hr (isTrue_eq h)
theorem u8_nat {a : Int} (h : (Lit.int .u8 a).wf = true) : ∃ x : Nat, a = (x : Int) ∧ x < 256 := by
  have hmin : IntKind.u8.min = 0 := rfl
  have hmax : IntKind.u8.max = 255 := rfl
  simp only [Lit.wf, hmin, hmax, Bool.and_eq_true, decide_eq_true_eq] at h
  exact ⟨a.toNat, by omega, by omega⟩
end Go.Proofs.Ythlcnklbeolhpaa
