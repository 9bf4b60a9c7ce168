/- Package transfer's own examples hold. No condition. -/
import Derived.Test.YtffcnjcglfkbnaaTMemo
namespace Go.Proofs.Ytffcnjcglfkbnaa
open Go.RowKit Ev
theorem works_run : runB 15 [] = true := by kernel_rfl
theorem works_gives : GivesV Try.prog 15 [] (.bool true) := runB_gives (RelL.nil_iff.2 rfl) works_run
def worksF (args : List AV) : Option Value := match args with | [] => some (.bool true) | _ => none
theorem worksF_ok (args : List AV) (v : Value) (h : worksF args = some v) : ∃ vs, toVs args = some vs ∧ GivesV Try.prog 15 vs v := by
  unfold worksF at h
  split at h
  · cases h; exact ⟨[], rfl, works_gives⟩
  · cases h
noncomputable def hkC : Hks := hksOf [⟨15, always, hookNum worksF⟩, ⟨55, fun args => (tabF args).isSome, hookList tabF⟩, ⟨73, always, hookDef Try.prog 100000 73⟩, ⟨71, always, hookBS⟩]
theorem hkC_ok : HksOk Try.prog hkC := by
  refine hksOf_ok ?_
  intro en hm
  simp only [List.mem_cons, List.not_mem_nil, or_false] at hm
  rcases hm with rfl | rfl | rfl | rfl
  · exact hookNum_ok (g := 15) worksF_ok
  · exact hookList_ok (g := 55) tabF_ok
  · exact hookDef_ok (F := 100000) (g := 73) t_mixed
  · exact hookBS_ok
noncomputable def runC' (g : FuncId) (args : List AV) : Bool := isTrue (chkP Try.prog hkC 100000 100000 g args)
theorem runC'_gives {g : FuncId} {args : List AV} {vs : List Value} (hr : RelL (fun _ => none) args vs) (h : runC' g args = true) : GivesV Try.prog g vs (.bool true) :=
  chkP_sound hkC_ok t_mixed hr (isTrue_eq h)
end Go.Proofs.Ytffcnjcglfkbnaa
