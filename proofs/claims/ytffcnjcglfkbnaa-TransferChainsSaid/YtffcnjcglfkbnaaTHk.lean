/- Package transfer by the evaluator: hooks. -/
import Derived.Test.YtffcnjcglfkbnaaTBs
namespace Go.Proofs.Ytffcnjcglfkbnaa
open Go.RowKit Ev
theorem t_mixed : Try.prog.follows .mixedOrders = true := Try.checked.mixed
noncomputable def hkA : Hks := hksOf [⟨73, always, hookDef Try.prog 100000 73⟩, ⟨71, always, hookBS⟩]
theorem hkA_ok : HksOk Try.prog hkA := by
  refine hksOf_ok ?_
  intro en hm
  simp only [List.mem_cons, List.not_mem_nil, or_false] at hm
  rcases hm with rfl | rfl
  · exact hookDef_ok (F := 100000) (g := 73) t_mixed
  · exact hookBS_ok
def anyF : AV := .sc (.func (.func 56) #[] #[])
def rowF : AV := .sc (.func (.func 49) #[] #[])
def intA (n : Nat) : AV := .sc (.int .i64 (.ofNat n))
end Go.Proofs.Ytffcnjcglfkbnaa
