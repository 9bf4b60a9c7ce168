/- Package hours by the evaluator: no hooks yet. -/
import Derived.Test.YthlcnklbeolhpaaEvAll4
import Derived.Test.YthlcnklbeolhpaaRows
namespace Go.Proofs.Ythlcnklbeolhpaa
open Go.RowKit Ev
theorem t_mixed : Try.prog.follows .mixedOrders = true := Try.checked.mixed
noncomputable def hkA : Hks := hksOf []
theorem hkA_ok : HksOk Try.prog hkA := by
  refine hksOf_ok ?_
  intro en hm
  cases hm
def intA (n : Nat) : AV := .sc (.int .i64 (.ofNat n))
end Go.Proofs.Ythlcnklbeolhpaa
