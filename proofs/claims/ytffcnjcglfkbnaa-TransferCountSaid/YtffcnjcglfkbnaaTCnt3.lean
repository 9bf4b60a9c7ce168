import Derived.Test.YtffcnjcglfkbnaaTMemoS
namespace Go.Proofs.Ytffcnjcglfkbnaa
open Go.RowKit Ev
theorem cnt0 : runS 8 [.res .u8 24 0] = true := by kernel_rfl
theorem cnt6 : runS 8 [.res .u8 24 6] = true := by kernel_rfl
theorem cnt12 : runS 8 [.res .u8 24 12] = true := by kernel_rfl
theorem cnt17 : runS 8 [.res .u8 24 17] = true := by kernel_rfl
theorem cnt18 : runS 8 [.res .u8 24 18] = true := by kernel_rfl
theorem cnt23 : runS 8 [.res .u8 24 23] = true := by kernel_rfl
end Go.Proofs.Ytffcnjcglfkbnaa
