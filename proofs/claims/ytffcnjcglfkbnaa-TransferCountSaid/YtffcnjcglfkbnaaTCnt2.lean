import Derived.Test.YtffcnjcglfkbnaaTMemoS
namespace Go.Proofs.Ytffcnjcglfkbnaa
open Go.RowKit Ev
theorem cnt1 : runS 8 [.res .u8 24 1] = true := by kernel_rfl
theorem cnt5 : runS 8 [.res .u8 24 5] = true := by kernel_rfl
theorem cnt8 : runS 8 [.res .u8 24 8] = true := by kernel_rfl
theorem cnt13 : runS 8 [.res .u8 24 13] = true := by kernel_rfl
theorem cnt19 : runS 8 [.res .u8 24 19] = true := by kernel_rfl
theorem cnt20 : runS 8 [.res .u8 24 20] = true := by kernel_rfl
end Go.Proofs.Ytffcnjcglfkbnaa
