import Derived.Test.YtffcnjcglfkbnaaTMemoS
namespace Go.Proofs.Ytffcnjcglfkbnaa
open Go.RowKit Ev
theorem cnt3 : runS 8 [.res .u8 24 3] = true := by kernel_rfl
theorem cnt7 : runS 8 [.res .u8 24 7] = true := by kernel_rfl
theorem cnt11 : runS 8 [.res .u8 24 11] = true := by kernel_rfl
theorem cnt14 : runS 8 [.res .u8 24 14] = true := by kernel_rfl
theorem cnt15 : runS 8 [.res .u8 24 15] = true := by kernel_rfl
theorem cnt22 : runS 8 [.res .u8 24 22] = true := by kernel_rfl
end Go.Proofs.Ytffcnjcglfkbnaa
