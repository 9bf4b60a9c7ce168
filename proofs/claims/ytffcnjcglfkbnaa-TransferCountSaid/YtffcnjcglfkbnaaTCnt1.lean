import Derived.Test.YtffcnjcglfkbnaaTMemoS
namespace Go.Proofs.Ytffcnjcglfkbnaa
open Go.RowKit Ev
theorem cnt2 : runS 8 [.res .u8 24 2] = true := by kernel_rfl
theorem cnt4 : runS 8 [.res .u8 24 4] = true := by kernel_rfl
theorem cnt9 : runS 8 [.res .u8 24 9] = true := by kernel_rfl
theorem cnt10 : runS 8 [.res .u8 24 10] = true := by kernel_rfl
theorem cnt16 : runS 8 [.res .u8 24 16] = true := by kernel_rfl
theorem cnt21 : runS 8 [.res .u8 24 21] = true := by kernel_rfl
end Go.Proofs.Ytffcnjcglfkbnaa
