import Derived.Test.YtffcnjcglfkbnaaTWorks
namespace Go.Proofs.Ytffcnjcglfkbnaa
open Go.RowKit Ev
theorem least0 : runC' 7 [.res .u8 46 0] = true := by kernel_rfl
theorem least3 : runC' 7 [.res .u8 46 3] = true := by kernel_rfl
theorem least7 : runC' 7 [.res .u8 46 7] = true := by kernel_rfl
theorem least11 : runC' 7 [.res .u8 46 11] = true := by kernel_rfl
theorem least15 : runC' 7 [.res .u8 46 15] = true := by kernel_rfl
theorem least18 : runC' 7 [.res .u8 46 18] = true := by kernel_rfl
theorem least23 : runC' 7 [.res .u8 46 23] = true := by kernel_rfl
theorem least26 : runC' 7 [.res .u8 46 26] = true := by kernel_rfl
theorem least34 : runC' 7 [.res .u8 46 34] = true := by kernel_rfl
theorem least35 : runC' 7 [.res .u8 46 35] = true := by kernel_rfl
theorem least38 : runC' 7 [.res .u8 46 38] = true := by kernel_rfl
theorem least42 : runC' 7 [.res .u8 46 42] = true := by kernel_rfl
end Go.Proofs.Ytffcnjcglfkbnaa
