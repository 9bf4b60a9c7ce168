import Derived.Test.YtffcnjcglfkbnaaTWorks
namespace Go.Proofs.Ytffcnjcglfkbnaa
open Go.RowKit Ev
theorem least1 : runC' 7 [.res .u8 46 1] = true := by kernel_rfl
theorem least5 : runC' 7 [.res .u8 46 5] = true := by kernel_rfl
theorem least9 : runC' 7 [.res .u8 46 9] = true := by kernel_rfl
theorem least13 : runC' 7 [.res .u8 46 13] = true := by kernel_rfl
theorem least17 : runC' 7 [.res .u8 46 17] = true := by kernel_rfl
theorem least20 : runC' 7 [.res .u8 46 20] = true := by kernel_rfl
theorem least22 : runC' 7 [.res .u8 46 22] = true := by kernel_rfl
theorem least28 : runC' 7 [.res .u8 46 28] = true := by kernel_rfl
theorem least32 : runC' 7 [.res .u8 46 32] = true := by kernel_rfl
theorem least43 : runC' 7 [.res .u8 46 43] = true := by kernel_rfl
end Go.Proofs.Ytffcnjcglfkbnaa
