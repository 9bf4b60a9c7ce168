import Derived.Test.YtffcnjcglfkbnaaTWorks
namespace Go.Proofs.Ytffcnjcglfkbnaa
open Go.RowKit Ev
theorem least2 : runC' 7 [.res .u8 46 2] = true := by kernel_rfl
theorem least6 : runC' 7 [.res .u8 46 6] = true := by kernel_rfl
theorem least10 : runC' 7 [.res .u8 46 10] = true := by kernel_rfl
theorem least14 : runC' 7 [.res .u8 46 14] = true := by kernel_rfl
theorem least19 : runC' 7 [.res .u8 46 19] = true := by kernel_rfl
theorem least21 : runC' 7 [.res .u8 46 21] = true := by kernel_rfl
theorem least24 : runC' 7 [.res .u8 46 24] = true := by kernel_rfl
theorem least27 : runC' 7 [.res .u8 46 27] = true := by kernel_rfl
theorem least33 : runC' 7 [.res .u8 46 33] = true := by kernel_rfl
theorem least36 : runC' 7 [.res .u8 46 36] = true := by kernel_rfl
theorem least37 : runC' 7 [.res .u8 46 37] = true := by kernel_rfl
theorem least40 : runC' 7 [.res .u8 46 40] = true := by kernel_rfl
theorem least44 : runC' 7 [.res .u8 46 44] = true := by kernel_rfl
end Go.Proofs.Ytffcnjcglfkbnaa
