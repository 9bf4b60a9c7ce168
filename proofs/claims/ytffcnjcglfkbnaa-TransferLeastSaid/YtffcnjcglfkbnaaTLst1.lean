import Derived.Test.YtffcnjcglfkbnaaTWorks
namespace Go.Proofs.Ytffcnjcglfkbnaa
open Go.RowKit Ev
theorem least4 : runC' 7 [.res .u8 46 4] = true := by kernel_rfl
theorem least8 : runC' 7 [.res .u8 46 8] = true := by kernel_rfl
theorem least12 : runC' 7 [.res .u8 46 12] = true := by kernel_rfl
theorem least16 : runC' 7 [.res .u8 46 16] = true := by kernel_rfl
theorem least25 : runC' 7 [.res .u8 46 25] = true := by kernel_rfl
theorem least29 : runC' 7 [.res .u8 46 29] = true := by kernel_rfl
theorem least30 : runC' 7 [.res .u8 46 30] = true := by kernel_rfl
theorem least31 : runC' 7 [.res .u8 46 31] = true := by kernel_rfl
theorem least39 : runC' 7 [.res .u8 46 39] = true := by kernel_rfl
theorem least41 : runC' 7 [.res .u8 46 41] = true := by kernel_rfl
theorem least45 : runC' 7 [.res .u8 46 45] = true := by kernel_rfl
end Go.Proofs.Ytffcnjcglfkbnaa
