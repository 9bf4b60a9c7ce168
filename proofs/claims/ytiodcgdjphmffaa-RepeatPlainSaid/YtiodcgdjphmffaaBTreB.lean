/- The tree of borders, run in the kernel: borders that end so. -/
import Derived.Test.YtiodcgdjphmffaaBTre
namespace Go.Proofs.Ytiodcgdjphmffaa
set_option maxRecDepth 100000
theorem B.tree100 : B.tree 8 3 [1, 0, 0] (B.perL [1, 0, 0]) = true := by kernel_rfl
theorem B.tree101 : B.tree 8 3 [1, 0, 1] (B.perL [1, 0, 1]) = true := by kernel_rfl
theorem B.tree102 : B.tree 8 3 [1, 0, 2] (B.perL [1, 0, 2]) = true := by kernel_rfl
theorem B.tree110 : B.tree 8 3 [1, 1, 0] (B.perL [1, 1, 0]) = true := by kernel_rfl
theorem B.tree111 : B.tree 8 3 [1, 1, 1] (B.perL [1, 1, 1]) = true := by kernel_rfl
theorem B.tree112 : B.tree 8 3 [1, 1, 2] (B.perL [1, 1, 2]) = true := by kernel_rfl
theorem B.tree120 : B.tree 8 3 [1, 2, 0] (B.perL [1, 2, 0]) = true := by kernel_rfl
theorem B.tree121 : B.tree 8 3 [1, 2, 1] (B.perL [1, 2, 1]) = true := by kernel_rfl
theorem B.tree122 : B.tree 8 3 [1, 2, 2] (B.perL [1, 2, 2]) = true := by kernel_rfl
end Go.Proofs.Ytiodcgdjphmffaa
