/- The tree of borders, run in the kernel: borders that end so. -/
import Derived.Test.YtiodcgdjphmffaaBTre
namespace Go.Proofs.Ytiodcgdjphmffaa
set_option maxRecDepth 100000
theorem B.tree200 : B.tree 8 3 [2, 0, 0] (B.perL [2, 0, 0]) = true := by kernel_rfl
theorem B.tree201 : B.tree 8 3 [2, 0, 1] (B.perL [2, 0, 1]) = true := by kernel_rfl
theorem B.tree202 : B.tree 8 3 [2, 0, 2] (B.perL [2, 0, 2]) = true := by kernel_rfl
theorem B.tree210 : B.tree 8 3 [2, 1, 0] (B.perL [2, 1, 0]) = true := by kernel_rfl
theorem B.tree211 : B.tree 8 3 [2, 1, 1] (B.perL [2, 1, 1]) = true := by kernel_rfl
theorem B.tree212 : B.tree 8 3 [2, 1, 2] (B.perL [2, 1, 2]) = true := by kernel_rfl
theorem B.tree220 : B.tree 8 3 [2, 2, 0] (B.perL [2, 2, 0]) = true := by kernel_rfl
theorem B.tree221 : B.tree 8 3 [2, 2, 1] (B.perL [2, 2, 1]) = true := by kernel_rfl
theorem B.tree222 : B.tree 8 3 [2, 2, 2] (B.perL [2, 2, 2]) = true := by kernel_rfl
end Go.Proofs.Ytiodcgdjphmffaa
