/- The tree of borders, run in the kernel: borders that end so. -/
import Derived.Test.YtiodcgdjphmffaaBTre
namespace Go.Proofs.Ytiodcgdjphmffaa
set_option maxRecDepth 100000
theorem B.tree000 : B.tree 8 3 [0, 0, 0] (B.perL [0, 0, 0]) = true := by kernel_rfl
theorem B.tree001 : B.tree 8 3 [0, 0, 1] (B.perL [0, 0, 1]) = true := by kernel_rfl
theorem B.tree002 : B.tree 8 3 [0, 0, 2] (B.perL [0, 0, 2]) = true := by kernel_rfl
theorem B.tree010 : B.tree 8 3 [0, 1, 0] (B.perL [0, 1, 0]) = true := by kernel_rfl
theorem B.tree011 : B.tree 8 3 [0, 1, 1] (B.perL [0, 1, 1]) = true := by kernel_rfl
theorem B.tree012 : B.tree 8 3 [0, 1, 2] (B.perL [0, 1, 2]) = true := by kernel_rfl
theorem B.tree020 : B.tree 8 3 [0, 2, 0] (B.perL [0, 2, 0]) = true := by kernel_rfl
theorem B.tree021 : B.tree 8 3 [0, 2, 1] (B.perL [0, 2, 1]) = true := by kernel_rfl
theorem B.tree022 : B.tree 8 3 [0, 2, 2] (B.perL [0, 2, 2]) = true := by kernel_rfl
theorem B.tree3 : B.tree 3 0 [] (B.perL []) = true := by kernel_rfl
end Go.Proofs.Ytiodcgdjphmffaa
