/- Wide borders, run in the kernel: lengths 1 to 18. -/
import Derived.Test.YtiodcgdjphmffaaBFin
namespace Go.Proofs.Ytiodcgdjphmffaa
set_option maxRecDepth 100000
theorem B.fin_1 : B.finAll 1 = true := by kernel_rfl
theorem B.fin_2 : B.finAll 2 = true := by kernel_rfl
theorem B.fin_3 : B.finAll 3 = true := by kernel_rfl
theorem B.fin_4 : B.finAll 4 = true := by kernel_rfl
theorem B.fin_5 : B.finAll 5 = true := by kernel_rfl
theorem B.fin_6 : B.finAll 6 = true := by kernel_rfl
theorem B.fin_7 : B.finAll 7 = true := by kernel_rfl
theorem B.fin_8 : B.finAll 8 = true := by kernel_rfl
theorem B.fin_9 : B.finAll 9 = true := by kernel_rfl
theorem B.fin_10 : B.finAll 10 = true := by kernel_rfl
theorem B.fin_11 : B.finAll 11 = true := by kernel_rfl
theorem B.fin_12 : B.finAll 12 = true := by kernel_rfl
theorem B.fin_13 : B.finAll 13 = true := by kernel_rfl
theorem B.fin_14 : B.finAll 14 = true := by kernel_rfl
theorem B.fin_15 : B.finAll 15 = true := by kernel_rfl
theorem B.fin_16 : B.finAll 16 = true := by kernel_rfl
theorem B.fin_17 : B.finAll 17 = true := by kernel_rfl
theorem B.fin_18 : B.finAll 18 = true := by kernel_rfl
end Go.Proofs.Ytiodcgdjphmffaa
