/- Wide borders, run in the kernel: lengths 19 to 21. -/
import Derived.Test.YtiodcgdjphmffaaBFin
namespace Go.Proofs.Ytiodcgdjphmffaa
set_option maxRecDepth 100000
theorem B.fin19 : B.finAll 19 = true := by kernel_rfl
theorem B.fin20 : B.finAll 20 = true := by kernel_rfl
theorem B.fin21 : B.finAll 21 = true := by kernel_rfl
end Go.Proofs.Ytiodcgdjphmffaa
