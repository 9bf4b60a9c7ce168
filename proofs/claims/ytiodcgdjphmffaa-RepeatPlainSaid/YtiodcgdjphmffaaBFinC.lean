/- Wide borders, run in the kernel: lengths 22 to 23. -/
import Derived.Test.YtiodcgdjphmffaaBFin
namespace Go.Proofs.Ytiodcgdjphmffaa
set_option maxRecDepth 100000
theorem B.fin22 : B.finAll 22 = true := by kernel_rfl
theorem B.fin23 : B.finAll 23 = true := by kernel_rfl
end Go.Proofs.Ytiodcgdjphmffaa
