/- Wide borders, run in the kernel: lengths 24 to 24. -/
import Derived.Test.YtiodcgdjphmffaaBFin
namespace Go.Proofs.Ytiodcgdjphmffaa
set_option maxRecDepth 100000
theorem B.fin24 : B.finAll 24 = true := by kernel_rfl
end Go.Proofs.Ytiodcgdjphmffaa
