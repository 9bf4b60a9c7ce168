/- All borders up to 7 figures of up to 3 kinds: run in the kernel. -/
import Derived.Test.YtiodcgdjphmffaaBCntP
namespace Go.Proofs.Ytiodcgdjphmffaa
set_option maxRecDepth 100000
theorem B.cnt1 : B.allTo 7 (fun n => B.cntN 1 (n + 1)) = true := by kernel_rfl
theorem B.cnt2 : B.allTo 7 (fun n => B.cntN 2 (n + 1)) = true := by kernel_rfl
theorem B.cnt3 : B.allTo 6 (fun n => B.cntN 3 (n + 1)) = true := by kernel_rfl
theorem B.cnt37 : B.cntN 3 7 = true := by kernel_rfl
end Go.Proofs.Ytiodcgdjphmffaa
