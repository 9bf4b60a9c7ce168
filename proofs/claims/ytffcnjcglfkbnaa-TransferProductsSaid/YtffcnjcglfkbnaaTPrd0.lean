import Derived.Test.YtffcnjcglfkbnaaTMemoS
namespace Go.Proofs.Ytffcnjcglfkbnaa
open Go.RowKit Ev
theorem prod0_0 : allB (fun j => runS 10 [.res .u8 23 0, .res .u8 230 (Nat.add 0 j)]) 60 = true := by kernel_rfl
theorem prod1_60 : allB (fun j => runS 10 [.res .u8 23 1, .res .u8 115 (Nat.add 60 j)]) 55 = true := by kernel_rfl
theorem prod2_0 : allB (fun j => runS 10 [.res .u8 23 2, .res .u8 15 (Nat.add 0 j)]) 15 = true := by kernel_rfl
theorem prod7_0 : allB (fun j => runS 10 [.res .u8 23 7, .res .u8 5 (Nat.add 0 j)]) 5 = true := by kernel_rfl
theorem prod9_0 : allB (fun j => runS 10 [.res .u8 23 9, .res .u8 20 (Nat.add 0 j)]) 20 = true := by kernel_rfl
theorem prod14_0 : allB (fun j => runS 10 [.res .u8 23 14, .res .u8 15 (Nat.add 0 j)]) 15 = true := by kernel_rfl
theorem prod19_0 : allB (fun j => runS 10 [.res .u8 23 19, .res .u8 10 (Nat.add 0 j)]) 10 = true := by kernel_rfl
end Go.Proofs.Ytffcnjcglfkbnaa
