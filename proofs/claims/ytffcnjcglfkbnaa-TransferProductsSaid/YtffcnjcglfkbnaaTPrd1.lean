import Derived.Test.YtffcnjcglfkbnaaTMemoS
namespace Go.Proofs.Ytffcnjcglfkbnaa
open Go.RowKit Ev
theorem prod0_60 : allB (fun j => runS 10 [.res .u8 23 0, .res .u8 230 (Nat.add 60 j)]) 60 = true := by kernel_rfl
theorem prod3_0 : allB (fun j => runS 10 [.res .u8 23 3, .res .u8 55 (Nat.add 0 j)]) 55 = true := by kernel_rfl
theorem prod10_0 : allB (fun j => runS 10 [.res .u8 23 10, .res .u8 20 (Nat.add 0 j)]) 20 = true := by kernel_rfl
theorem prod11_0 : allB (fun j => runS 10 [.res .u8 23 11, .res .u8 15 (Nat.add 0 j)]) 15 = true := by kernel_rfl
theorem prod15_0 : allB (fun j => runS 10 [.res .u8 23 15, .res .u8 10 (Nat.add 0 j)]) 10 = true := by kernel_rfl
theorem prod18_0 : allB (fun j => runS 10 [.res .u8 23 18, .res .u8 10 (Nat.add 0 j)]) 10 = true := by kernel_rfl
theorem prod22_0 : allB (fun j => runS 10 [.res .u8 23 22, .res .u8 10 (Nat.add 0 j)]) 10 = true := by kernel_rfl
end Go.Proofs.Ytffcnjcglfkbnaa
