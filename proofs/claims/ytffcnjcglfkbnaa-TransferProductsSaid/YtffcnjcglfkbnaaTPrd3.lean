import Derived.Test.YtffcnjcglfkbnaaTMemoS
namespace Go.Proofs.Ytffcnjcglfkbnaa
open Go.RowKit Ev
theorem prod1_0 : allB (fun j => runS 10 [.res .u8 23 1, .res .u8 115 (Nat.add 0 j)]) 60 = true := by kernel_rfl
theorem prod4_0 : allB (fun j => runS 10 [.res .u8 23 4, .res .u8 45 (Nat.add 0 j)]) 45 = true := by kernel_rfl
theorem prod5_0 : allB (fun j => runS 10 [.res .u8 23 5, .res .u8 35 (Nat.add 0 j)]) 35 = true := by kernel_rfl
theorem prod13_0 : allB (fun j => runS 10 [.res .u8 23 13, .res .u8 15 (Nat.add 0 j)]) 15 = true := by kernel_rfl
theorem prod17_0 : allB (fun j => runS 10 [.res .u8 23 17, .res .u8 10 (Nat.add 0 j)]) 10 = true := by kernel_rfl
theorem prod21_0 : allB (fun j => runS 10 [.res .u8 23 21, .res .u8 10 (Nat.add 0 j)]) 10 = true := by kernel_rfl
end Go.Proofs.Ytffcnjcglfkbnaa
