import Derived.Test.YtffcnjcglfkbnaaTMemoS
namespace Go.Proofs.Ytffcnjcglfkbnaa
open Go.RowKit Ev
theorem prod0_120 : allB (fun j => runS 10 [.res .u8 23 0, .res .u8 230 (Nat.add 120 j)]) 60 = true := by kernel_rfl
theorem prod0_180 : allB (fun j => runS 10 [.res .u8 23 0, .res .u8 230 (Nat.add 180 j)]) 50 = true := by kernel_rfl
theorem prod6_0 : allB (fun j => runS 10 [.res .u8 23 6, .res .u8 30 (Nat.add 0 j)]) 30 = true := by kernel_rfl
theorem prod8_0 : allB (fun j => runS 10 [.res .u8 23 8, .res .u8 5 (Nat.add 0 j)]) 5 = true := by kernel_rfl
theorem prod12_0 : allB (fun j => runS 10 [.res .u8 23 12, .res .u8 15 (Nat.add 0 j)]) 15 = true := by kernel_rfl
theorem prod16_0 : allB (fun j => runS 10 [.res .u8 23 16, .res .u8 10 (Nat.add 0 j)]) 10 = true := by kernel_rfl
theorem prod20_0 : allB (fun j => runS 10 [.res .u8 23 20, .res .u8 10 (Nat.add 0 j)]) 10 = true := by kernel_rfl
end Go.Proofs.Ytffcnjcglfkbnaa
