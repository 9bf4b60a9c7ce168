import Derived.Test.YtffcnjcglfkbnaaTTab
namespace Go.Proofs.Ytffcnjcglfkbnaa
open Go.RowKit Ev
theorem tabA4 : shB 4 anyF (chainOf 4) = true := by kernel_rfl
theorem tabA8 : shB 8 anyF (chainOf 8) = true := by kernel_rfl
theorem tabA12 : shB 12 anyF (chainOf 12) = true := by kernel_rfl
theorem tabA16 : shB 16 anyF (chainOf 16) = true := by kernel_rfl
theorem tabA20 : shB 20 anyF (chainOf 20) = true := by kernel_rfl
theorem tabA24 : shB 24 anyF (chainOf 24) = true := by kernel_rfl
theorem tabA26 : shB 26 anyF (chainOf 26) = true := by kernel_rfl
theorem tabA32 : shB 32 anyF (chainOf 32) = true := by kernel_rfl
theorem tabA34 : shB 34 anyF (chainOf 34) = true := by kernel_rfl
theorem tabA39 : shB 39 anyF (chainOf 39) = true := by kernel_rfl
theorem tabA41 : shB 41 anyF (chainOf 41) = true := by kernel_rfl
theorem tabA42 : shB 42 anyF (chainOf 42) = true := by kernel_rfl
theorem tabA44 : shB 44 anyF (chainOf 44) = true := by kernel_rfl
end Go.Proofs.Ytffcnjcglfkbnaa
