import Derived.Test.YtffcnjcglfkbnaaTTab
namespace Go.Proofs.Ytffcnjcglfkbnaa
open Go.RowKit Ev
theorem tabA4 : shB 4 anyF (chainOf 4) = true := by kernel_rfl
theorem tabA8 : shB 8 anyF (chainOf 8) = true := by kernel_rfl
theorem tabA12 : shB 12 anyF (chainOf 12) = true := by kernel_rfl
theorem tabA16 : shB 16 anyF (chainOf 16) = true := by kernel_rfl
theorem tabA20 : shB 20 anyF (chainOf 20) = true := by kernel_rfl
theorem tabA24 : shB 24 anyF (chainOf 24) = true := by kernel_rfl
theorem tabA26 : shB 26 anyF (chainOf 26) = true := by kernel_rfl
theorem tabA32 : shB 32 anyF (chainOf 32) = true := by kernel_rfl
theorem tabA34 : shB 34 anyF (chainOf 34) = true := by kernel_rfl
theorem tabA39 : shB 39 anyF (chainOf 39) = true := by kernel_rfl
theorem tabA41 : shB 41 anyF (chainOf 41) = true := by kernel_rfl
theorem tabA42 : shB 42 anyF (chainOf 42) = true := by kernel_rfl
theorem tabA44 : shB 44 anyF (chainOf 44) = true := by kernel_rfl
theorem tabR4 : shB 4 rowF (chainOf 4) = true := by kernel_rfl
theorem tabR8 : shB 8 rowF (chainOf 8) = true := by kernel_rfl
theorem tabR12 : shB 12 rowF (chainOf 12) = true := by kernel_rfl
theorem tabR16 : shB 16 rowF (chainOf 16) = true := by kernel_rfl
theorem tabR20 : shB 20 rowF (chainOf 20) = true := by kernel_rfl
theorem tabR24 : shB 24 rowF (chainOf 24) = true := by kernel_rfl
theorem tabR26 : shB 26 rowF (chainOf 26) = true := by kernel_rfl
theorem tabR32 : shB 32 rowF (chainOf 32) = true := by kernel_rfl
theorem tabR34 : shB 34 rowF (chainOf 34) = true := by kernel_rfl
theorem tabR39 : shB 39 rowF (chainOf 39) = true := by kernel_rfl
theorem tabR41 : shB 41 rowF (chainOf 41) = true := by kernel_rfl
theorem tabR42 : shB 42 rowF (chainOf 42) = true := by kernel_rfl
theorem tabR44 : shB 44 rowF (chainOf 44) = true := by kernel_rfl
end Go.Proofs.Ytffcnjcglfkbnaa
