import Derived.Test.YtffcnjcglfkbnaaTTab
namespace Go.Proofs.Ytffcnjcglfkbnaa
open Go.RowKit Ev
theorem tabA1 : shB 1 anyF (chainOf 1) = true := by kernel_rfl
theorem tabA5 : shB 5 anyF (chainOf 5) = true := by kernel_rfl
theorem tabA9 : shB 9 anyF (chainOf 9) = true := by kernel_rfl
theorem tabA13 : shB 13 anyF (chainOf 13) = true := by kernel_rfl
theorem tabA17 : shB 17 anyF (chainOf 17) = true := by kernel_rfl
theorem tabA22 : shB 22 anyF (chainOf 22) = true := by kernel_rfl
theorem tabA27 : shB 27 anyF (chainOf 27) = true := by kernel_rfl
theorem tabA35 : shB 35 anyF (chainOf 35) = true := by kernel_rfl
theorem tabA36 : shB 36 anyF (chainOf 36) = true := by kernel_rfl
theorem tabA37 : shB 37 anyF (chainOf 37) = true := by kernel_rfl
theorem tabA46 : shB 46 anyF (chainOf 46) = true := by kernel_rfl
theorem tabR1 : shB 1 rowF (chainOf 1) = true := by kernel_rfl
theorem tabR5 : shB 5 rowF (chainOf 5) = true := by kernel_rfl
theorem tabR9 : shB 9 rowF (chainOf 9) = true := by kernel_rfl
theorem tabR13 : shB 13 rowF (chainOf 13) = true := by kernel_rfl
theorem tabR17 : shB 17 rowF (chainOf 17) = true := by kernel_rfl
theorem tabR22 : shB 22 rowF (chainOf 22) = true := by kernel_rfl
theorem tabR27 : shB 27 rowF (chainOf 27) = true := by kernel_rfl
theorem tabR35 : shB 35 rowF (chainOf 35) = true := by kernel_rfl
theorem tabR36 : shB 36 rowF (chainOf 36) = true := by kernel_rfl
theorem tabR37 : shB 37 rowF (chainOf 37) = true := by kernel_rfl
theorem tabR46 : shB 46 rowF (chainOf 46) = true := by kernel_rfl
end Go.Proofs.Ytffcnjcglfkbnaa
