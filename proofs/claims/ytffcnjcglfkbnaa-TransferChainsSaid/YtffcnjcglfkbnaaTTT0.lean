import Derived.Test.YtffcnjcglfkbnaaTTab
namespace Go.Proofs.Ytffcnjcglfkbnaa
open Go.RowKit Ev
theorem tabA2 : shB 2 anyF (chainOf 2) = true := by kernel_rfl
theorem tabA6 : shB 6 anyF (chainOf 6) = true := by kernel_rfl
theorem tabA10 : shB 10 anyF (chainOf 10) = true := by kernel_rfl
theorem tabA14 : shB 14 anyF (chainOf 14) = true := by kernel_rfl
theorem tabA18 : shB 18 anyF (chainOf 18) = true := by kernel_rfl
theorem tabA19 : shB 19 anyF (chainOf 19) = true := by kernel_rfl
theorem tabA21 : shB 21 anyF (chainOf 21) = true := by kernel_rfl
theorem tabA28 : shB 28 anyF (chainOf 28) = true := by kernel_rfl
theorem tabA29 : shB 29 anyF (chainOf 29) = true := by kernel_rfl
theorem tabA38 : shB 38 anyF (chainOf 38) = true := by kernel_rfl
theorem tabA45 : shB 45 anyF (chainOf 45) = true := by kernel_rfl
theorem tabR2 : shB 2 rowF (chainOf 2) = true := by kernel_rfl
theorem tabR6 : shB 6 rowF (chainOf 6) = true := by kernel_rfl
theorem tabR10 : shB 10 rowF (chainOf 10) = true := by kernel_rfl
theorem tabR14 : shB 14 rowF (chainOf 14) = true := by kernel_rfl
theorem tabR18 : shB 18 rowF (chainOf 18) = true := by kernel_rfl
theorem tabR19 : shB 19 rowF (chainOf 19) = true := by kernel_rfl
theorem tabR21 : shB 21 rowF (chainOf 21) = true := by kernel_rfl
theorem tabR28 : shB 28 rowF (chainOf 28) = true := by kernel_rfl
theorem tabR29 : shB 29 rowF (chainOf 29) = true := by kernel_rfl
theorem tabR38 : shB 38 rowF (chainOf 38) = true := by kernel_rfl
theorem tabR45 : shB 45 rowF (chainOf 45) = true := by kernel_rfl
end Go.Proofs.Ytffcnjcglfkbnaa
