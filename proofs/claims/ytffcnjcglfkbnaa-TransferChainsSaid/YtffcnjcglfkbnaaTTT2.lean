import Derived.Test.YtffcnjcglfkbnaaTTab
namespace Go.Proofs.Ytffcnjcglfkbnaa
open Go.RowKit Ev
theorem tabA3 : shB 3 anyF (chainOf 3) = true := by kernel_rfl
theorem tabA7 : shB 7 anyF (chainOf 7) = true := by kernel_rfl
theorem tabA11 : shB 11 anyF (chainOf 11) = true := by kernel_rfl
theorem tabA15 : shB 15 anyF (chainOf 15) = true := by kernel_rfl
theorem tabA23 : shB 23 anyF (chainOf 23) = true := by kernel_rfl
theorem tabA25 : shB 25 anyF (chainOf 25) = true := by kernel_rfl
theorem tabA30 : shB 30 anyF (chainOf 30) = true := by kernel_rfl
theorem tabA31 : shB 31 anyF (chainOf 31) = true := by kernel_rfl
theorem tabA33 : shB 33 anyF (chainOf 33) = true := by kernel_rfl
theorem tabA40 : shB 40 anyF (chainOf 40) = true := by kernel_rfl
theorem tabA43 : shB 43 anyF (chainOf 43) = true := by kernel_rfl
theorem tabR3 : shB 3 rowF (chainOf 3) = true := by kernel_rfl
theorem tabR7 : shB 7 rowF (chainOf 7) = true := by kernel_rfl
theorem tabR11 : shB 11 rowF (chainOf 11) = true := by kernel_rfl
theorem tabR15 : shB 15 rowF (chainOf 15) = true := by kernel_rfl
theorem tabR23 : shB 23 rowF (chainOf 23) = true := by kernel_rfl
theorem tabR25 : shB 25 rowF (chainOf 25) = true := by kernel_rfl
theorem tabR30 : shB 30 rowF (chainOf 30) = true := by kernel_rfl
theorem tabR31 : shB 31 rowF (chainOf 31) = true := by kernel_rfl
theorem tabR33 : shB 33 rowF (chainOf 33) = true := by kernel_rfl
theorem tabR40 : shB 40 rowF (chainOf 40) = true := by kernel_rfl
theorem tabR43 : shB 43 rowF (chainOf 43) = true := by kernel_rfl
end Go.Proofs.Ytffcnjcglfkbnaa
