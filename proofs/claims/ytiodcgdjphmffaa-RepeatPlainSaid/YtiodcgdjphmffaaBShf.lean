/- Package repeat: the library's HasPrefix, HasSuffix, Compare, Contains and Clone at strings, by the shelf's contracts. -/
import Derived.Test.YtiodcgdjphmffaaBPlain
import Derived.Test.YtiodcgdjphmffaaProg
import Derived.Shelf.Lay
import Derived.Shelf.LaysM
import Derived.Shelf.Strings.Prefix
import Derived.Shelf.Strings.Shaped
import Derived.Shelf.Small.Strs
import Derived.Shelf.Strconv.Clone
import Derived.Ground.NamesProg
namespace Go.Proofs.Ytiodcgdjphmffaa
open Go.Shelf Go.RowKit

shelf_lay Lays.n99 Nm 99 at Try as Try.laysHp
shelf_lay Lays.n100 Nm 100 at Try as Try.laysHs
shelf_lay Lays.n106 Nm 106 at Try as Try.laysCm
shelf_lay LaysM.n316 Nm 316 at Try as Try.laysCl
shelf_lay LaysM.n144 Nm 144 at Try as Try.laysCo

theorem hasPrefix_any (s p : ByteArray) (w : World) :
    Calls Try.prog 68 #[.string s, .string p] w fun e w' => e = .returned (.bool (Lib.hasPrefix s.data.toList p.data.toList)) ∧ w' = w := Any.strings_HasPrefix Try.laysHp s p w
theorem hasSuffix_any (s p : ByteArray) (w : World) (hs : s.size ≤ 9223372036854775807) :
    Calls Try.prog 78 #[.string s, .string p] w fun e w' => e = .returned (.bool (Lib.hasSuffix s.data.toList p.data.toList)) ∧ w' = w := Any.strings_HasSuffix Try.laysHs s p w hs
theorem compare_any (s p : ByteArray) (w : World) :
    Calls Try.prog 81 #[.string s, .string p] w fun e w' => e = .returned (.int .i64 (Lib.compareBytes s.data.toList p.data.toList)) ∧ w' = w := Any.strings_Compare Try.laysCm s p w
theorem clone_any (s : ByteArray) (w : World) (hlim : s.size ≤ 281474976710656) :
    Calls Try.prog 49 #[.string s] w fun e w' => e = .returned (.string s) ∧ Below w.heap.size w w' := by
  have C := hid (fun w => (Any.stringslite_Clone Try.laysCl s w hlim : Calls Try.prog 67 #[.string s] w fun e w' => e = .returned (.string s) ∧ Below w.heap.size w w'))
  go_enter Try.func49, Try.ntmps49
  go_wp2_with (refine (C.out _).mono ?_; rintro e w' ⟨rfl, hb⟩)
  go_ret
  exact ⟨rfl, hb⟩
end Go.Proofs.Ytiodcgdjphmffaa
