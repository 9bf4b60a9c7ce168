/- The row's frame: what it hands over. -/
import Derived.Test.YtiodcgdjphmffaaBWorks
import Derived.Test.YtiodcgdjphmffaaRows
import Derived.ProofKit
import Derived.OpenShut
import Derived.HandedShaped
namespace Go.Proofs.Ytiodcgdjphmffaa
open Go.ChangeShapes Go.WideShapes Go.RowKit Go.Shelf
theorem laidOut : laidOutB Try.prog = true := by kernel_rfl
theorem own : ownKnob Try.prog.godebug = none := by kernel_rfl
theorem maxL_of (w : World) (h : w.ShapedOpen Try.prog) : MaxL w := Try.laysCo.s1_3 w h
end Go.Proofs.Ytiodcgdjphmffaa
