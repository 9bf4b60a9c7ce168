/- An argument that is two numbers of one byte. -/
import Derived.Test.YtiodcgdjphmffaaBClo
namespace Go.Proofs.Ytiodcgdjphmffaa
open Go.ChangeShapes Go.WideShapes Go.RowKit Go.Deep
theorem open_A2 {H : Type} {enc : TypeId × Value → H} {W : World} {r : Reach} {b0 : Nat} {v : Value} {d : DataW H} {ps : List MemPlace} (hv : Value.okWide Try.prog W r b0 61 v)
    (h : DataW.Trod enc Try.prog W 0 (fun _ => true) true 61 v d ps) : ∃ f : Nat → Nat, v = arr8 f 2 ∧ ∀ k, f k < 256 := by
  simp only [Value.okWide, Try.underlying61] at hv
  obtain ⟨cs, rfl, hsz, _⟩ := hv
  obtain ⟨fuel, hf⟩ := h
  have k8 : Try.prog.cellsOf 5 = 1 := by kernel_rfl
  have k5 : Try.prog.cellsOf 61 = 2 := by kernel_rfl
  obtain ⟨l⟩ := cs
  rw [k5] at hsz
  have hll : l.length = 2 := by simpa using hsz
  exact arr8_of hll (fun i hi => u8s_at (cs := l) Try.underlying61 Try.underlying5 k8 hf i hi)
end Go.Proofs.Ytiodcgdjphmffaa
