/- The row's frame: an argument []string. -/
import Derived.Test.YtiodcgdjphmffaaBOpen
import Derived.Deep.Strs
namespace Go.Proofs.Ytiodcgdjphmffaa
open Go.ChangeShapes Go.WideShapes Go.RowKit Go.Deep

theorem addr_plain {w : World} {a : Addr} {v : Value} (h : w.cell? (a.add 0) = some v) : ∃ b off, a = ⟨b, off, none⟩ := by
  obtain ⟨b, off, spot⟩ := a
  have hspot : spot = none := by simpa [Addr.add] using World.cell?_spot h
  subst hspot
  exact ⟨b, off, rfl⟩
theorem open_ss {H : Type} {enc : TypeId × Value → H} {W : World} {a : Option Addr} {len cap : Nat} {d : DataW H} {ps : List MemPlace}
    (h : DataW.Trod enc Try.prog W 0 (fun _ => true) true 41 (.slice a len cap) d ps) :
    ∃ L : List ByteArray, L.length = len ∧ len ≤ cap ∧ cap ≤ maxLen ∧ (∀ k (h : k < L.length), L[k].size ≤ maxLen) ∧ RdS W a L := by
  obtain ⟨fuel, hf⟩ := h
  rcases open_strs Try.underlying41 Try.underlying9 (by kernel_rfl) hf with ⟨hcs, _⟩ | ⟨x, l, c, m, Sx, hcs, _, hl, hm, hmm, _, hcell⟩
  · simp [Value.cells] at hcs
    obtain ⟨rfl, rfl, rfl⟩ := hcs
    exact ⟨[], rfl, Nat.le_refl _, Nat.zero_le _, fun k hk => absurd hk (Nat.not_lt_zero _), fun k hk => absurd hk (Nat.not_lt_zero _)⟩
  · simp [Value.cells] at hcs
    obtain ⟨rfl, rfl, rfl⟩ := hcs
    have hm' : len ≤ m := by rw [hmm]; split <;> omega
    refine ⟨(List.range len).map Sx, by simp, hl, hm, fun k hk => ?_, fun k hk => ?_⟩
    · rw [List.length_map, List.length_range] at hk
      rw [List.getElem_map, List.getElem_range]
      exact (hcell k (by omega)).2
    · rw [List.length_map, List.length_range] at hk
      obtain ⟨b, off, rfl⟩ := addr_plain (hcell 0 (by omega)).1
      refine ⟨b, off, rfl, ?_⟩
      have := (hcell k (by omega)).1
      rw [Addr.add_lit] at this
      rw [this, List.getElem_map, List.getElem_range]
end Go.Proofs.Ytiodcgdjphmffaa
