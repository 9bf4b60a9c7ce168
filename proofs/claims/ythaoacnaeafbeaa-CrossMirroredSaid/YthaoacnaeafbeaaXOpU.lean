/- An argument that is a rule by numbers. -/
import Derived.Test.YthaoacnaeafbeaaXOpen
import Derived.Test.YthaoacnaeafbeaaXMd
namespace Go.Proofs.Ythaoacnaeafbeaa
open Go.ChangeShapes Go.WideShapes Go.RowKit Go.Deep

theorem open_wall {H : Type} {enc : TypeId × Value → H} {W : World} {a : Option Addr} {len cap : Nat} {d : DataW H} {ps : List MemPlace}
    (h : DataW.Trod enc Try.prog W 0 (fun _ => true) true 44 (.slice a len cap) d ps) :
    ∃ xs : List Nat, xs.length = len ∧ len ≤ cap ∧ cap ≤ maxLen ∧ RdU W a xs ∧ ∀ x ∈ xs, x < 256 := by
  obtain ⟨fuel, hf⟩ := h
  rcases open_ints Try.underlying44 Try.underlying5 (by kernel_rfl) hf with ⟨hcs, _⟩ | ⟨x, l, c, zs, hcs, _, hl, hm, hz, _, hcell, hwz⟩
  · simp [Value.cells] at hcs
    obtain ⟨rfl, rfl, rfl⟩ := hcs
    exact ⟨[], rfl, Nat.le_refl _, Nat.zero_le _, fun _ h => absurd h (Nat.not_lt_zero _), fun x hx => by cases hx⟩
  · simp [Value.cells] at hcs
    obtain ⟨rfl, rfl, rfl⟩ := hcs
    have hz' : zs.length = cap := by simpa using hz
    have hb : ∀ n ∈ zs, 0 ≤ n ∧ n < 256 := fun n hn => by
      have hw := hwz n hn
      have h1 : IntKind.u8.min = 0 := rfl
      have h2 : IntKind.u8.max = 255 := rfl
      simp only [Lit.wf, Bool.and_eq_true, decide_eq_true_eq] at hw
      omega
    refine ⟨(zs.take len).map Int.toNat, by rw [List.length_map, List.length_take]; omega, hl, hm, fun k hk => ?_, fun n hn => ?_⟩
    · rw [List.length_map, List.length_take] at hk
      obtain ⟨b, off, rfl, hc⟩ := ints_at hcell (by omega)
      refine ⟨b, off, rfl, ?_⟩
      have := hb _ (List.getElem_mem (show k < zs.length by omega))
      rw [hc k (by omega), List.getElem_map, List.getElem_take, Int.toNat_of_nonneg this.1]
      simp [List.getD, List.getElem?_eq_getElem (show k < zs.length by omega)]
    · obtain ⟨y, hy, rfl⟩ := List.mem_map.1 hn
      have := hb y (List.mem_of_mem_take hy)
      omega
theorem X.u8 {a : Int} (h : (Lit.int .u8 a).wf = true) : ∃ n : Nat, a = (n : Int) ∧ n < 256 := by
  have h1 : IntKind.u8.min = 0 := rfl
  have h2 : IntKind.u8.max = 255 := rfl
  simp only [Lit.wf, Bool.and_eq_true, decide_eq_true_eq] at h
  exact ⟨a.toNat, by omega, by omega⟩
end Go.Proofs.Ythaoacnaeafbeaa
