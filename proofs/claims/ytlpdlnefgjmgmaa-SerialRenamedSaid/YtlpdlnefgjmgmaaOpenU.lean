/- An argument that is a slice of small numbers, or an array of five of them. -/
import Derived.Test.YtlpdlnefgjmgmaaPlate
namespace Go.Proofs.Ytlpdlnefgjmgmaa
open Go.ChangeShapes Go.WideShapes Go.RowKit Go.Deep

/-- The slice with this address reads as these small numbers. -/
def RdU (w : World) (a : Option Addr) (xs : List Nat) : Prop :=
  ∀ k (h : k < xs.length), ∃ b off, a = some ⟨b, off, none⟩ ∧ w.cell? ⟨b, off + k, none⟩ = some (.int .u8 (xs[k] : Nat))

theorem RdU.stays {w w' : World} {a : Option Addr} {xs : List Nat} (h : RdU w a xs) (hb : Below w.heap.size w w') : RdU w' a xs := fun k hk => by
  obtain ⟨b, off, ha, hc⟩ := h k hk
  exact ⟨b, off, ha, cell_stays hb (Nat.le_refl _) hc⟩

theorem open_rdU {H : Type} {enc : TypeId × Value → H} {W : World} {a : Option Addr} {len cap : Nat} {d : DataW H} {ps : List MemPlace}
    (h : DataW.Trod enc Try.prog W 0 (fun _ => true) true 42 (.slice a len cap) d ps) :
    ∃ xs : List Nat, xs.length = len ∧ len ≤ cap ∧ cap ≤ maxLen ∧ RdU W a xs ∧ ∀ x ∈ xs, x < 256 := by
  obtain ⟨fuel, hf⟩ := h
  rcases open_ints Try.underlying42 Try.underlying5 (by kernel_rfl) hf with ⟨hcs, _⟩ | ⟨x, l, c, zs, hcs, _, hl, hm, hz, _, hcell, hwz⟩
  · simp [Value.cells] at hcs
    obtain ⟨rfl, rfl, rfl⟩ := hcs
    exact ⟨[], rfl, Nat.le_refl _, Nat.zero_le _, fun _ h => absurd h (Nat.not_lt_zero _), fun x hx => by cases hx⟩
  · simp [Value.cells] at hcs
    obtain ⟨rfl, rfl, rfl⟩ := hcs
    have hz' : zs.length = cap := by simpa using hz
    have hb : ∀ n ∈ zs, 0 ≤ n ∧ n < 256 := fun n hn => by
      have hw := hwz n hn
      have h1 : IntKind.u8.min = 0 := rfl
      have h2 : IntKind.u8.max = 255 := rfl
      simp only [Lit.wf, Bool.and_eq_true, decide_eq_true_eq] at hw
      omega
    refine ⟨(zs.take len).map Int.toNat, by rw [List.length_map, List.length_take]; omega, hl, hm, fun k hk => ?_, fun n hn => ?_⟩
    · rw [List.length_map, List.length_take] at hk
      obtain ⟨b, off, rfl, hc⟩ := ints_at hcell (by omega)
      refine ⟨b, off, rfl, ?_⟩
      have := hb _ (List.getElem_mem (show k < zs.length by omega))
      rw [hc k (by omega), List.getElem_map, List.getElem_take, Int.toNat_of_nonneg this.1]
      simp [List.getD, List.getElem?_eq_getElem (show k < zs.length by omega)]
    · obtain ⟨y, hy, rfl⟩ := List.mem_map.1 hn
      have := hb y (List.mem_of_mem_take hy)
      omega

/-- Five small numbers. -/
def arr5 (g : Nat → Nat) : Value := .agg #[.int .u8 (g 0), .int .u8 (g 1), .int .u8 (g 2), .int .u8 (g 3), .int .u8 (g 4)]

theorem arr5_of {l : List Value} (hl : l.length = 5) (all : ∀ i, i < 5 → ∃ m : Nat, m < 256 ∧ l[i]? = some (.int .u8 m)) : ∃ f : Nat → Nat, Value.agg ⟨l⟩ = arr5 f ∧ ∀ k, f k < 256 := by
  have h : ∀ i, ∃ m : Nat, m < 256 ∧ (i < 5 → l[i]? = some (.int .u8 m)) := fun i => by
    by_cases hi : i < 5
    · obtain ⟨m, hm, hc⟩ := all i hi
      exact ⟨m, hm, fun _ => hc⟩
    · exact ⟨0, by omega, fun h => absurd h hi⟩
  obtain ⟨f, hf⟩ := Classical.axiomOfChoice h
  refine ⟨f, ?_, fun k => (hf k).1⟩
  match l, hl, hf with
  | [c0, c1, c2, c3, c4], _, hf =>
    have e0 : c0 = .int .u8 (f 0) := Option.some.inj ((hf 0).2 (by omega))
    have e1 : c1 = .int .u8 (f 1) := Option.some.inj ((hf 1).2 (by omega))
    have e2 : c2 = .int .u8 (f 2) := Option.some.inj ((hf 2).2 (by omega))
    have e3 : c3 = .int .u8 (f 3) := Option.some.inj ((hf 3).2 (by omega))
    have e4 : c4 = .int .u8 (f 4) := Option.some.inj ((hf 4).2 (by omega))
    simp only [arr5, e0, e1, e2, e3, e4]

theorem open_arr5 {H : Type} {enc : TypeId × Value → H} {W : World} {r : Reach} {b0 : Nat} {v : Value} {d : DataW H} {ps : List MemPlace} (hv : Value.okWide Try.prog W r b0 22 v)
    (h : DataW.Trod enc Try.prog W 0 (fun _ => true) true 22 v d ps) : ∃ f : Nat → Nat, v = arr5 f ∧ ∀ k, f k < 256 := by
  simp only [Value.okWide, Try.underlying22] at hv
  obtain ⟨cs, rfl, hsz, _⟩ := hv
  obtain ⟨fuel, hf⟩ := h
  have k8 : Try.prog.cellsOf 5 = 1 := by kernel_rfl
  have k5 : Try.prog.cellsOf 22 = 5 := by kernel_rfl
  obtain ⟨l⟩ := cs
  rw [k5] at hsz
  have hll : l.length = 5 := by simpa using hsz
  exact arr5_of hll (fun i hi => u8s_at (cs := l) Try.underlying22 Try.underlying5 k8 hf i hi)

end Go.Proofs.Ytlpdlnefgjmgmaa
