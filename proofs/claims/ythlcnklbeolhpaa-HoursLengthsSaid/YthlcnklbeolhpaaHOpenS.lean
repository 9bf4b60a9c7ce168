/- An argument that is a slice of steps: numbers, and slices of numbers. -/
import Derived.Test.YthlcnklbeolhpaaHOpen
import Derived.Test.YthlcnklbeolhpaaHStp
namespace Go.Proofs.Ythlcnklbeolhpaa
open Go.ChangeShapes Go.WideShapes Go.RowKit Go.Deep

/-- The cells of a step. -/
theorem step_at {H : Type} {enc : TypeId × Value → H} {W : World} {fuel : Nat} {cs : List Value} {x : DataW H × List MemPlace} (hl : cs.length = 2)
    (hf : DataW.trod enc Try.prog W 0 (fun _ => true) true fuel 47 cs = some x) : ∃ (p : Int) (r : Option Addr) (c : Nat) (xs : List Int), cs = [.int .i64 p, .slice r xs.length c] ∧ xs.length ≤ maxLen ∧ RdI W r xs := by
  obtain ⟨ys, n, _, _, hcl, hlen, hg⟩ := DataW.trod_struct Try.underlying47 hf
  have k8 : Try.prog.cellsOf 3 = 1 := by kernel_rfl
  have k9 : Try.prog.cellsOf 27 = 1 := by kernel_rfl
  have hl3 : ys.length = 2 := hlen
  have g0 : DataW.trod enc Try.prog W 0 (fun _ => true) true n 3 ((cs.drop 0).take 1) = some (ys[0]'(by omega)) := by
    have h : DataW.trod enc Try.prog W 0 (fun _ => true) true n 3 ((cs.drop 0).take (Try.prog.cellsOf 3)) = some (ys[0]'(by omega)) := (hg 0 _ rfl).trans (List.getElem?_eq_getElem (show 0 < ys.length by omega))
    rwa [k8] at h
  have g1 : DataW.trod enc Try.prog W 0 (fun _ => true) true n 27 ((cs.drop 1).take 1) = some (ys[1]'(by omega)) := by
    have h : DataW.trod enc Try.prog W 0 (fun _ => true) true n 27 ((cs.drop 1).take (Try.prog.cellsOf 27)) = some (ys[1]'(by omega)) := (hg 1 _ rfl).trans (List.getElem?_eq_getElem (show 1 < ys.length by omega))
    rwa [k9] at h
  obtain ⟨p, hp⟩ := i64_at Try.underlying3 g0
  match cs, hl, hp, g1 with
  | [c0, c1], _, hp, g1 =>
    have e0 : c0 = .int .i64 p := by simpa using hp
    subst e0
    have g2 : DataW.trod enc Try.prog W 0 (fun _ => true) true n 27 [c1] = some (ys[1]'(by omega)) := g1
    rcases open_ints Try.underlying27 Try.underlying3 (by kernel_rfl) g2 with ⟨hcs, _⟩ | ⟨x, l, c, zs, hcs, _, hl, hm, hz, _, hcell, _⟩
    · simp only [List.cons.injEq, and_true] at hcs
      subst hcs
      exact ⟨p, none, 0, [], rfl, Nat.zero_le _, RdI.nil _ _⟩
    · simp only [List.cons.injEq, and_true] at hcs
      subst hcs
      have hz' : zs.length = c := by simpa using hz
      have htl : (zs.take l).length = l := by rw [List.length_take]; omega
      refine ⟨p, some x, c, zs.take l, by rw [htl], by omega, fun k hk => ?_⟩
      rw [htl] at hk
      obtain ⟨b, off, rfl, hc⟩ := ints_at hcell (by omega)
      refine ⟨b, off, rfl, ?_⟩
      rw [hc k (by omega), List.getElem_take]
      simp [List.getD, List.getElem?_eq_getElem (show k < zs.length by omega)]
theorem open_steps {H : Type} {enc : TypeId × Value → H} {W : World} {a : Option Addr} {len cap : Nat} {d : DataW H} {ps : List MemPlace}
    (h : DataW.Trod enc Try.prog W 0 (fun _ => true) true 43 (.slice a len cap) d ps) :
    ∃ L : List Stp, L.length = len ∧ len ≤ maxLen ∧ (∀ p ∈ L, p.2.length ≤ maxLen) ∧ RdS W a L := by
  obtain ⟨fuel, hf⟩ := h
  rcases open_slice Try.underlying43 hf with ⟨hcs, _⟩ | ⟨y, l, c, m, n, D, Pl, hcs, _, hl, hm, hmm, _, hx⟩
  · simp [Value.cells] at hcs
    obtain ⟨rfl, rfl, rfl⟩ := hcs
    exact ⟨[], rfl, Nat.zero_le _, (fun p hp => absurd hp List.not_mem_nil), fun _ h => absurd h (Nat.not_lt_zero _)⟩
  · simp [Value.cells] at hcs
    obtain ⟨rfl, rfl, rfl⟩ := hcs
    have hmm' : m = cap := by simpa using hmm
    subst hmm'
    have k3 : Try.prog.cellsOf 47 = 2 := by kernel_rfl
    rw [k3] at hx
    obtain ⟨V, hV⟩ := choose_lt (α := Stp × Option Addr × Nat) (p := fun i v => W.cell? (y.add (i * 2)) = some (.int .i64 v.1.1) ∧ W.cell? ((y.add (i * 2)).add 1) = some (.slice v.2.1 v.1.2.length v.2.2) ∧ v.1.2.length ≤ maxLen ∧ RdI W v.2.1 v.1.2) (n := m) (fun i hi => by
      obtain ⟨cs', h1, h2⟩ := hx i hi
      obtain ⟨_, hlen, hc⟩ := World.cells?_some h1
      obtain ⟨p, r, c, xs, rfl, h3, h4⟩ := step_at hlen h2
      exact ⟨((p, xs), r, c), hc 0 (by omega), hc 1 (by omega), h3, h4⟩)
    refine ⟨(List.range len).map fun i => (V i).1, by simp, by omega, fun p hp => ?_, fun k hk => ?_⟩
    · obtain ⟨i, hi, rfl⟩ := List.mem_map.1 hp
      exact (hV i (by have := List.mem_range.1 hi; omega)).2.2.1
    · have hk' : k < len := by simpa using hk
      obtain ⟨b, off, rfl⟩ := addr_plain (show W.cell? (y.add 0) = some _ from by have := (hV 0 (by omega)).1; simpa using this)
      obtain ⟨h1, h2, h3, h4⟩ := hV k (by omega)
      rw [add_plain] at h1 h2
      rw [add_plain] at h2
      have e : ((List.range len).map fun i => (V i).1)[k] = (V k).1 := by simp
      rw [e]
      exact ⟨b, off, (V k).2.1, (V k).2.2, rfl, h1, h2, h4⟩
end Go.Proofs.Ythlcnklbeolhpaa
