/- An argument that is a bench by value: nineteen numbers. -/
import Derived.Test.YthlcnklbeolhpaaHMade
import Derived.Test.YthlcnklbeolhpaaHWorks
namespace Go.Proofs.Ythlcnklbeolhpaa
open Go.ChangeShapes Go.WideShapes Go.RowKit Go.Deep

section
variable {H : Type} {enc : TypeId × Value → H} {P : Program} {w : World} {base : Nat} {spare : Nat → Bool} {held : Bool}

/-- One number of one cell. -/
theorem u8_at {t : TypeId} {fuel : Nat} {cs : List Value} {i : Nat} {x : DataW H × List MemPlace} (ht : P.underlying t = some (.int .u8)) (h : DataW.trod enc P w base spare held fuel t ((cs.drop i).take 1) = some x) :
    ∃ m : Nat, m < 256 ∧ cs[i]? = some (.int .u8 m) := by
  obtain ⟨n, he, _, hw⟩ := DataW.trod_int ht h
  have hb : 0 ≤ n ∧ n < 256 := by
    have h1 : IntKind.u8.min = 0 := rfl
    have h2 : IntKind.u8.max = 255 := rfl
    simp only [Lit.wf, Bool.and_eq_true, decide_eq_true_eq] at hw
    omega
  refine ⟨n.toNat, by omega, ?_⟩
  have e : (n.toNat : Int) = n := by omega
  rw [e]
  have h0 : ((cs.drop i).take 1)[0]? = some (.int .u8 n) := by rw [he]; rfl
  simpa using h0

/-- An array of numbers of one cell. -/
theorem u8s_at {t e : TypeId} {n fuel : Nat} {cs : List Value} {x : DataW H × List MemPlace} (ht : P.underlying t = some (.array n e)) (he : P.underlying e = some (.int .u8)) (hc : P.cellsOf e = 1) (h : DataW.trod enc P w base spare held fuel t cs = some x) :
    ∀ i, i < n → ∃ m : Nat, m < 256 ∧ cs[i]? = some (.int .u8 m) := fun i hi => by
  obtain ⟨xs, m, _, _, _, hl, hat⟩ := DataW.trod_array ht h
  have h1 := hat i hi
  rw [hc, Nat.mul_one, List.getElem?_eq_getElem (show i < xs.length by omega)] at h1
  exact u8_at he h1
end

/-- Nineteen numbers, one by one. -/
theorem bench_of {l : List Value} (hl : l.length = 19) (all : ∀ i, i < 19 → ∃ m : Nat, m < 256 ∧ l[i]? = some (.int .u8 m)) : ∃ f : Nat → Nat, Value.agg ⟨l⟩ = bench f ∧ ∀ k, f k < 256 := by
  have h : ∀ i, ∃ m : Nat, m < 256 ∧ (i < 19 → l[i]? = some (.int .u8 m)) := fun i => by
    by_cases hi : i < 19
    · obtain ⟨m, hm, hc⟩ := all i hi
      exact ⟨m, hm, fun _ => hc⟩
    · exact ⟨0, by omega, fun h => absurd h hi⟩
  obtain ⟨f, hf⟩ := Classical.axiomOfChoice h
  refine ⟨f, ?_, fun k => (hf k).1⟩
  match l, hl, hf with
  | [c0, c1, c2, c3, c4, c5, c6, c7, c8, c9, c10, c11, c12, c13, c14, c15, c16, c17, c18], _, hf =>
    have e0 : c0 = .int .u8 (f 0) := Option.some.inj ((hf 0).2 (by omega))
    have e1 : c1 = .int .u8 (f 1) := Option.some.inj ((hf 1).2 (by omega))
    have e2 : c2 = .int .u8 (f 2) := Option.some.inj ((hf 2).2 (by omega))
    have e3 : c3 = .int .u8 (f 3) := Option.some.inj ((hf 3).2 (by omega))
    have e4 : c4 = .int .u8 (f 4) := Option.some.inj ((hf 4).2 (by omega))
    have e5 : c5 = .int .u8 (f 5) := Option.some.inj ((hf 5).2 (by omega))
    have e6 : c6 = .int .u8 (f 6) := Option.some.inj ((hf 6).2 (by omega))
    have e7 : c7 = .int .u8 (f 7) := Option.some.inj ((hf 7).2 (by omega))
    have e8 : c8 = .int .u8 (f 8) := Option.some.inj ((hf 8).2 (by omega))
    have e9 : c9 = .int .u8 (f 9) := Option.some.inj ((hf 9).2 (by omega))
    have e10 : c10 = .int .u8 (f 10) := Option.some.inj ((hf 10).2 (by omega))
    have e11 : c11 = .int .u8 (f 11) := Option.some.inj ((hf 11).2 (by omega))
    have e12 : c12 = .int .u8 (f 12) := Option.some.inj ((hf 12).2 (by omega))
    have e13 : c13 = .int .u8 (f 13) := Option.some.inj ((hf 13).2 (by omega))
    have e14 : c14 = .int .u8 (f 14) := Option.some.inj ((hf 14).2 (by omega))
    have e15 : c15 = .int .u8 (f 15) := Option.some.inj ((hf 15).2 (by omega))
    have e16 : c16 = .int .u8 (f 16) := Option.some.inj ((hf 16).2 (by omega))
    have e17 : c17 = .int .u8 (f 17) := Option.some.inj ((hf 17).2 (by omega))
    have e18 : c18 = .int .u8 (f 18) := Option.some.inj ((hf 18).2 (by omega))
    simp only [bench, e0, e1, e2, e3, e4, e5, e6, e7, e8, e9, e10, e11, e12, e13, e14, e15, e16, e17, e18]

set_option maxRecDepth 100000 in
theorem open_bench {H : Type} {enc : TypeId × Value → H} {W : World} {r : Reach} {b0 : Nat} {v : Value} {d : DataW H} {ps : List MemPlace} (hv : Value.okWide Try.prog W r b0 61 v)
    (h : DataW.Trod enc Try.prog W 0 (fun _ => true) true 61 v d ps) : ∃ f : Nat → Nat, v = bench f ∧ ∀ k, f k < 256 := by
  obtain ⟨cs, rfl, hsz⟩ := okWide_struct Try.underlying61 hv
  obtain ⟨fuel, hf⟩ := h
  obtain ⟨xs, n, _, _, hcl, hlen, hg⟩ := DataW.trod_struct Try.underlying61 hf
  have k8 : Try.prog.cellsOf 5 = 1 := by kernel_rfl
  have k16 : Try.prog.cellsOf 59 = 16 := by kernel_rfl
  have k19 : Try.prog.cellsOf 61 = 19 := by kernel_rfl
  have hl4 : xs.length = 4 := hlen
  obtain ⟨l⟩ := cs
  rw [k19] at hsz
  have hll : l.length = 19 := by simpa using hsz
  have all : ∀ i, i < 19 → ∃ m : Nat, m < 256 ∧ l[i]? = some (.int .u8 m) := by
    intro i hi
    obtain ⟨y0, g0⟩ : ∃ y, DataW.trod enc Try.prog W 0 (fun _ => true) true n 5 ((l.drop 0).take 1) = some y := ⟨_, by
      have h : DataW.trod enc Try.prog W 0 (fun _ => true) true n 5 ((l.drop 0).take (Try.prog.cellsOf 5)) = some (xs[0]'(by omega)) := (hg 0 _ rfl).trans (List.getElem?_eq_getElem (show 0 < xs.length by omega))
      rw [k8] at h
      exact h⟩
    obtain ⟨y1, g1⟩ : ∃ y, DataW.trod enc Try.prog W 0 (fun _ => true) true n 5 ((l.drop 1).take 1) = some y := ⟨_, by
      have h : DataW.trod enc Try.prog W 0 (fun _ => true) true n 5 ((l.drop 1).take (Try.prog.cellsOf 5)) = some (xs[1]'(by omega)) := (hg 1 _ rfl).trans (List.getElem?_eq_getElem (show 1 < xs.length by omega))
      rw [k8] at h
      exact h⟩
    obtain ⟨y2, g2⟩ : ∃ y, DataW.trod enc Try.prog W 0 (fun _ => true) true n 5 ((l.drop 2).take 1) = some y := ⟨_, by
      have h : DataW.trod enc Try.prog W 0 (fun _ => true) true n 5 ((l.drop 2).take (Try.prog.cellsOf 5)) = some (xs[2]'(by omega)) := (hg 2 _ rfl).trans (List.getElem?_eq_getElem (show 2 < xs.length by omega))
      rw [k8] at h
      exact h⟩
    obtain ⟨y3, g3⟩ : ∃ y, DataW.trod enc Try.prog W 0 (fun _ => true) true n 59 ((l.drop 3).take 16) = some y := ⟨_, by
      have h : DataW.trod enc Try.prog W 0 (fun _ => true) true n 59 ((l.drop 3).take (Try.prog.cellsOf 59)) = some (xs[3]'(by omega)) := (hg 3 _ rfl).trans (List.getElem?_eq_getElem (show 3 < xs.length by omega))
      rw [k16] at h
      exact h⟩
    by_cases h0 : i = 0
    · subst h0; exact u8_at Try.underlying5 g0
    by_cases h1 : i = 1
    · subst h1; exact u8_at Try.underlying5 g1
    by_cases h2 : i = 2
    · subst h2; exact u8_at Try.underlying5 g2
    obtain ⟨m, hm, hc⟩ := u8s_at Try.underlying59 Try.underlying5 k8 g3 (i - 3) (by omega)
    refine ⟨m, hm, ?_⟩
    rw [show i = 3 + (i - 3) by omega, ← hc]
    simp [show i - 3 < 16 by omega]
  exact bench_of hll all
end Go.Proofs.Ythlcnklbeolhpaa
