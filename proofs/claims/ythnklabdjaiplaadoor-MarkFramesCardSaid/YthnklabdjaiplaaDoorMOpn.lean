/- Arguments that are codes, or slices of numbers, as the walks read them. -/
import Derived.Test.YthnklabdjaiplaaDoorMChk
import Derived.Test.YthnklabdjaiplaaDoorRows
import Derived.ProofKit
import Derived.OpenShut
import Derived.Deep.Matrix
namespace Go.Proofs.YthnklabdjaiplaaDoor
open Go.ChangeShapes Go.WideShapes Go.RowKit Go.Deep

theorem laidOut : laidOutB Tryd.prog = true := by kernel_rfl
theorem own : ownKnob Tryd.prog.godebug = none := by kernel_rfl

theorem addr_plain {w : World} {a : Addr} {v : Value} (h : w.cell? (a.add 0) = some v) : ∃ b off, a = ⟨b, off, none⟩ := by
  obtain ⟨b, off, spot⟩ := a
  have hspot : spot = none := by simpa [Addr.add] using World.cell?_spot h
  subst hspot
  exact ⟨b, off, rfl⟩

theorem open_rdI {H : Type} {enc : TypeId × Value → H} {W : World} {a : Option Addr} {len cap : Nat} {d : DataW H} {ps : List MemPlace}
    (h : DataW.Trod enc Tryd.prog W 0 (fun _ => true) true 25 (.slice a len cap) d ps) :
    ∃ xs : List Int, xs.length = len ∧ len ≤ cap ∧ cap ≤ maxLen ∧ RdI W a xs ∧ ∀ x ∈ xs, (Lit.int .i64 x).wf = true := by
  obtain ⟨fuel, hf⟩ := h
  rcases open_ints Tryd.underlying25 Tryd.underlying3 (by kernel_rfl) hf with ⟨hcs, _⟩ | ⟨x, l, c, zs, hcs, _, hl, hm, hz, _, hcell, hwz⟩
  · simp [Value.cells] at hcs
    obtain ⟨rfl, rfl, rfl⟩ := hcs
    exact ⟨[], rfl, Nat.le_refl _, Nat.zero_le _, RdI.nil _ _, fun x hx => by cases hx⟩
  · simp [Value.cells] at hcs
    obtain ⟨rfl, rfl, rfl⟩ := hcs
    have hz' : zs.length = cap := by simpa using hz
    refine ⟨zs.take len, by rw [List.length_take]; omega, hl, hm, fun k hk => ?_, fun n hn => hwz n (List.mem_of_mem_take hn)⟩
    rw [List.length_take] at hk
    obtain ⟨b, off, rfl, hc⟩ := ints_at hcell (by omega)
    refine ⟨b, off, rfl, ?_⟩
    rw [hc k (by omega), List.getElem_take]
    simp [List.getD, List.getElem?_eq_getElem (show k < zs.length by omega)]

theorem open_rdMc {H : Type} {enc : TypeId × Value → H} {W : World} {fuel : Nat} {cs : List Value} {x : DataW H × List MemPlace}
    (hf : DataW.trod enc Tryd.prog W 0 (fun _ => true) true fuel 22 cs = some x) :
    ∃ (a : Option Addr) (cap : Nat) (T : List (List Int)), cs = [.slice a T.length cap] ∧ T.length ≤ cap ∧ cap ≤ maxLen ∧ (∀ i, i < T.length → (T.getD i []).length ≤ maxLen) ∧ RdM W a T := by
  rcases open_int_rows Tryd.underlying22 Tryd.underlying25 Tryd.underlying3 (by kernel_rfl) (by kernel_rfl) hf with ⟨hcs, _⟩ | ⟨x, l, c, A, L, C, Z, hcs, _, hl, hm, _, hrow⟩
  · exact ⟨none, 0, [], by simpa using hcs, Nat.zero_le _, Nat.zero_le _, fun _ hk => absurd hk (Nat.not_lt_zero _), fun _ hk => absurd hk (Nat.not_lt_zero _)⟩
  · refine ⟨_, c, (List.range l).map fun r => (Z r).take (L r), by simpa using hcs, by simp; omega, hm, fun i hi => ?_, fun k hk => ?_⟩
    · have hi' : i < l := by simpa using hi
      obtain ⟨h1, h2, h3, h4, h5, h6, h7⟩ := hrow i (by omega)
      have e : ((List.range l).map fun r => (Z r).take (L r)).getD i [] = (Z i).take (L i) := by
        rw [List.getD_eq_getElem?_getD, List.getElem?_eq_getElem hi]
        simp
      rw [e, List.length_take]
      have : L i ≤ maxLen := by omega
      omega
    · have hk' : k < l := by simpa using hk
      have e : ((List.range l).map fun r => (Z r).take (L r))[k] = (Z k).take (L k) := by simp
      obtain ⟨b, off, rfl⟩ := addr_plain (hrow 0 (by omega)).1
      obtain ⟨h1, h2, h3, h4, h5, h6, h7⟩ := hrow k (by omega)
      have el : ((Z k).take (L k)).length = L k := by rw [List.length_take]; omega
      refine ⟨b, off, A k, C k, rfl, ?_, ?_⟩
      · rw [e, el, ← h1, Go.WideShapes.add_plain]
      · rw [e]
        intro i hi
        rw [el] at hi
        cases hA : A k with
        | none => have := h6 hA; omega
        | some a' =>
          obtain ⟨_, hc⟩ := h7 a' hA
          obtain ⟨b', off', rfl⟩ := addr_plain (hc 0 (by omega))
          refine ⟨b', off', rfl, ?_⟩
          rw [← Go.WideShapes.add_plain, hc i (by omega), List.getElem_take]
          simp [List.getD, List.getElem?_eq_getElem (show i < (Z k).length by omega)]

theorem i64_at {H : Type} {enc : TypeId × Value → H} {P : Program} {w : World} {base : Nat} {spare : Nat → Bool} {held : Bool} {t : TypeId} {fuel : Nat} {cs : List Value} {i : Nat} {x : DataW H × List MemPlace} (ht : P.underlying t = some (.int .i64)) (h : DataW.trod enc P w base spare held fuel t ((cs.drop i).take 1) = some x) :
    ∃ m : Int, cs[i]? = some (.int .i64 m) ∧ (Lit.int .i64 m).wf = true := by
  obtain ⟨n, he, _, hw⟩ := DataW.trod_int ht h
  refine ⟨n, ?_, hw⟩
  have h0 : ((cs.drop i).take 1)[0]? = some (.int .i64 n) := by rw [he]; rfl
  simpa using h0

set_option maxRecDepth 100000 in
theorem open_code {H : Type} {enc : TypeId × Value → H} {W : World} {r : Reach} {b0 : Nat} {v : Value} {d : DataW H} {ps : List MemPlace} (hv : Value.okWide Tryd.prog W r b0 24 v)
    (h : DataW.Trod enc Tryd.prog W 0 (fun _ => true) true 24 v d ps) :
    ∃ (n : Int) (a : Option Addr) (cap : Nat) (T : List (List Int)), v = .agg #[.int .i64 n, .slice a T.length cap] ∧ T.length ≤ cap ∧ cap ≤ maxLen ∧ (∀ i, i < T.length → (T.getD i []).length ≤ maxLen) ∧ RdM W a T := by
  obtain ⟨cs, rfl, hsz⟩ := okWide_struct Tryd.underlying24 hv
  obtain ⟨fuel, hf⟩ := h
  obtain ⟨ys, n, _, _, hcl, hlen, hg⟩ := DataW.trod_struct Tryd.underlying24 hf
  have k8 : Tryd.prog.cellsOf 3 = 1 := by kernel_rfl
  have ks : Tryd.prog.cellsOf 22 = 1 := by kernel_rfl
  have k2 : Tryd.prog.cellsOf 24 = 2 := by kernel_rfl
  have hl2 : ys.length = 2 := hlen
  obtain ⟨l⟩ := cs
  rw [k2] at hsz
  have hll : l.length = 2 := by simpa using hsz
  have g0 : DataW.trod enc Tryd.prog W 0 (fun _ => true) true n 3 ((l.drop 0).take 1) = some (ys[0]'(by omega)) := by
    have h : DataW.trod enc Tryd.prog W 0 (fun _ => true) true n 3 ((l.drop 0).take (Tryd.prog.cellsOf 3)) = some (ys[0]'(by omega)) := (hg 0 _ rfl).trans (List.getElem?_eq_getElem (show 0 < ys.length by omega))
    rwa [k8] at h
  have g1 : DataW.trod enc Tryd.prog W 0 (fun _ => true) true n 22 ((l.drop 1).take 1) = some (ys[1]'(by omega)) := by
    have h : DataW.trod enc Tryd.prog W 0 (fun _ => true) true n 22 ((l.drop 1).take (Tryd.prog.cellsOf 22)) = some (ys[1]'(by omega)) := (hg 1 _ rfl).trans (List.getElem?_eq_getElem (show 1 < ys.length by omega))
    rwa [ks] at h
  obtain ⟨q, hq, _⟩ := i64_at Tryd.underlying3 g0
  obtain ⟨a, cap, T, he, h1, h2, h3, h4⟩ := open_rdMc g1
  match l, hll, hq, he with
  | [c0, c1], _, hq, he =>
    have e0 : c1 = .slice a T.length cap := by simpa using he
    have e1 : c0 = .int .i64 q := by simpa using hq
    exact ⟨q, a, cap, T, by rw [e0, e1], h1, h2, h3, h4⟩

end Go.Proofs.YthnklabdjaiplaaDoor
