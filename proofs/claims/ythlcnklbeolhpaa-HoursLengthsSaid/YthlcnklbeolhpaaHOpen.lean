/- Arguments of the laws of package hours, as the walks read them. -/
import Derived.Test.YthlcnklbeolhpaaBase
import Derived.Test.YthlcnklbeolhpaaRows
import Derived.ProofKit
import Derived.OpenShut
import Derived.Deep.Matrix
namespace Go.Proofs.Ythlcnklbeolhpaa
open Go.ChangeShapes Go.WideShapes Go.RowKit Go.Deep

theorem addr_plain {w : World} {a : Addr} {v : Value} (h : w.cell? (a.add 0) = some v) : ∃ b off, a = ⟨b, off, none⟩ := by
  obtain ⟨b, off, spot⟩ := a
  have hspot : spot = none := by simpa [Addr.add] using World.cell?_spot h
  subst hspot
  exact ⟨b, off, rfl⟩

theorem open_rdI {H : Type} {enc : TypeId × Value → H} {W : World} {a : Option Addr} {len cap : Nat} {d : DataW H} {ps : List MemPlace}
    (h : DataW.Trod enc Try.prog W 0 (fun _ => true) true 27 (.slice a len cap) d ps) :
    ∃ xs : List Int, xs.length = len ∧ len ≤ cap ∧ cap ≤ maxLen ∧ RdI W a xs ∧ ∀ x ∈ xs, (Lit.int .i64 x).wf = true := by
  obtain ⟨fuel, hf⟩ := h
  rcases open_ints Try.underlying27 Try.underlying3 (by kernel_rfl) hf with ⟨hcs, _⟩ | ⟨x, l, c, zs, hcs, _, hl, hm, hz, _, hcell, hwz⟩
  · simp [Value.cells] at hcs
    obtain ⟨rfl, rfl, rfl⟩ := hcs
    exact ⟨[], rfl, Nat.le_refl _, Nat.zero_le _, RdI.nil _ _, fun x hx => by cases hx⟩
  · simp [Value.cells] at hcs
    obtain ⟨rfl, rfl, rfl⟩ := hcs
    have hz' : zs.length = cap := by simpa using hz
    refine ⟨zs.take len, by rw [List.length_take]; omega, hl, hm, fun k hk => ?_, fun n hn => hwz n (List.mem_of_mem_take hn)⟩
    rw [List.length_take] at hk
    obtain ⟨b, off, rfl, hc⟩ := ints_at hcell (by omega)
    refine ⟨b, off, rfl, ?_⟩
    rw [hc k (by omega), List.getElem_take]
    simp [List.getD, List.getElem?_eq_getElem (show k < zs.length by omega)]

theorem open_rdM {H : Type} {enc : TypeId × Value → H} {W : World} {a : Option Addr} {len cap : Nat} {d : DataW H} {ps : List MemPlace}
    (h : DataW.Trod enc Try.prog W 0 (fun _ => true) true 22 (.slice a len cap) d ps) :
    ∃ T : List (List Int), T.length = len ∧ len ≤ maxLen ∧ RdM W a T := by
  obtain ⟨fuel, hf⟩ := h
  rcases open_int_rows Try.underlying22 Try.underlying27 Try.underlying3 (by kernel_rfl) (by kernel_rfl) hf with ⟨hcs, _⟩ | ⟨x, l, c, A, L, C, Z, hcs, _, hl, hm, _, hrow⟩
  · simp [Value.cells] at hcs
    obtain ⟨rfl, rfl, rfl⟩ := hcs
    exact ⟨[], rfl, Nat.zero_le _, fun _ hk => absurd hk (Nat.not_lt_zero _)⟩
  · simp [Value.cells] at hcs
    obtain ⟨rfl, rfl, rfl⟩ := hcs
    refine ⟨(List.range len).map fun r => (Z r).take (L r), by simp, by omega, fun k hk => ?_⟩
    have hk' : k < len := by simpa using hk
    have e : ((List.range len).map fun r => (Z r).take (L r))[k] = (Z k).take (L k) := by simp
    obtain ⟨b, off, rfl⟩ := addr_plain (hrow 0 (by omega)).1
    obtain ⟨h1, h2, h3, h4, h5, h6, h7⟩ := hrow k (by omega)
    have el : ((Z k).take (L k)).length = L k := by rw [List.length_take]; omega
    refine ⟨b, off, A k, C k, rfl, ?_, ?_⟩
    · rw [e, el, ← h1, Go.WideShapes.add_plain]
    · rw [e]
      intro i hi
      rw [el] at hi
      cases hA : A k with
      | none => have := h6 hA; omega
      | some a' =>
        obtain ⟨_, hc⟩ := h7 a' hA
        obtain ⟨b', off', rfl⟩ := addr_plain (hc 0 (by omega))
        refine ⟨b', off', rfl, ?_⟩
        rw [← Go.WideShapes.add_plain, hc i (by omega), List.getElem_take]
        simp [List.getD, List.getElem?_eq_getElem (show i < (Z k).length by omega)]

section
variable {H : Type} {enc : TypeId × Value → H} {P : Program} {w : World} {base : Nat} {spare : Nat → Bool} {held : Bool}
/-- One number of one cell. -/
theorem i64_at {t : TypeId} {fuel : Nat} {cs : List Value} {i : Nat} {x : DataW H × List MemPlace} (ht : P.underlying t = some (.int .i64)) (h : DataW.trod enc P w base spare held fuel t ((cs.drop i).take 1) = some x) :
    ∃ m : Int, cs[i]? = some (.int .i64 m) := by
  obtain ⟨n, he, _, hw⟩ := DataW.trod_int ht h
  have h0 : ((cs.drop i).take 1)[0]? = some (.int .i64 n) := by rw [he]; rfl
  exact ⟨n, by simpa using h0⟩
end
set_option maxRecDepth 100000 in
theorem open_reason {H : Type} {enc : TypeId × Value → H} {W : World} {base : Nat} {v : Value} {d : DataW H} {ps : List MemPlace}
    (hv : Value.okWide Try.prog W .any base 24 v) (h : DataW.Trod enc Try.prog W 0 (fun _ => true) true 24 v d ps) :
    ∃ x y : Int, v = .agg #[.int .i64 x, .int .i64 y] := by
  obtain ⟨cs, rfl, hsz⟩ := okWide_struct Try.underlying24 hv
  obtain ⟨fuel, hf⟩ := h
  obtain ⟨ys, n, _, _, hcl, hlen, hg⟩ := DataW.trod_struct Try.underlying24 hf
  have k8 : Try.prog.cellsOf 3 = 1 := by kernel_rfl
  have k2 : Try.prog.cellsOf 24 = 2 := by kernel_rfl
  have hl2 : ys.length = 2 := hlen
  obtain ⟨l⟩ := cs
  rw [k2] at hsz
  have hll : l.length = 2 := by simpa using hsz
  have g0 : DataW.trod enc Try.prog W 0 (fun _ => true) true n 3 ((l.drop 0).take 1) = some (ys[0]'(by omega)) := by
    have h : DataW.trod enc Try.prog W 0 (fun _ => true) true n 3 ((l.drop 0).take (Try.prog.cellsOf 3)) = some (ys[0]'(by omega)) := (hg 0 _ rfl).trans (List.getElem?_eq_getElem (show 0 < ys.length by omega))
    rwa [k8] at h
  have g1 : DataW.trod enc Try.prog W 0 (fun _ => true) true n 3 ((l.drop 1).take 1) = some (ys[1]'(by omega)) := by
    have h : DataW.trod enc Try.prog W 0 (fun _ => true) true n 3 ((l.drop 1).take (Try.prog.cellsOf 3)) = some (ys[1]'(by omega)) := (hg 1 _ rfl).trans (List.getElem?_eq_getElem (show 1 < ys.length by omega))
    rwa [k8] at h
  obtain ⟨p, hp⟩ := i64_at Try.underlying3 g0
  obtain ⟨q, hq⟩ := i64_at Try.underlying3 g1
  match l, hll, hp, hq with
  | [c0, c1], _, hp, hq =>
    have e0 : c0 = .int .i64 p := by simpa using hp
    have e1 : c1 = .int .i64 q := by simpa using hq
    exact ⟨p, q, by rw [e0, e1]⟩

end Go.Proofs.Ythlcnklbeolhpaa
