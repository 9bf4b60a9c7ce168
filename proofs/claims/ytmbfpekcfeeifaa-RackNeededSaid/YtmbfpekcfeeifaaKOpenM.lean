/- An argument that is a motion: two slices of numbers. -/
import Derived.Test.YtmbfpekcfeeifaaKOpen
namespace Go.Proofs.Ytmbfpekcfeeifaa
open Go.ChangeShapes Go.WideShapes Go.RowKit Go.Deep

theorem open_rdIc {H : Type} {enc : TypeId × Value → H} {W : World} {fuel : Nat} {cs : List Value} {x : DataW H × List MemPlace}
    (hf : DataW.trod enc Try.prog W 0 (fun _ => true) true fuel 40 cs = some x) :
    ∃ (a : Option Addr) (cap : Nat) (xs : List Int), cs = [.slice a xs.length cap] ∧ xs.length ≤ cap ∧ cap ≤ maxLen ∧ RdI W a xs := by
  rcases open_ints Try.underlying40 Try.underlying3 (by kernel_rfl) hf with ⟨hcs, _⟩ | ⟨x, l, c, zs, hcs, _, hl, hm, hz, _, hcell, hwz⟩
  · exact ⟨none, 0, [], by simpa using hcs, Nat.le_refl _, Nat.zero_le _, RdI.nil _ _⟩
  · have hz' : zs.length = c := by simpa using hz
    have hlen : (zs.take l).length = l := by rw [List.length_take]; omega
    refine ⟨_, c, zs.take l, by rw [hlen]; simpa using hcs, by omega, hm, fun k hk => ?_⟩
    rw [hlen] at hk
    obtain ⟨b, off, rfl, hc⟩ := ints_at hcell (by omega)
    refine ⟨b, off, rfl, ?_⟩
    rw [hc k (by omega), List.getElem_take]
    simp [List.getD, List.getElem?_eq_getElem (show k < zs.length by omega)]

set_option maxRecDepth 100000 in
theorem open_mot {H : Type} {enc : TypeId × Value → H} {W : World} {r : Reach} {b0 : Nat} {v : Value} {d : DataW H} {ps : List MemPlace} (hv : Value.okWide Try.prog W r b0 50 v)
    (h : DataW.Trod enc Try.prog W 0 (fun _ => true) true 50 v d ps) :
    ∃ (a1 : Option Addr) (c1 : Nat) (R : List Int) (a2 : Option Addr) (c2 : Nat) (C : List Int), v = .agg #[.slice a1 R.length c1, .slice a2 C.length c2] ∧ R.length ≤ maxLen ∧ C.length ≤ maxLen ∧ RdI W a1 R ∧ RdI W a2 C := by
  obtain ⟨cs, rfl, hsz⟩ := okWide_struct Try.underlying50 hv
  obtain ⟨fuel, hf⟩ := h
  obtain ⟨ys, n, _, _, hcl, hlen, hg⟩ := DataW.trod_struct Try.underlying50 hf
  have ks : Try.prog.cellsOf 40 = 1 := by kernel_rfl
  have k2 : Try.prog.cellsOf 50 = 2 := by kernel_rfl
  have hl2 : ys.length = 2 := hlen
  obtain ⟨l⟩ := cs
  rw [k2] at hsz
  have hll : l.length = 2 := by simpa using hsz
  have g0 : DataW.trod enc Try.prog W 0 (fun _ => true) true n 40 ((l.drop 0).take 1) = some (ys[0]'(by omega)) := by
    have h : DataW.trod enc Try.prog W 0 (fun _ => true) true n 40 ((l.drop 0).take (Try.prog.cellsOf 40)) = some (ys[0]'(by omega)) := (hg 0 _ rfl).trans (List.getElem?_eq_getElem (show 0 < ys.length by omega))
    rwa [ks] at h
  have g1 : DataW.trod enc Try.prog W 0 (fun _ => true) true n 40 ((l.drop 1).take 1) = some (ys[1]'(by omega)) := by
    have h : DataW.trod enc Try.prog W 0 (fun _ => true) true n 40 ((l.drop 1).take (Try.prog.cellsOf 40)) = some (ys[1]'(by omega)) := (hg 1 _ rfl).trans (List.getElem?_eq_getElem (show 1 < ys.length by omega))
    rwa [ks] at h
  obtain ⟨a1, c1, R, he1, h11, h12, h13⟩ := open_rdIc g0
  obtain ⟨a2, c2, C, he2, h21, h22, h23⟩ := open_rdIc g1
  match l, hll, he1, he2 with
  | [x0, x1], _, he1, he2 =>
    have e0 : x0 = .slice a1 R.length c1 := by simpa using he1
    have e1 : x1 = .slice a2 C.length c2 := by simpa using he2
    exact ⟨a1, c1, R, a2, c2, C, by rw [e0, e1], by omega, by omega, h13, h23⟩
end Go.Proofs.Ytmbfpekcfeeifaa
