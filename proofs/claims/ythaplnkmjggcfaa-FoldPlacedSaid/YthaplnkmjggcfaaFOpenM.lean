/- An argument that is a strip by numbers: a slice of small numbers, and a small number. -/
import Derived.Test.YthaplnkmjggcfaaFMade
import Derived.Test.YthaplnkmjggcfaaRows
import Derived.ProofKit
import Derived.OpenShut
import Derived.Deep.Matrix
namespace Go.Proofs.Ythaplnkmjggcfaa
open Go.ChangeShapes Go.WideShapes Go.RowKit Go.Deep

theorem laidOut : laidOutB Try.prog = true := by kernel_rfl
theorem own : ownKnob Try.prog.godebug = none := by kernel_rfl

section
variable {H : Type} {enc : TypeId × Value → H} {P : Program} {w : World} {base : Nat} {spare : Nat → Bool} {held : Bool}

/-- One number of one cell. -/
theorem u8_at {t : TypeId} {fuel : Nat} {cs : List Value} {i : Nat} {x : DataW H × List MemPlace} (ht : P.underlying t = some (.int .u8)) (h : DataW.trod enc P w base spare held fuel t ((cs.drop i).take 1) = some x) :
    ∃ m : Nat, m < 256 ∧ cs[i]? = some (.int .u8 m) := by
  obtain ⟨n, he, _, hw⟩ := DataW.trod_int ht h
  have hb : 0 ≤ n ∧ n < 256 := by
    have h1 : IntKind.u8.min = 0 := rfl
    have h2 : IntKind.u8.max = 255 := rfl
    simp only [Lit.wf, Bool.and_eq_true, decide_eq_true_eq] at hw
    omega
  refine ⟨n.toNat, by omega, ?_⟩
  have e : (n.toNat : Int) = n := by omega
  rw [e]
  have h0 : ((cs.drop i).take 1)[0]? = some (.int .u8 n) := by rw [he]; rfl
  simpa using h0
end

theorem open_rdUc {H : Type} {enc : TypeId × Value → H} {W : World} {fuel : Nat} {cs : List Value} {x : DataW H × List MemPlace}
    (hf : DataW.trod enc Try.prog W 0 (fun _ => true) true fuel 56 cs = some x) :
    ∃ (a : Option Addr) (cap : Nat) (xs : List Nat), cs = [.slice a xs.length cap] ∧ xs.length ≤ cap ∧ cap ≤ maxLen ∧ RdU W a xs ∧ ∀ x ∈ xs, x < 256 := by
  rcases open_ints Try.underlying56 Try.underlying5 (by kernel_rfl) hf with ⟨hcs, _⟩ | ⟨y, l, c, zs, hcs, _, hl, hm, hz, _, hcell, hwz⟩
  · exact ⟨none, 0, [], by simpa using hcs, Nat.le_refl _, Nat.zero_le _, fun _ h => absurd h (Nat.not_lt_zero _), fun x hx => by cases hx⟩
  · have hz' : zs.length = c := by simpa using hz
    have hb : ∀ n ∈ zs, 0 ≤ n ∧ n < 256 := fun n hn => by
      have hw := hwz n hn
      have h1 : IntKind.u8.min = 0 := rfl
      have h2 : IntKind.u8.max = 255 := rfl
      simp only [Lit.wf, Bool.and_eq_true, decide_eq_true_eq] at hw
      omega
    have hlen : ((zs.take l).map Int.toNat).length = l := by rw [List.length_map, List.length_take]; omega
    refine ⟨_, c, (zs.take l).map Int.toNat, by rw [hlen]; simpa using hcs, by rw [hlen]; exact hl, hm, fun k hk => ?_, fun n hn => ?_⟩
    · rw [List.length_map, List.length_take] at hk
      obtain ⟨b, off, hy, hc⟩ := ints_at hcell (by omega)
      refine ⟨b, off, by rw [hy], ?_⟩
      have := hb _ (List.getElem_mem (show k < zs.length by omega))
      rw [hc k (by omega), List.getElem_map, List.getElem_take, Int.toNat_of_nonneg this.1]
      simp [List.getD, List.getElem?_eq_getElem (show k < zs.length by omega)]
    · obtain ⟨y, hy, rfl⟩ := List.mem_map.1 hn
      have := hb y (List.mem_of_mem_take hy)
      omega

set_option maxRecDepth 100000 in
theorem open_map {H : Type} {enc : TypeId × Value → H} {W : World} {r : Reach} {b0 : Nat} {v : Value} {d : DataW H} {ps : List MemPlace} (hv : Value.okWide Try.prog W r b0 58 v)
    (h : DataW.Trod enc Try.prog W 0 (fun _ => true) true 58 v d ps) :
    ∃ (a : Option Addr) (cap : Nat) (xs : List Nat) (f : Nat), v = .agg #[.slice a xs.length cap, .int .u8 f] ∧ xs.length ≤ cap ∧ cap ≤ maxLen ∧ RdU W a xs ∧ (∀ x ∈ xs, x < 256) ∧ f < 256 := by
  obtain ⟨cs, rfl, hsz⟩ := okWide_struct Try.underlying58 hv
  obtain ⟨fuel, hf⟩ := h
  obtain ⟨ys, n, _, _, hcl, hlen, hg⟩ := DataW.trod_struct Try.underlying58 hf
  have k8 : Try.prog.cellsOf 5 = 1 := by kernel_rfl
  have ks : Try.prog.cellsOf 56 = 1 := by kernel_rfl
  have k2 : Try.prog.cellsOf 58 = 2 := by kernel_rfl
  have hl2 : ys.length = 2 := hlen
  obtain ⟨l⟩ := cs
  rw [k2] at hsz
  have hll : l.length = 2 := by simpa using hsz
  have g0 : DataW.trod enc Try.prog W 0 (fun _ => true) true n 56 ((l.drop 0).take 1) = some (ys[0]'(by omega)) := by
    have h : DataW.trod enc Try.prog W 0 (fun _ => true) true n 56 ((l.drop 0).take (Try.prog.cellsOf 56)) = some (ys[0]'(by omega)) := (hg 0 _ rfl).trans (List.getElem?_eq_getElem (show 0 < ys.length by omega))
    rwa [ks] at h
  have g1 : DataW.trod enc Try.prog W 0 (fun _ => true) true n 5 ((l.drop 1).take 1) = some (ys[1]'(by omega)) := by
    have h : DataW.trod enc Try.prog W 0 (fun _ => true) true n 5 ((l.drop 1).take (Try.prog.cellsOf 5)) = some (ys[1]'(by omega)) := (hg 1 _ rfl).trans (List.getElem?_eq_getElem (show 1 < ys.length by omega))
    rwa [k8] at h
  obtain ⟨f, hf8, hfe⟩ := u8_at Try.underlying5 g1
  obtain ⟨a, cap, xs, he, h1, h2, h3, h4⟩ := open_rdUc g0
  match l, hll, hfe, he with
  | [c0, c1], _, hfe, he =>
    have e0 : c0 = .slice a xs.length cap := by simpa using he
    have e1 : c1 = .int .u8 f := by simpa using hfe
    exact ⟨a, cap, xs, f, by rw [e0, e1], h1, h2, h3, h4, hf8⟩

/-- What made makes is valid. -/
theorem F.check_made {l : List Int} {s : ByteArray} (h1 : 1 ≤ l.length) (h6 : l.length ≤ 6) (hg : ∀ x ∈ l, 1 ≤ x ∧ x ≤ 5) (hs : s.size = l.length - 1) (ha : s.data.toList.all F.fold = true) : F.check l s.data.toList = 0 := by
  have hbad : F.bad l = false := by
    unfold F.bad
    rw [List.any_eq_false]
    intro x hx
    have := hg x hx
    simp
    omega
  have hsum : ∀ m : List Int, (∀ x ∈ m, 1 ≤ x ∧ x ≤ 5) → m.sum ≤ 5 * m.length := fun m => by
    induction m with
    | nil => intro _; simp
    | cons x m ih =>
      intro h
      have h1 := h x (by simp)
      have h2 := ih (fun y hy => h y (by simp [hy]))
      rw [List.sum_cons, List.length_cons]
      omega
  have h2 := hsum l hg
  have hlen : F.lens l = 0 := F.lens_ok (by omega) (by omega) hbad (by omega)
  have hsl : s.data.toList.length = l.length - 1 := by rw [Array.length_toList]; exact hs
  unfold F.check
  rw [if_neg (by rw [hlen]; simp), if_neg (by rw [hsl]; simp), if_pos ha]

end Go.Proofs.Ythaplnkmjggcfaa
