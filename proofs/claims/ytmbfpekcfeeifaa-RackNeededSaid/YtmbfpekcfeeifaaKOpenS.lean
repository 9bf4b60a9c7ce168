/- An argument that is a shelf: two bytes and a slice of three bytes each. -/
import Derived.Test.YtmbfpekcfeeifaaKOpenM
import Derived.Test.YtmbfpekcfeeifaaKMade
namespace Go.Proofs.Ytmbfpekcfeeifaa
open Go.ChangeShapes Go.WideShapes Go.RowKit Go.Deep

section
variable {H : Type} {enc : TypeId × Value → H} {P : Program} {w : World} {base : Nat} {spare : Nat → Bool} {held : Bool}
theorem u8_at {t : TypeId} {fuel : Nat} {cs : List Value} {i : Nat} {x : DataW H × List MemPlace} (ht : P.underlying t = some (.int .u8)) (h : DataW.trod enc P w base spare held fuel t ((cs.drop i).take 1) = some x) :
    ∃ m : Nat, m < 256 ∧ cs[i]? = some (.int .u8 m) := by
  obtain ⟨n, he, _, hw⟩ := DataW.trod_int ht h
  have hb : 0 ≤ n ∧ n < 256 := by
    have h1 : IntKind.u8.min = 0 := rfl
    have h2 : IntKind.u8.max = 255 := rfl
    simp only [Lit.wf, Bool.and_eq_true, decide_eq_true_eq] at hw
    omega
  refine ⟨n.toNat, by omega, ?_⟩
  have e : (n.toNat : Int) = n := by omega
  rw [e]
  have h0 : ((cs.drop i).take 1)[0]? = some (.int .u8 n) := by rw [he]; rfl
  simpa using h0
theorem u8s_at {t e : TypeId} {n fuel : Nat} {cs : List Value} {x : DataW H × List MemPlace} (ht : P.underlying t = some (.array n e)) (he : P.underlying e = some (.int .u8)) (hc : P.cellsOf e = 1) (h : DataW.trod enc P w base spare held fuel t cs = some x) :
    ∀ i, i < n → ∃ m : Nat, m < 256 ∧ cs[i]? = some (.int .u8 m) := fun i hi => by
  obtain ⟨xs, m, _, _, _, hl, hat⟩ := DataW.trod_array ht h
  have h1 := hat i hi
  rw [hc, Nat.mul_one, List.getElem?_eq_getElem (show i < xs.length by omega)] at h1
  exact u8_at he h1
end
/-- The three cells of three bytes. -/
theorem three_at {H : Type} {enc : TypeId × Value → H} {W : World} {fuel : Nat} {cs : List Value} {x : DataW H × List MemPlace} (hl : cs.length = 3)
    (hf : DataW.trod enc Try.prog W 0 (fun _ => true) true fuel 89 cs = some x) : ∃ p q r : Nat, p < 256 ∧ q < 256 ∧ r < 256 ∧ cs = [.int .u8 p, .int .u8 q, .int .u8 r] := by
  have k8 : Try.prog.cellsOf 5 = 1 := by kernel_rfl
  have all := u8s_at Try.underlying89 Try.underlying5 k8 hf
  obtain ⟨p, hp, h0⟩ := all 0 (by decide)
  obtain ⟨q, hq, h1⟩ := all 1 (by decide)
  obtain ⟨r, hr, h2⟩ := all 2 (by decide)
  match cs, hl, h0, h1, h2 with
  | [c0, c1, c2], _, h0, h1, h2 =>
    have e0 : c0 = .int .u8 p := by simpa using h0
    have e1 : c1 = .int .u8 q := by simpa using h1
    have e2 : c2 = .int .u8 r := by simpa using h2
    exact ⟨p, q, r, hp, hq, hr, by rw [e0, e1, e2]⟩

theorem open_threes {H : Type} {enc : TypeId × Value → H} {W : World} {fuel : Nat} {cs : List Value} {x : DataW H × List MemPlace}
    (hf : DataW.trod enc Try.prog W 0 (fun _ => true) true fuel 70 cs = some x) :
    ∃ (a : Option Addr) (cap : Nat) (T : List (Nat × Nat × Nat)), cs = [.slice a T.length cap] ∧ T.length ≤ maxLen ∧ RdT W a T ∧ ∀ t ∈ T, t.1 < 256 ∧ t.2.1 < 256 ∧ t.2.2 < 256 := by
  rcases open_slice Try.underlying70 hf with ⟨hcs, _⟩ | ⟨y, l, c, m, n, D, Pl, hcs, _, hl, hm, hmm, _, hx⟩
  · exact ⟨none, 0, [], hcs, Nat.zero_le _, fun _ h => absurd h (Nat.not_lt_zero _), fun t ht => by cases ht⟩
  · have hmm' : m = c := by simpa using hmm
    subst hmm'
    have k3 : Try.prog.cellsOf 89 = 3 := by kernel_rfl
    rw [k3] at hx
    obtain ⟨V, hV⟩ := choose_lt (α := Nat × Nat × Nat) (p := fun i v => (v.1 < 256 ∧ v.2.1 < 256 ∧ v.2.2 < 256) ∧ W.cell? (y.add (i * 3)) = some (.int .u8 v.1) ∧ W.cell? ((y.add (i * 3)).add 1) = some (.int .u8 v.2.1) ∧ W.cell? ((y.add (i * 3)).add 2) = some (.int .u8 v.2.2)) (n := m) (fun i hi => by
      obtain ⟨cs', h1, h2⟩ := hx i hi
      obtain ⟨_, hlen, hc⟩ := World.cells?_some h1
      obtain ⟨p, q, r, hp, hq, hr, rfl⟩ := three_at hlen h2
      exact ⟨(p, q, r), ⟨hp, hq, hr⟩, hc 0 (by omega), hc 1 (by omega), hc 2 (by omega)⟩)
    refine ⟨some y, m, (List.range l).map V, by simpa using hcs, by simp; omega, fun k hk => ?_, fun t ht => ?_⟩
    · have hk' : k < l := by simpa using hk
      obtain ⟨b, off, rfl⟩ := addr_plain (show W.cell? (y.add 0) = some _ from by have := (hV 0 (by omega)).2.1; simpa using this)
      obtain ⟨_, h1, h2, h3⟩ := hV k (by omega)
      rw [add_plain] at h1 h2 h3
      rw [add_plain] at h2 h3
      exact ⟨b, off, rfl, by simpa using h1, by simpa using h2, by simpa using h3⟩
    · obtain ⟨k, hk, rfl⟩ := List.mem_map.1 ht
      exact (hV k (by have := List.mem_range.1 hk; omega)).1

set_option maxRecDepth 100000 in
theorem open_shelf {H : Type} {enc : TypeId × Value → H} {W : World} {r : Reach} {b0 : Nat} {v : Value} {d : DataW H} {ps : List MemPlace} (hv : Value.okWide Try.prog W r b0 72 v)
    (h : DataW.Trod enc Try.prog W 0 (fun _ => true) true 72 v d ps) :
    ∃ (p q : Nat) (a : Option Addr) (cap : Nat) (T : List (Nat × Nat × Nat)), v = K.shv p q a T.length cap ∧ p < 256 ∧ q < 256 ∧ T.length ≤ maxLen ∧ RdT W a T ∧ ∀ t ∈ T, t.1 < 256 ∧ t.2.1 < 256 ∧ t.2.2 < 256 := by
  obtain ⟨cs, rfl, hsz⟩ := okWide_struct Try.underlying72 hv
  obtain ⟨fuel, hf⟩ := h
  obtain ⟨ys, n, _, _, hcl, hlen, hg⟩ := DataW.trod_struct Try.underlying72 hf
  have k8 : Try.prog.cellsOf 5 = 1 := by kernel_rfl
  have ks : Try.prog.cellsOf 70 = 1 := by kernel_rfl
  have k2 : Try.prog.cellsOf 72 = 3 := by kernel_rfl
  have hl2 : ys.length = 3 := hlen
  obtain ⟨l⟩ := cs
  rw [k2] at hsz
  have hll : l.length = 3 := by simpa using hsz
  have g0 : DataW.trod enc Try.prog W 0 (fun _ => true) true n 5 ((l.drop 0).take 1) = some (ys[0]'(by omega)) := by
    have h : DataW.trod enc Try.prog W 0 (fun _ => true) true n 5 ((l.drop 0).take (Try.prog.cellsOf 5)) = some (ys[0]'(by omega)) := (hg 0 _ rfl).trans (List.getElem?_eq_getElem (show 0 < ys.length by omega))
    rwa [k8] at h
  have g1 : DataW.trod enc Try.prog W 0 (fun _ => true) true n 5 ((l.drop 1).take 1) = some (ys[1]'(by omega)) := by
    have h : DataW.trod enc Try.prog W 0 (fun _ => true) true n 5 ((l.drop 1).take (Try.prog.cellsOf 5)) = some (ys[1]'(by omega)) := (hg 1 _ rfl).trans (List.getElem?_eq_getElem (show 1 < ys.length by omega))
    rwa [k8] at h
  have g2 : DataW.trod enc Try.prog W 0 (fun _ => true) true n 70 ((l.drop 2).take 1) = some (ys[2]'(by omega)) := by
    have h : DataW.trod enc Try.prog W 0 (fun _ => true) true n 70 ((l.drop 2).take (Try.prog.cellsOf 70)) = some (ys[2]'(by omega)) := (hg 2 _ rfl).trans (List.getElem?_eq_getElem (show 2 < ys.length by omega))
    rwa [ks] at h
  obtain ⟨p, hp, hp0⟩ := u8_at Try.underlying5 g0
  obtain ⟨q, hq, hq0⟩ := u8_at Try.underlying5 g1
  obtain ⟨a, cap, T, he, h1, h2, h3⟩ := open_threes g2
  match l, hll, hp0, hq0, he with
  | [c0, c1, c2], _, hp0, hq0, he =>
    have e0 : c0 = .int .u8 p := by simpa using hp0
    have e1 : c1 = .int .u8 q := by simpa using hq0
    have e2 : c2 = .slice a T.length cap := by simpa using he
    exact ⟨p, q, a, cap, T, by rw [e0, e1, e2]; rfl, hp, hq, h1, h2, h3⟩
end Go.Proofs.Ytmbfpekcfeeifaa
