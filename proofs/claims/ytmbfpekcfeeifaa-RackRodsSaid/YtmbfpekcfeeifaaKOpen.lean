/- An argument that is a rack: two numbers and a slice of braces. -/
import Derived.Test.YtmbfpekcfeeifaaKGiven
import Derived.Test.YtmbfpekcfeeifaaRows
import Derived.ProofKit
import Derived.OpenShut
import Derived.Deep.Matrix
namespace Go.Proofs.Ytmbfpekcfeeifaa
open Go.ChangeShapes Go.WideShapes Go.RowKit Go.Deep

section
variable {H : Type} {enc : TypeId × Value → H} {P : Program} {w : World} {base : Nat} {spare : Nat → Bool} {held : Bool}
/-- One number of one cell. -/
theorem i64_at {t : TypeId} {fuel : Nat} {cs : List Value} {i : Nat} {x : DataW H × List MemPlace} (ht : P.underlying t = some (.int .i64)) (h : DataW.trod enc P w base spare held fuel t ((cs.drop i).take 1) = some x) :
    ∃ m : Int, cs[i]? = some (.int .i64 m) := by
  obtain ⟨n, he, _, hw⟩ := DataW.trod_int ht h
  have h0 : ((cs.drop i).take 1)[0]? = some (.int .i64 n) := by rw [he]; rfl
  exact ⟨n, by simpa using h0⟩
end

theorem addr_plain {w : World} {a : Addr} {v : Value} (h : w.cell? (a.add 0) = some v) : ∃ b off, a = ⟨b, off, none⟩ := by
  obtain ⟨b, off, spot⟩ := a
  have hspot : spot = none := by simpa [Addr.add] using World.cell?_spot h
  subst hspot
  exact ⟨b, off, rfl⟩
/-- The three cells of a brace. -/
theorem brace_at {H : Type} {enc : TypeId × Value → H} {W : World} {fuel : Nat} {cs : List Value} {x : DataW H × List MemPlace} (hl : cs.length = 3)
    (hf : DataW.trod enc Try.prog W 0 (fun _ => true) true fuel 63 cs = some x) : ∃ p q r : Int, cs = [.int .i64 p, .int .i64 q, .int .i64 r] := by
  obtain ⟨ys, n, _, _, hcl, hlen, hg⟩ := DataW.trod_struct Try.underlying63 hf
  have k8 : Try.prog.cellsOf 3 = 1 := by kernel_rfl
  have hl3 : ys.length = 3 := hlen
  have g0 : DataW.trod enc Try.prog W 0 (fun _ => true) true n 3 ((cs.drop 0).take 1) = some (ys[0]'(by omega)) := by
    have h : DataW.trod enc Try.prog W 0 (fun _ => true) true n 3 ((cs.drop 0).take (Try.prog.cellsOf 3)) = some (ys[0]'(by omega)) := (hg 0 _ rfl).trans (List.getElem?_eq_getElem (show 0 < ys.length by omega))
    rwa [k8] at h
  have g1 : DataW.trod enc Try.prog W 0 (fun _ => true) true n 3 ((cs.drop 1).take 1) = some (ys[1]'(by omega)) := by
    have h : DataW.trod enc Try.prog W 0 (fun _ => true) true n 3 ((cs.drop 1).take (Try.prog.cellsOf 3)) = some (ys[1]'(by omega)) := (hg 1 _ rfl).trans (List.getElem?_eq_getElem (show 1 < ys.length by omega))
    rwa [k8] at h
  have g2 : DataW.trod enc Try.prog W 0 (fun _ => true) true n 3 ((cs.drop 2).take 1) = some (ys[2]'(by omega)) := by
    have h : DataW.trod enc Try.prog W 0 (fun _ => true) true n 3 ((cs.drop 2).take (Try.prog.cellsOf 3)) = some (ys[2]'(by omega)) := (hg 2 _ rfl).trans (List.getElem?_eq_getElem (show 2 < ys.length by omega))
    rwa [k8] at h
  obtain ⟨p, hp⟩ := i64_at Try.underlying3 g0
  obtain ⟨q, hq⟩ := i64_at Try.underlying3 g1
  obtain ⟨r, hr⟩ := i64_at Try.underlying3 g2
  match cs, hl, hp, hq, hr with
  | [c0, c1, c2], _, hp, hq, hr =>
    have e0 : c0 = .int .i64 p := by simpa using hp
    have e1 : c1 = .int .i64 q := by simpa using hq
    have e2 : c2 = .int .i64 r := by simpa using hr
    exact ⟨p, q, r, by rw [e0, e1, e2]⟩

theorem open_brs {H : Type} {enc : TypeId × Value → H} {W : World} {fuel : Nat} {cs : List Value} {x : DataW H × List MemPlace}
    (hf : DataW.trod enc Try.prog W 0 (fun _ => true) true fuel 22 cs = some x) :
    ∃ (a : Option Addr) (cap : Nat) (bs : List Br), cs = [.slice a bs.length cap] ∧ bs.length ≤ cap ∧ cap ≤ maxLen ∧ RdB W a bs := by
  rcases open_slice Try.underlying22 hf with ⟨hcs, _⟩ | ⟨y, l, c, m, n, D, Pl, hcs, _, hl, hm, hmm, _, hx⟩
  · exact ⟨none, 0, [], hcs, Nat.le_refl _, Nat.zero_le _, fun _ h => absurd h (Nat.not_lt_zero _)⟩
  · have hmm' : m = c := by simpa using hmm
    subst hmm'
    have k3 : Try.prog.cellsOf 63 = 3 := by kernel_rfl
    rw [k3] at hx
    obtain ⟨V, hV⟩ := choose_lt (α := Br) (p := fun i v => W.cell? (y.add (i * 3)) = some (.int .i64 v.1) ∧ W.cell? ((y.add (i * 3)).add 1) = some (.int .i64 v.2.1) ∧ W.cell? ((y.add (i * 3)).add 2) = some (.int .i64 v.2.2)) (n := m) (fun i hi => by
      obtain ⟨cs', h1, h2⟩ := hx i hi
      obtain ⟨_, hlen, hc⟩ := World.cells?_some h1
      obtain ⟨p, q, r, rfl⟩ := brace_at hlen h2
      exact ⟨(p, q, r), hc 0 (by omega), hc 1 (by omega), hc 2 (by omega)⟩)
    refine ⟨some y, m, (List.range l).map V, by simpa using hcs, by simpa using hl, hm, fun k hk => ?_⟩
    have hk' : k < l := by simpa using hk
    obtain ⟨b, off, rfl⟩ := addr_plain (show W.cell? (y.add 0) = some _ from by have := (hV 0 (by omega)).1; simpa using this)
    obtain ⟨h1, h2, h3⟩ := hV k (by omega)
    rw [add_plain] at h1 h2 h3
    rw [add_plain] at h2 h3
    exact ⟨b, off, rfl, by simpa using h1, by simpa using h2, by simpa using h3⟩

set_option maxRecDepth 100000 in
theorem open_rack {H : Type} {enc : TypeId × Value → H} {W : World} {r : Reach} {b0 : Nat} {v : Value} {d : DataW H} {ps : List MemPlace} (hv : Value.okWide Try.prog W r b0 24 v)
    (h : DataW.Trod enc Try.prog W 0 (fun _ => true) true 24 v d ps) :
    ∃ (m n : Int) (a : Option Addr) (cap : Nat) (bs : List Br), v = K.rk m n a bs.length cap ∧ bs.length ≤ cap ∧ cap ≤ maxLen ∧ RdB W a bs := by
  obtain ⟨cs, rfl, hsz⟩ := okWide_struct Try.underlying24 hv
  obtain ⟨fuel, hf⟩ := h
  obtain ⟨ys, n, _, _, hcl, hlen, hg⟩ := DataW.trod_struct Try.underlying24 hf
  have k8 : Try.prog.cellsOf 3 = 1 := by kernel_rfl
  have ks : Try.prog.cellsOf 22 = 1 := by kernel_rfl
  have k2 : Try.prog.cellsOf 24 = 3 := by kernel_rfl
  have hl2 : ys.length = 3 := hlen
  obtain ⟨l⟩ := cs
  rw [k2] at hsz
  have hll : l.length = 3 := by simpa using hsz
  have g0 : DataW.trod enc Try.prog W 0 (fun _ => true) true n 3 ((l.drop 0).take 1) = some (ys[0]'(by omega)) := by
    have h : DataW.trod enc Try.prog W 0 (fun _ => true) true n 3 ((l.drop 0).take (Try.prog.cellsOf 3)) = some (ys[0]'(by omega)) := (hg 0 _ rfl).trans (List.getElem?_eq_getElem (show 0 < ys.length by omega))
    rwa [k8] at h
  have g1 : DataW.trod enc Try.prog W 0 (fun _ => true) true n 3 ((l.drop 1).take 1) = some (ys[1]'(by omega)) := by
    have h : DataW.trod enc Try.prog W 0 (fun _ => true) true n 3 ((l.drop 1).take (Try.prog.cellsOf 3)) = some (ys[1]'(by omega)) := (hg 1 _ rfl).trans (List.getElem?_eq_getElem (show 1 < ys.length by omega))
    rwa [k8] at h
  have g2 : DataW.trod enc Try.prog W 0 (fun _ => true) true n 22 ((l.drop 2).take 1) = some (ys[2]'(by omega)) := by
    have h : DataW.trod enc Try.prog W 0 (fun _ => true) true n 22 ((l.drop 2).take (Try.prog.cellsOf 22)) = some (ys[2]'(by omega)) := (hg 2 _ rfl).trans (List.getElem?_eq_getElem (show 2 < ys.length by omega))
    rwa [ks] at h
  obtain ⟨p, hp⟩ := i64_at Try.underlying3 g0
  obtain ⟨q, hq⟩ := i64_at Try.underlying3 g1
  obtain ⟨a, cap, bs, he, h1, h2, h3⟩ := open_brs g2
  match l, hll, hp, hq, he with
  | [c0, c1, c2], _, hp, hq, he =>
    have e0 : c0 = .int .i64 p := by simpa using hp
    have e1 : c1 = .int .i64 q := by simpa using hq
    have e2 : c2 = .slice a bs.length cap := by simpa using he
    exact ⟨p, q, a, cap, bs, by rw [e0, e1, e2]; rfl, h1, h2, h3⟩
end Go.Proofs.Ytmbfpekcfeeifaa
