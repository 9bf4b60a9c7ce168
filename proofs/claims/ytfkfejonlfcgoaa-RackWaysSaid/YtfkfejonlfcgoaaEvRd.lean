/- The evaluator in passing style: a call that only reads, by its contract: what it returns is found from the arguments and from what they reach. -/
import Derived.Test.YtfkfejonlfcgoaaEvPan9
namespace Go.Proofs.Ytfkfejonlfcgoaa.Ev
open Go Go.RowKit
noncomputable section
def hookRd (f : List AV → St → Option Value) : Hook := fun _ bad _ args st kret _ => optK bad (fun v => kret (.sc v) st) (f args st)
/-- Numbers that are not below 0. -/
def natR (ih : Option (List Nat)) (v : AV) : Option (List Nat) :=
  match v with
  | .sc (.int .i64 (.ofNat x)) => optK none (fun xs => some (x :: xs)) ih
  | _ => none
def natsR (l : List AV) : Option (List Nat) := @List.rec AV (fun _ => Option (List Nat)) (some []) (fun v _ ih => natR ih v) l
end
section
variable {P : Program}
theorem RelH.below {ρ : Rho} {st : St} {w w' : World} (hH : RelH ρ st w) (B : Below w.heap.size w w') : RelH ρ st w' ∧ Fr ρ st w ρ st w' :=
  ⟨⟨fun i o hg => (hH.obj i o hg).mono (Ext.refl _) (fun p hp => B.block _ (hH.dom _ _ hp).2) (fun _ _ _ _ h => h), fun i p hp => ⟨(hH.dom i p hp).1, Nat.lt_of_lt_of_le (hH.dom i p hp).2 B.size⟩, hH.sep, hH.stamp, hH.pos⟩,
    ⟨Nat.le_refl _, fun _ _ => rfl, fun i p h e => absurd (hH.dom i p e).1 (by omega), fun _ o h _ => ⟨o, h⟩, B.size, B.os, B.tape, B.output, fun b hb _ => B.block b hb, fun i o _ h hc _ => ⟨i, o, h, hc⟩⟩⟩
theorem hookRd_ok {g : FuncId} {f : List AV → St → Option Value} (h : ∀ args st v, f args st = some v → ∀ ρ vs w, RelL ρ args vs → RelH ρ st w → Calls P g vs.toArray w fun e w' => e = .returned v ∧ Below w.heap.size w w') :
    ∀ (R : Type) (bad : R) (rk : RKK R), RKOk P bad rk → ∀ args st kret kpan x, hookRd f R bad rk args st kret kpan = x → x ≠ bad → SoundK P g args st kret kpan x := by
  intro R bad rk _ args st kret kpan x e hx
  obtain ⟨v, h1, h2⟩ := optK_inv (k := fun v => kret (.sc v) st) e hx
  refine ⟨.ret (.sc v), st, h2, fun ρ xs w hl hH => ?_⟩
  refine (h args st v h1 ρ xs w hl hH).mono ?_
  rintro e w' ⟨rfl, B⟩
  obtain ⟨q1, q2⟩ := hH.below B
  exact ⟨ρ, ⟨v, rfl, RelV.sc _⟩, q1, q2⟩
theorem natsR_rel {ρ : Rho} : ∀ {l : List AV} {xs : List Nat} {vs : List Value}, natsR l = some xs → RelL ρ l vs → vs = xs.map fun x => .int .i64 (Int.ofNat x)
  | [], xs, vs, h, hr => by
    have h' : some [] = some xs := h
    simp only [Option.some.injEq] at h'; subst h'
    exact RelL.nil_iff.1 hr
  | u :: l, xs, vs, h, hr => by
    obtain ⟨y, ys, h1, h2, rfl⟩ := hr.cons_inv
    have h' : natR (natsR l) u = some xs := h
    unfold natR at h'
    split at h'
    case h_2 => cases h'
    rename_i x
    cases hz : natsR l with
    | none => rw [hz] at h'; cases h'
    | some zs =>
      rw [hz] at h'
      have h2' : some (x :: zs) = some xs := h'
      simp only [Option.some.injEq] at h2'; subst h2'
      rw [relV_sc.1 h1, natsR_rel hz h2]; rfl
/-- A slice of numbers, read. -/
theorem rd_nats {ρ : Rho} {st : St} {w : World} (hH : RelH ρ st w) {i k n z : Nat} {c : Option Nat} {x : Value} (hx : RelV ρ (.sl i k n z c) x) (hn : 1 ≤ n) {N : Nat} {l : List AV} (hl : rdsF st.h i k N = some l) {xs : List Nat} (hxs : natsR l = some xs) :
    ∃ b o cap, x = .slice (some ⟨b, o, none⟩) n cap ∧ xs.length = N ∧ ∀ j (h : j < xs.length), w.cell? ⟨b, o + j, none⟩ = some (.int .i64 (xs[j] : Nat)) := by
  rw [rdsF_eq] at hl
  obtain ⟨a, cap, p1, p2, _, rfl⟩ := relV_sl.1 hx
  obtain ⟨ha, _⟩ := p1 (by omega)
  obtain ⟨zs, k1, k2, k3⟩ := hH.rds hl ha
  have k4 := natsR_rel hxs k1
  subst k4
  obtain ⟨b, o, e', e1, e2, e3, e4⟩ := ha
  obtain ⟨a_b, a_o, a_s⟩ := a
  simp only at e2 e3 e4
  subst e2; subst e3
  refine ⟨a_b, a_o, cap, rfl, by simpa using k2, fun j hj => ?_⟩
  have := k3 j (.int .i64 (Int.ofNat xs[j])) (by simp [hj])
  have hadd : (Addr.add ⟨a_b, a_o, none⟩ j) = ⟨a_b, a_o + j, none⟩ := Addr.add_lit _ _ _
  rw [hadd] at this
  rw [this]
  rfl
end
end Go.Proofs.Ytfkfejonlfcgoaa.Ev
