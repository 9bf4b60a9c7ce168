import Derived.Test.YtfkfejonlfcgoaaEvNew
import Derived.Laws.Cells
namespace Go.Proofs.Ytfkfejonlfcgoaa.Ev
open Go Go.RowKit

def EvOk (ρ : Rho) (ev : Operand → Option AV) (f : Operand → Value) : Prop := ∀ x v, ev x = some v → RelV ρ v (f x)

theorem run_v {P : Program} {s : Sem Value} {y : Value} {w w' : World} (h : s.run P w = .ok y w') :
    (do let a ← s; pure (Next.value a) : Sem Next).run P w = .ok (.value y) w' := by
  rw [Sem.run_bind, h]; rfl
theorem run_u {P : Program} {s : Sem Unit} {w w' : World} (h : s.run P w = .ok () w') :
    (do s; pure Next.skip : Sem Next).run P w = .ok .skip w' := by
  rw [Sem.run_bind, h]; rfl

section
variable {P : Program} {ρ : Rho} {ev : Operand → Option AV} {f : Operand → Value}

theorem evXs_sound (E : EvOk ρ ev f) : ∀ {l : List Operand} {vs : List AV}, evXs ev l = some vs → RelL ρ vs (l.map f)
  | [], _, e => by simp only [evXs, Option.some.injEq] at e; subst e; exact RelL.nil_iff.2 rfl
  | x :: l, _, e => by
    simp only [evXs] at e
    split at e
    case h_2 => cases e
    rename_i v hv
    split at e
    case h_2 => cases e
    rename_i us hus
    cases e
    exact RelL.cons (E x v hv) (evXs_sound E hus)

/-- Parts of a literal. -/
def RelP (ρ : Rho) : List (Nat × AV) → List (Nat × Value) → Prop
  | [], ps => ps = []
  | (i, v) :: l, ps => ∃ y qs, RelV ρ v y ∧ RelP ρ l qs ∧ ps = (i, y) :: qs
theorem evPs_sound (E : EvOk ρ ev f) : ∀ {l : List (Nat × Operand)} {vs : List (Nat × AV)}, evPs ev l = some vs → RelP ρ vs (l.map fun (i, x) => (i, f x))
  | [], _, e => by simp only [evPs, Option.some.injEq] at e; subst e; rfl
  | (i, x) :: l, _, e => by
    simp only [evPs] at e
    split at e
    case h_2 => cases e
    rename_i v hv
    split at e
    case h_2 => cases e
    rename_i us hus
    cases e
    exact ⟨_, _, E x v hv, evPs_sound E hus, rfl⟩

def setVs (k : Nat) : List Value → List Value → List Value
  | [], cs => cs
  | v :: l, cs => setVs (k + 1) l (cs.set k v)
theorem setAll_sound : ∀ {l : List AV} {xs : List Value} (_ : RelL ρ l xs) (k : Nat) {cs : List AV} {ys : List Value} (_ : RelL ρ cs ys), RelL ρ (setAll k l cs) (setVs k xs ys)
  | [], _, h, k, _, _, hc => by rw [RelL.nil_iff.1 h]; exact hc
  | v :: l, _, h, k, _, _, hc => by
    obtain ⟨y, zs, h1, h2, rfl⟩ := h.cons_inv
    exact setAll_sound h2 (k + 1) (hc.set h1 k)
theorem foldl_setVs (off : Nat) : ∀ (l : List Value) (s : Nat) (cs : Array Value),
    ((l.zipIdx s).foldl (fun (cs : Array Value) (p : Value × Nat) => cs.setIfInBounds (off + p.2) p.1) cs).toList = setVs (off + s) l cs.toList
  | [], s, cs => rfl
  | v :: l, s, cs => by
    simp only [List.zipIdx_cons, List.foldl_cons]
    rw [foldl_setVs off l (s + 1) _]
    simp only [setVs, Array.toList_setIfInBounds, Nat.add_assoc]
theorem fillA_sound {place : Nat → Option (Nat × Nat)} : ∀ {ps : List (Nat × AV)} {qs : List (Nat × Value)} (_ : RelP ρ ps qs) {cs r : List AV} {ys : Array Value} (_ : RelL ρ cs ys.toList),
    fillA place cs ps = some r → ∃ zs : Array Value, Instr.fill place ys qs = some zs ∧ RelL ρ r zs.toList
  | [], _, h, cs, r, ys, hc, e => by
    simp only [fillA, Option.some.injEq] at e; subst e
    have h' : _ = ([] : List (Nat × Value)) := h
    subst h'
    exact ⟨ys, rfl, hc⟩
  | (i, v) :: ps, _, h, cs, r, ys, hc, e => by
    obtain ⟨y, qs, hv, hq, rfl⟩ := h
    simp only [fillA] at e
    split at e
    case h_1 => cases e
    rename_i off size hpl
    cases hb : (v.cells.length.beq size && (off + v.cells.length).ble cs.length) with
    | false => rw [hb] at e; cases e
    | true =>
      rw [hb] at e; simp only [cond_true] at e
      simp only [Bool.and_eq_true, Nat.beq_eq, Nat.ble_eq] at hb
      have hl := hv.cells.length
      have hl2 := hc.length
      simp only [Array.length_toList] at hl hl2
      have hn : ¬ (y.cells.size ≠ size ∨ off + y.cells.size > ys.size) := by omega
      simp only [Instr.fill, hpl]
      rw [if_neg (by simpa using hn)]
      refine fillA_sound hq ?_ e
      have key : (y.cells.zipIdx.foldl (fun (cs : Array Value) (p : Value × Nat) => cs.setIfInBounds (off + p.2) p.1) ys).toList = setVs off y.cells.toList ys.toList := by
        rw [← Array.foldl_toList, Array.toList_zipIdx, foldl_setVs off _ 0 ys]; rfl
      rw [show (y.cells.zipIdx.foldl (fun cs x => match x with | (c, j) => cs.setIfInBounds (off + j) c) ys).toList = setVs off y.cells.toList ys.toList from key]
      exact setAll_sound hv.cells off hc
end
end Go.Proofs.Ytfkfejonlfcgoaa.Ev
