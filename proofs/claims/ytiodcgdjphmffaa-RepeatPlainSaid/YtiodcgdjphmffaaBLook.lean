/- A set by map[string]bool that the call made and asks: what it holds. -/
import Derived.Test.YtiodcgdjphmffaaBAllQ
import Derived.Maps.OwnOps
namespace Go.Proofs.Ytiodcgdjphmffaa
open Go.RowKit Go.Maps Go.WideMaps
namespace B
def eqL : List Nat → List Nat → Bool
  | [], [] => true
  | a :: s, b :: t => (Nat.beq a b).and (eqL s t)
  | _, _ => false
def memL (T : List Nat) : List (List Nat) → Bool
  | [] => false
  | U :: A => (eqL T U).or (memL T A)
theorem eqL_iff : ∀ (s t : List Nat), eqL s t = true ↔ s = t
  | [], [] => by simp [eqL]
  | [], _ :: _ => by simp [eqL]
  | _ :: _, [] => by simp [eqL]
  | a :: s, b :: t => by
    have ih := eqL_iff s t
    rw [eqL, List.cons.injEq, ← ih]
    by_cases e : a = b
    · rw [show Nat.beq a b = true from by simpa using e]; simp [e]
    · rw [show Nat.beq a b = false from by rw [← Bool.not_eq_true]; simpa using e]; simp [e]
def keyL (T : List Nat) : Lit := .string (byt T)
theorem byt_inj_list : ∀ {s t : List Nat}, (∀ x ∈ s, x < 100) → (∀ x ∈ t, x < 100) → byt s = byt t → s = t
  | [], [], _, _, _ => rfl
  | [], _ :: _, _, _, h => by cases h
  | _ :: _, [], _, _, h => by cases h
  | a :: s, b :: t, hs, ht, h => by
    have h' : UInt8.ofNat (97 + a) :: byt s = UInt8.ofNat (97 + b) :: byt t := h
    rw [List.cons.injEq] at h'
    rw [(byt_inj (hs a List.mem_cons_self) (ht b List.mem_cons_self)).1 h'.1, byt_inj_list (fun x hx => hs x (List.mem_cons_of_mem _ hx)) (fun x hx => ht x (List.mem_cons_of_mem _ hx)) h'.2]
/-- The map holds these borders, and no other. -/
structure Holds {H : Type} (D : DataW H) (A : List (List Nat)) : Prop where
  tidy : Tidy D
  ask : ∀ T, (∀ x ∈ T, x < 100) → D.atKey (keyL T) (.lit (.bool false)) = .lit (.bool (memL T A))
  has : ∀ T, (∀ x ∈ T, x < 100) → Maps.has D (keyL T) = memL T A
  size : Maps.size D = A.length
theorem holds_nil {H : Type} : Holds (.map [] : DataW H) [] := ⟨tidy_empty, fun _ _ => atKey_of_not_has rfl _, fun _ _ => rfl, rfl⟩
theorem holds_put {H : Type} {D : DataW H} {A : List (List Nat)} (h : Holds D A) {T : List Nat} (hT : ∀ x ∈ T, x < 100) (hn : memL T A = false) : Holds (D.put (keyL T) (.lit (.bool true))) (T :: A) := by
  have hk : WideAt.IsKeyLit (keyL T) := trivial
  have hne : ∀ {U : List Nat}, (∀ x ∈ U, x < 100) → U ≠ T → keyL U ≠ keyL T := fun hU e h => e (byt_inj_list hU hT (by
    have h2 : Lit.string (byt _) = Lit.string (byt _) := h
    exact Lit.string.inj h2))
  refine ⟨h.tidy.put hk _, fun U hU => ?_, fun U hU => ?_, ?_⟩
  · by_cases e : U = T
    · subst e
      rw [atKey_put_same h.tidy.isMap hk, memL, (eqL_iff U U).2 rfl]; rfl
    · rw [atKey_put_other (hne hU e), h.ask U hU, memL, show eqL U T = false from by rw [← Bool.not_eq_true, eqL_iff]; exact e]; rfl
  · by_cases e : U = T
    · subst e
      rw [has_put_same h.tidy.isMap hk, memL, (eqL_iff U U).2 rfl]; rfl
    · rw [has_put_other (hne hU e), h.has U hU, memL, show eqL U T = false from by rw [← Bool.not_eq_true, eqL_iff]; exact e]; rfl
  · rw [size_put h.tidy, h.has T hT, hn, h.size]; rfl
theorem ask_bool {H : Type} {P : Program} {k e t : TypeId} {w : World} {b n : Nat} {D : DataW H} {A : List (List Nat)} (h : w.ownsMap P k (plainElem P e) b n D) (K : Keyed P k) (ht : P.underlying t = some (.map k e)) (he : P.underlying e = some .bool)
    (hz : (zeroValue e).run P w = .ok (.bool false) w) (hH : Holds D A) {T : List Nat} (hT : ∀ x ∈ T, x < 100) {key : Value} (hkey : keyOf P k key = some (keyL T)) :
    (Instr.lookup t (.map (some b)) key false).run P w = .ok (.bool (memL T A)) w := by
  obtain ⟨v, ps, hrun, hv⟩ := h.lookup K ht hz (plainElem_bool he false) hkey
  rw [hH.ask T hT] at hv
  unfold plainElem at hv
  rw [he] at hv
  cases v <;> simp at hv
  rw [hrun, hv.1]
end B
end Go.Proofs.Ytiodcgdjphmffaa
