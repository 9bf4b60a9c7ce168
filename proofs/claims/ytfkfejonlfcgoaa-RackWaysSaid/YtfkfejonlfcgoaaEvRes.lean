/- Calls whose arguments are known in part: numbers by their remainders. -/
import Derived.Test.YtfkfejonlfcgoaaEvFast
import Derived.Test.YtfkfejonlfcgoaaBase
namespace Go.Proofs.Ytfkfejonlfcgoaa.Ev
open Go Go.RowKit
noncomputable section

/-- A call over arguments that are known in part. -/
def chkA (P : Program) (orc : Orc) (f : Nat) (g : FuncId) (args : List AV) : Option Value :=
  match (both P orc f).2 g args ⟨.leaf, 1⟩ with
  | some (v, _) => v.toV
  | none => none

theorem chkA_sound {P : Program} (hm : P.follows .mixedOrders = true) {orc : Orc} (horc : OrcOk P orc) {f : Nat} {g : FuncId} {args : List AV} {vs : List Value} (hr : RelL (fun _ => none) args vs) {v : Value} (h : chkA P orc f g args = some v) (w : World) :
    Calls P g vs.toArray w fun e w' => e = .returned v ∧ Below w.heap.size w w' := by
  unfold chkA at h
  rw [both_eq] at h
  split at h
  case h_2 => cases h
  rename_i u st' he
  have H0 : RelH (fun _ => none) ⟨.leaf, 1⟩ w := ⟨(fun i o hg => by simp [T.get_leaf] at hg), (fun i p hp => by cases hp), (fun i j oi oj p q hi => by simp [T.get_leaf] at hi), (fun i c lo hi cls t hg => by simp [T.get_leaf] at hg), Nat.one_pos⟩
  refine ((ev_sound hm horc f).2 g args ⟨.leaf, 1⟩ u st' he _ vs w hr H0).mono ?_
  rintro e w' ⟨ρ', y, rfl, h1, h2, h3⟩
  refine ⟨by rw [RelV.toV _ _ _ h1 h], ⟨h3.os, h3.tape, h3.output, h3.size, fun b hb => h3.keep b hb ?_⟩⟩
  rintro ⟨j, o, q, hj, _⟩
  rw [T.get_leaf] at hj; cases hj

/-- Numbers in cells. -/
def allI : List AV → Option (List Int)
  | [] => some []
  | .sc (.int .i64 x) :: l => match allI l with
    | some xs => some (x :: xs)
    | none => none
  | _ :: _ => none
theorem allI_rel {ρ : Rho} : ∀ {l : List AV} {xs : List Int} {vs : List Value}, allI l = some xs → RelL ρ l vs → vs = xs.map (.int .i64)
  | [], xs, vs, h, hr => by
    simp only [allI, Option.some.injEq] at h; subst h
    exact RelL.nil_iff.1 hr
  | u :: l, xs, vs, h, hr => by
    obtain ⟨y, ys, h1, h2, rfl⟩ := hr.cons_inv
    unfold allI at h
    split at h
    case h_1 e => cases e
    case h_3 => cases h
    rename_i x l' e
    cases e
    split at h
    case h_2 => cases h
    rename_i zs hz
    simp only [Option.some.injEq] at h; subst h
    rw [relV_sc.1 h1, allI_rel hz h2]; rfl

/-- A call that returns a slice of numbers. -/
def chkL (P : Program) (orc : Orc) (f : Nat) (g : FuncId) (args : List AV) : Option (List Int) :=
  match (both P orc f).2 g args ⟨.leaf, 1⟩ with
  | some (.sl i k n z _, st) => bif z.beq 1 then match rdCells st.h i k n with
      | some l => allI l
      | none => none
    else none
  | some (.sc (.slice none 0 0), _) => some []
  | _ => none

theorem rdCells_len {h : T AO} {i : Nat} : ∀ {n k : Nat} {l : List AV}, rdCells h i k n = some l → l.length = n
  | 0, k, l, e => by simp only [rdCells, Option.some.injEq] at e; subst e; rfl
  | n + 1, k, l, e => by
    simp only [rdCells] at e
    split at e
    case h_2 => cases e
    split at e
    case h_2 => cases e
    rename_i l' hl
    simp only [Option.some.injEq] at e; subst e
    simp [rdCells_len hl]

theorem chkL_sound {P : Program} (hm : P.follows .mixedOrders = true) {orc : Orc} (horc : OrcOk P orc) {f : Nat} {g : FuncId} {args : List AV} {vs : List Value} (hr : RelL (fun _ => none) args vs) {xs : List Int} (h : chkL P orc f g args = some xs) (w : World) :
    Calls P g vs.toArray w fun e w' => ∃ a c, e = .returned (.slice a xs.length c) ∧ xs.length ≤ c ∧ RdI w' a xs ∧ Below w.heap.size w w' := by
  unfold chkL at h
  rw [both_eq] at h
  have H0 : RelH (fun _ => none) ⟨.leaf, 1⟩ w := ⟨(fun i o hg => by simp [T.get_leaf] at hg), (fun i p hp => by cases hp), (fun i j oi oj p q hi => by simp [T.get_leaf] at hi), (fun i c lo hi cls t hg => by simp [T.get_leaf] at hg), Nat.one_pos⟩
  have fin : ∀ {u : AV} {st' : St}, evCall P orc f g args ⟨.leaf, 1⟩ = some (u, st') → (∀ ρ' y w', RelV ρ' u y → RelH ρ' st' w' → ∃ a c, y = .slice a xs.length c ∧ xs.length ≤ c ∧ RdI w' a xs) →
      Calls P g vs.toArray w fun e w' => ∃ a c, e = .returned (.slice a xs.length c) ∧ xs.length ≤ c ∧ RdI w' a xs ∧ Below w.heap.size w w' := by
    intro u st' he hk
    refine ((ev_sound hm horc f).2 g args ⟨.leaf, 1⟩ u st' he _ vs w hr H0).mono ?_
    rintro e w' ⟨ρ', y, rfl, h1, h2, h3⟩
    obtain ⟨a, c, rfl, hc, hx⟩ := hk ρ' y w' h1 h2
    refine ⟨a, c, rfl, hc, hx, ⟨h3.os, h3.tape, h3.output, h3.size, fun b hb => h3.keep b hb ?_⟩⟩
    rintro ⟨j, o, q, hj, _⟩
    rw [T.get_leaf] at hj; cases hj
  split at h
  · rename_i i k n z c st' he
    cases hz : z.beq 1 with
    | false => rw [hz] at h; cases h
    | true =>
      rw [hz] at h
      simp only [cond_true] at h
      split at h
      case h_2 => cases h
      rename_i l hl
      refine fin he fun ρ' y w' h1 h2 => ?_
      obtain ⟨a, cap, h3, h4, _, rfl⟩ := relV_sl.1 h1
      have hn := rdCells_len hl
      by_cases hc0 : 0 < cap
      · obtain ⟨zs, k1, k2, k3⟩ := h2.rds hl (h3 hc0).1
        have k4 := allI_rel h k1
        subst k4
        have hxn : xs.length = n := by simpa using k2
        refine ⟨some a, cap, by rw [hxn], by omega, fun j hj => ?_⟩
        obtain ⟨b, o, e, _, e2, e3, _⟩ := (h3 hc0).1
        have k5 := k3 j (.int .i64 xs[j]) (by simp [hj])
        refine ⟨a.block, a.off, by cases a; simp_all, ?_⟩
        rw [← k5]
        congr 1
        cases a
        simp at e3
        subst e3
        exact (Addr.add_lit _ _ _).symm
      · have hn0 : n = 0 := by omega
        subst hn0
        have hx0 : xs = [] := by
          simp only [rdCells, Option.some.injEq] at hl; subst hl
          simpa [allI] using h.symm
        subst hx0
        exact ⟨some a, cap, rfl, Nat.zero_le _, RdI.nil _ _⟩
  · rename_i st' he
    simp only [Option.some.injEq] at h; subst h
    refine fin he fun ρ' y w' h1 h2 => ?_
    rw [relV_sc.1 h1]
    exact ⟨none, 0, rfl, Nat.le_refl _, RdI.nil _ _⟩
  · cases h

theorem rel_res {ρ : Rho} {k : IntKind} {m x : Nat} (hx : x < 65536) : RelV ρ (.res k m (x % m)) (.int k x) := relV_res.2 ⟨x, hx, rfl, rfl⟩

def isTrue : Option Value → Bool
  | some (.bool true) => true
  | _ => false
theorem isTrue_eq {o : Option Value} (h : isTrue o = true) : o = some (.bool true) := by
  unfold isTrue at h
  split at h
  · rfl
  · cases h

/-- All numbers below n (structural, for the kernel). -/
def allB (p : Nat → Bool) : Nat → Bool
  | 0 => true
  | n + 1 => p n && allB p n
theorem allB_get {p : Nat → Bool} : ∀ {n : Nat}, allB p n = true → ∀ k, k < n → p k = true
  | 0, _, k, h => absurd h (Nat.not_lt_zero _)
  | n + 1, h, k, hk => by
    simp only [allB, Bool.and_eq_true] at h
    by_cases e : k = n
    · subst e; exact h.1
    · exact allB_get h.2 k (by omega)
end
end Go.Proofs.Ytfkfejonlfcgoaa.Ev
