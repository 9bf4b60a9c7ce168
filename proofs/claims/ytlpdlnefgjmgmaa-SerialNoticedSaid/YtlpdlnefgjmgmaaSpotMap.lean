/- A map of the call's own from spots to bools: what it says at each spot; a store, a look-up. -/
import Derived.Test.YtlpdlnefgjmgmaaOpen
import Derived.Test.YtlpdlnefgjmgmaaFixb
import Derived.Maps.Own
import Derived.Maps.Views
import Derived.DeepKeys4
namespace Go.Proofs.Ytlpdlnefgjmgmaa
open Go.Maps Go.RowKit Go.WideMaps

theorem spotRow : 33 < Try.prog.types.size := of_decide_eq_true (by kernel_rfl)
theorem spotWide : (match Try.prog.underlying 33 with | some (.array _ _) | some (.struct _) => true | _ => false) = true := by kernel_rfl
theorem spotKey : Try.prog.keyType 33 = true := by kernel_rfl
theorem spotCells : Try.prog.cellsOf 33 = 3 := by kernel_rfl
theorem spotLaw : Keyed Try.prog 33 := Keyed.of_law (deep_law_laid laidOut (m := 2) (by omega) spotRow (by kernel_rfl) spotWide)

/-- A spot as a key. -/
abbrev spotV (s a b : Nat) : Value := .agg #[.int .i64 s, .int .i64 a, .int .i64 b]
def spotL (s a b : Nat) : Lit := .string (keyBytes [.int .i64 s, .int .i64 a, .int .i64 b])

theorem small_wf {n : Nat} (h : n < 10) : (Lit.int .i64 (n : Int)).wf = true := by
  have h1 : IntKind.i64.min = -9223372036854775808 := rfl
  have h2 : IntKind.i64.max = 9223372036854775807 := rfl
  simp only [Lit.wf, Bool.and_eq_true, decide_eq_true_eq]
  omega

set_option maxRecDepth 100000 in
theorem spot_key {s a b : Nat} (hs : s < 10) (ha : a < 10) (hb : b < 10) : keyOf Try.prog 33 (spotV s a b) = some (spotL s a b) := by
  have k1 : Try.prog.cellsOf 3 = 1 := by kernel_rfl
  obtain ⟨m, hm⟩ : ∃ m, Try.prog.types.size = m + 1 := ⟨Try.prog.types.size - 1, by have := spotRow; omega⟩
  have e : ∀ n : Nat, n < 10 → Try.prog.keyLits (m + 1) 3 [.int .i64 n] = some [.int .i64 n] := fun n hn => by
    unfold Program.keyLits
    simp [Try.underlying3, small_wf hn]
  unfold keyOf spotV spotL
  simp only [Try.underlying33]
  rw [if_pos (by simp [spotKey, Value.formed, Try.underlying33, spotCells]), hm]
  unfold Program.keyLits
  simp only [Try.underlying33, Value.cells]
  rw [if_pos ⟨by rw [spotCells]; rfl, by simp⟩]
  simp [k1, e s hs, e a ha, e b hb]

theorem spot_ne {s a b s' a' b' : Nat} (hs : s < 10) (ha : a < 10) (hb : b < 10) (hs' : s' < 10) (ha' : a' < 10) (hb' : b' < 10) (h : ¬ (s' = s ∧ a' = a ∧ b' = b)) : spotL s' a' b' ≠ spotL s a b := fun e => by
  have k1 := spot_key hs ha hb
  have k2 := spot_key hs' ha' hb'
  rw [e] at k2
  have := spotLaw.inj k1 k2
  simp at this
  omega

theorem plainElem_bool_inv {P : Program} {e : TypeId} (he : P.underlying e = some .bool) {v : Value} {z : DataW Unit × List MemPlace} (h : plainElem P e v = some z) : ∃ x, v = .bool x ∧ z = (.lit (.bool x), []) := by
  unfold plainElem at h
  rw [he] at h
  cases v <;> simp at h
  exact ⟨_, rfl, h.symm⟩

/-- Block b is a map that says f at each spot. -/
def SpotMap (w : World) (b n : Nat) (f : Nat → Nat → Nat → Bool) : Prop :=
  ∃ D : DataW Unit, w.ownsMap Try.prog 33 (plainElem Try.prog 4) b n D ∧ IsMap D ∧ ∀ s a c, s < 10 → a < 10 → c < 10 → D.atKey (spotL s a c) (.lit (.bool false)) = .lit (.bool (f s a c))

theorem SpotMap.made (w : World) : SpotMap (w.alloc (.map #[] 0)) w.heap.size 0 (fun _ _ _ => false) :=
  ⟨.map [], World.ownsMap_made _ _ _ _, ⟨[], rfl⟩, fun _ _ _ _ _ _ => rfl⟩

theorem SpotMap.lt {w : World} {b n : Nat} {f : Nat → Nat → Nat → Bool} (h : SpotMap w b n f) : b < w.heap.size := by
  obtain ⟨D, h1, _⟩ := h
  exact h1.lt

theorem SpotMap.kept {w w' : World} {b n : Nat} {f : Nat → Nat → Nat → Bool} {row : Option Nat} (h : SpotMap w b n f) (hg : w.grownBy w' row) (hne : some b ≠ row) : SpotMap w' b n f := by
  obtain ⟨D, h1, h2⟩ := h
  exact ⟨D, h1.kept hg hne, h2⟩

theorem SpotMap.stays {w w' : World} {b n : Nat} {f : Nat → Nat → Nat → Bool} (h : SpotMap w b n f) (hb : Below w.heap.size w w') : SpotMap w' b n f := h.kept (below_grown hb) (by simp)

theorem SpotMap.look {w : World} {b n : Nat} {f : Nat → Nat → Nat → Bool} (h : SpotMap w b n f) {s a c : Nat} (hs : s < 10) (ha : a < 10) (hc : c < 10) :
    (Instr.lookup 31 (.map (some b)) (spotV s a c) false).run Try.prog w = .ok (.bool (f s a c)) w := by
  obtain ⟨D, h1, _, h3⟩ := h
  obtain ⟨v, ps, hrun, hv⟩ := h1.lookup spotLaw Try.underlying31 (z := .bool false) (by kernel_rfl) (plainElem_bool Try.underlying4 false) (spot_key hs ha hc)
  rw [h3 s a c hs ha hc] at hv
  obtain ⟨x, rfl, e⟩ := plainElem_bool_inv Try.underlying4 hv
  simp only [Prod.mk.injEq, DataW.lit.injEq, Lit.bool.injEq] at e
  rw [hrun, e.1]

theorem SpotMap.put {w' : World} {b n : Nat} {f : Nat → Nat → Nat → Bool} {D : DataW Unit} (h2 : IsMap D) (h3 : ∀ s a c, s < 10 → a < 10 → c < 10 → D.atKey (spotL s a c) (.lit (.bool false)) = .lit (.bool (f s a c))) {s a c : Nat} (hs : s < 10) (ha : a < 10) (hc : c < 10)
    (h : w'.ownsMap Try.prog 33 (plainElem Try.prog 4) b (n + 1) (D.put (spotL s a c) (.lit (.bool true)))) : SpotMap w' b (n + 1) (fun s' a' c' => decide (s' = s ∧ a' = a ∧ c' = c) || f s' a' c') := by
  refine ⟨_, h, ?_, fun s' a' c' hs' ha' hc' => ?_⟩
  · obtain ⟨es, rfl⟩ := h2
    exact ⟨_, DataW.put_eq _ _ _⟩
  · by_cases e : s' = s ∧ a' = a ∧ c' = c
    · obtain ⟨rfl, rfl, rfl⟩ := e
      rw [atKey_put_same h2 (by trivial)]
      simp
    · rw [atKey_put_other (spot_ne hs ha hc hs' ha' hc' e), h3 s' a' c' hs' ha' hc']
      simp [e]

/-- A store of true, in a walk. -/
theorem wpList_spotPut (w : World) {ops : Array Oper} {rest : List Oper} {o : Oper} {a : Act} {Q : Exit → Act → World → Prop}
    (hg : o.guard = none) (m x v : Operand) (hop : o.op = Op.mapUpdate 31 m x v) (b n : Nat) (f : Nat → Nat → Nat → Bool)
    (hm : a.eval m = .map (some b)) (h : SpotMap w b n f) (hn : n < 1000) (s p c : Nat) (hx : a.eval x = .agg #[.int .i64 s, .int .i64 p, .int .i64 c]) (hv : a.eval v = .bool true) (hs : s < 10) (hp : p < 10) (hc : c < 10)
    (hK : ∀ w', SpotMap w' b (n + 1) (fun s' a' c' => decide (s' = s ∧ a' = p ∧ c' = c) || f s' a' c') → w.grownBy w' (some b) → wpList Try.prog ops Q rest (a.put o.dst undef) w') :
    wpList Try.prog ops Q (o :: rest) a w := by
  obtain ⟨D, h1, h2, h3⟩ := h
  refine wpList_mapUpdate_own w hg m x v _ hop 33 4 spotLaw Try.underlying31 _ b n D hm h1 (by unfold maxLen; omega) _ _ _ hx hv (spot_key hs hp hc) (.lit (.bool true)) [] (plainElem_bool Try.underlying4 true) ?_
  intro w' g1 g2
  exact hK w' (SpotMap.put h2 h3 hs hp hc g1) g2

end Go.Proofs.Ytlpdlnefgjmgmaa
