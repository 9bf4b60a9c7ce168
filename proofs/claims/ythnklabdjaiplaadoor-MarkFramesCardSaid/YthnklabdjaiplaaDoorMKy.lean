/- What a slot holds at package mark's laws, and the steps of a region that draws by it. -/
import Derived.Test.YthnklabdjaiplaaDoorMInv
import Derived.Test.YthnklabdjaiplaaDoorMC
import Derived.Test.YthnklabdjaiplaaDoorMNum
namespace Go.Proofs.YthnklabdjaiplaaDoor
open Go.RowKit

inductive M.Ky where
  | none
  | val (v : Value)
  | row (xs : List Int)
  | mat (T : List (List Int))
  | code (m : Int) (T : List (List Int))
  | dou (X : List Int) (Y : List (List Int))
def M.Ky.Holds : M.Ky → Value → World → Prop
  | .none, _, _ => True
  | .val u, v, _ => v = u
  | .row xs, v, w => ∃ a c, v = .slice a xs.length c ∧ RdI w a xs
  | .mat T, v, w => ∃ a c, v = .slice a T.length c ∧ RdM w a T
  | .code m T, v, w => ∃ a, v = M.cv m a T.length T.length ∧ RdM w a T
  | .dou X Y, v, w => ∃ a c b d, v = .agg #[.slice a X.length c, .slice b Y.length d] ∧ RdI w a X ∧ RdM w b Y
theorem M.Ky.Holds.stays {k : M.Ky} {v : Value} {w w' : World} (hb : Below w.heap.size w w') (h : k.Holds v w) : k.Holds v w' := by
  cases k with
  | none => exact h
  | val u => exact h
  | row xs => obtain ⟨a, c, h1, h2⟩ := h; exact ⟨a, c, h1, h2.stays hb⟩
  | mat T => obtain ⟨a, c, h1, h2⟩ := h; exact ⟨a, c, h1, h2.stays hb⟩
  | code m T => obtain ⟨a, h1, h2⟩ := h; exact ⟨a, h1, h2.stays hb⟩
  | dou X Y => obtain ⟨a, c, b, d, h1, h2, h3⟩ := h; exact ⟨a, c, b, d, h1, h2.stays hb, h3.stays hb⟩
/-- What is said of operation i. -/
def M.kz (KS : List M.Ky) (i : Nat) : Value → World → Prop := (KS.getD i .none).Holds

section
variable {P : Program} {D : Nat → Nat} {KS : List M.Ky} {n N : Nat} {w0 : World} {T0 : Nat → Value} {d0 : List Deferred} {listed : Array Bool} {a : Act} {w : World}
theorem M.got (h : M.Inv D (M.kz KS) n N w0 T0 d0 listed a w) (j : Nat) (hj : j < n) (k : M.Ky) (hk : KS.getD j .none = k) (hl : listed.getD j false = true) : k.Holds (a.tmps.getD (D j) undef) w := by
  have := h.done j hj hl
  unfold M.kz at this
  rw [hk] at this
  exact this
def M.dep (o : Oper) (j : Nat) : Bool := o.after.toList.any fun e => e.on == j && Region.binds .any e
theorem M.R.of {i : Nat} {o : Oper} (hd : o.dst = some (D i)) (hac : (o.after.toList.all fun e => decide (e.on < i)) = true)
    (hg : o.guard = .none ∨ ∃ g p, o.guard = some (g, p) ∧ g < n ∧ KS.getD g .none = .val (.bool p) ∧ M.dep o g = true)
    (hw : ∀ (Q : Exit → Act → World → Prop) (listed : Array Bool) (a : Act) (w : World), M.Inv D (M.kz KS) n N w0 T0 d0 listed a w → (∀ j, M.dep o j = true → listed.getD j false = true) →
      o.wp P a w (fun a' w' => ∃ v, a' = a.put (some (D i)) v ∧ M.kz KS i v w' ∧ Below w.heap.size w w') Q) : M.R P D (M.kz KS) n N w0 T0 d0 i o := by
  refine ⟨hd, fun e he => by simpa using List.all_eq_true.1 hac e (by simpa using he), fun Q listed a w h hdep => .inl ⟨fun g p e => ?_, hw Q listed a w h hdep⟩⟩
  rcases hg with hg | ⟨g', p', hg, h1, h2, h3⟩
  · rw [hg] at e; cases e
  · rw [hg] at e
    simp only [Option.some.injEq, Prod.mk.injEq] at e
    obtain ⟨rfl, rfl⟩ := e
    exact ⟨h1, M.got h g' h1 _ h2 (hdep g' h3)⟩
/-- An operation that the guard passes over. -/
theorem M.R.skip {i : Nat} {o : Oper} (hd : o.dst = some (D i)) (hac : (o.after.toList.all fun e => decide (e.on < i)) = true) (g : Nat) (p : Bool)
    (hg : o.guard = some (g, p)) (h1 : g < n) {u : Value} (h2 : KS.getD g .none = .val u) (hu : u ≠ .bool p) (h3 : M.dep o g = true) (hk : KS.getD i .none = .val undef) : M.R P D (M.kz KS) n N w0 T0 d0 i o := by
  refine ⟨hd, fun e he => by simpa using List.all_eq_true.1 hac e (by simpa using he), fun Q listed a w h hdep => .inr ⟨⟨g, p, hg, h1, fun e => hu ((M.got h g h1 _ h2 (hdep g h3) : _ = u).symm.trans e)⟩, ?_⟩⟩
  unfold M.kz
  rw [hk]
  exact rfl
/-- The operands' values, by a table. -/
def M.env (L : List (Nat × Value)) : Operand → Value
  | .tmp t => (L.lookup t).getD undef
  | .const v => v
  | .global g => .pointer (some ⟨g, 0, none⟩)
  | .func f => .func (.func f) #[] #[]
theorem M.env_const (L : List (Nat × Value)) (v : Value) : M.env L (.const v) = v := rfl
def M.Fc (a : Act) : List (Nat × Value) → Prop
  | [] => True
  | (t, v) :: r => a.tmps.getD t undef = v ∧ M.Fc a r
theorem M.Fc.look {a : Act} {t : Nat} : ∀ {L : List (Nat × Value)}, M.Fc a L → (L.lookup t).isSome = true → a.tmps.getD t undef = (L.lookup t).getD undef
  | [], _, h => by simp at h
  | (s, v) :: r, hf, h => by
    obtain ⟨h1, h2⟩ := hf
    by_cases e : t = s
    · subst e
      simpa [List.lookup] using h1
    · have e' : (t == s) = false := by simpa using e
      simp only [List.lookup, e'] at h ⊢
      exact h2.look h
theorem M.run_env {a : Act} {o : Oper} (L : List (Nat × Value)) (hL : M.Fc a L) (hs : (match o.op with | .select _ _ => false | _ => true) = true) (ho : (o.op.operands.toList.all fun x => match x with | .tmp t => (L.lookup t).isSome | _ => true) = true) : execOp a.eval o = execOp (M.env L) o := by
  refine execOp_congr o (fun cs b e => by rw [e] at hs; cases hs) fun x hx => ?_
  have h := List.all_eq_true.1 ho x (by simpa using hx)
  cases x with
  | tmp t => exact hL.look h
  | _ => rfl
/-- An operation that gives a value and leaves the world. -/
theorem M.wp_pure {i : Nat} {o : Oper} {Q : Exit → Act → World → Prop} (v : Value) (hd : o.dst = some (D i)) (hr : (execOp a.eval o).run P w = .ok (.value v) w) (hk : M.kz KS i v w) :
    o.wp P a w (fun a' w' => ∃ v, a' = a.put (some (D i)) v ∧ M.kz KS i v w' ∧ Below w.heap.size w w') Q := by
  unfold Oper.wp
  rw [hr]
  show ∃ u, a.put o.dst v = _ ∧ _
  rw [hd]
  exact ⟨v, rfl, hk, Below.refl _ _⟩
/-- An operation that makes memory. -/
theorem M.wp_new {i : Nat} {o : Oper} {Q : Exit → Act → World → Prop} (v : Value) (ob : Obj) (hd : o.dst = some (D i)) (hr : (execOp a.eval o).run P w = .ok (.value v) (w.alloc ob)) (hk : M.kz KS i v (w.alloc ob)) :
    o.wp P a w (fun a' w' => ∃ v, a' = a.put (some (D i)) v ∧ M.kz KS i v w' ∧ Below w.heap.size w w') Q := by
  unfold Oper.wp
  rw [hr]
  show ∃ u, a.put o.dst v = _ ∧ _
  rw [hd]
  exact ⟨v, rfl, hk, (Below.refl _ _).alloc (Nat.le_refl _) _⟩
/-- An operation that calls. -/
theorem M.wp_call {i : Nat} {o : Oper} {Q : Exit → Act → World → Prop} (f : FuncId) (args : Array Value) (hd : o.dst = some (D i)) (hr : (execOp a.eval o).run P w = .ok (.enter f args) w)
    (hc : Calls P f args w fun e w' => ∃ v, e = .returned v ∧ M.kz KS i v w' ∧ Below w.heap.size w w') :
    o.wp P a w (fun a' w' => ∃ v, a' = a.put (some (D i)) v ∧ M.kz KS i v w' ∧ Below w.heap.size w w') Q := by
  unfold Oper.wp
  rw [hr]
  refine Calls.mono hc fun e w' he => ?_
  obtain ⟨v, rfl, hk, hb⟩ := he
  show ∃ u, a.put o.dst v = _ ∧ _
  rw [hd]
  exact ⟨v, rfl, hk, hb⟩
theorem M.kz_val {i : Nat} {u v : Value} (hk : KS.getD i .none = .val u) (h : M.kz KS i v w) : v = u := by
  unfold M.kz at h
  rw [hk] at h
  exact h
theorem M.kz_of {i : Nat} {k : M.Ky} {v : Value} (hk : KS.getD i .none = k) (h : k.Holds v w) : M.kz KS i v w := by
  unfold M.kz
  rw [hk]
  exact h
end
end Go.Proofs.YthnklabdjaiplaaDoor
