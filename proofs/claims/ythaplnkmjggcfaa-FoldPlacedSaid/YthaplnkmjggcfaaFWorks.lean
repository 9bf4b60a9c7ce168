/- Package fold's own examples hold: the evaluator runs them, strings.Repeat by the shelf's contract. No condition. -/
import Derived.Test.YthaplnkmjggcfaaEvFast
import Derived.Test.YthaplnkmjggcfaaRows
import Derived.Shelf.Strings.Repeat
import Derived.Shelf.Lay
import Derived.Ground.NamesProg
namespace Go.Proofs.Ythaplnkmjggcfaa
open Go.Shelf Go.RowKit

shelf_lay Lays.n105 Nm 105 at Try as Try.laysRepeat

theorem repExtra : Builder.Extra Try.prog Try.laysRepeat_ren where
  sizeBuilder := by kernel_rfl
  liesBuilder := by kernel_rfl
  t5 := Try.laysRepeat.t5
  a5 := Try.laysRepeat.a5
  z5 := Try.laysRepeat.z5
  v5 := Try.laysRepeat.v5
  infoByte := by kernel_rfl
  cellsByte := by kernel_rfl
  sizeByte := by kernel_rfl
  neB5 := by decide

theorem fold_mixed : Try.prog.follows .mixedOrders = true := Try.checked.mixed

theorem repeat_calls (s : ByteArray) (c : Nat) (w : World) (hc : c ≤ 9223372036854775807) (hlen : s.size * c ≤ 140737488355328) :
    Calls Try.prog 63 #[.string s, .int .i64 c] w fun e w' => e = .returned (.string ⟨(Lib.repeatL s.data.toList c).toArray⟩) ∧ Below w.heap.size w w' := by
  have h := Any.strings_Repeat Try.laysRepeat repExtra s c w hc hlen
  have e : Try.laysRepeat_ren.f 105 = 63 := by kernel_rfl
  rw [e] at h
  exact h

/-- strings.Repeat, of few copies of a short text. -/
def repOrc (vs : List Value) : Option Value :=
  match vs with
  | [.string s, .int .i64 (.ofNat c)] => bif Nat.ble c 1000 && Nat.ble s.size 1000 then some (.string ⟨(Lib.repeatL s.data.toList c).toArray⟩) else none
  | _ => none

theorem repOrc_ok {vs : List Value} {v : Value} (h : repOrc vs = some v) (w : World) :
    Calls Try.prog 63 vs.toArray w fun e w' => e = .returned v ∧ Below w.heap.size w w' := by
  unfold repOrc at h
  split at h
  · rename_i s c
    cases hb : (Nat.ble c 1000 && Nat.ble s.size 1000) with
    | false => rw [hb] at h; cases h
    | true =>
      rw [hb] at h
      simp only [cond_true, Option.some.injEq] at h
      subst h
      rw [Bool.and_eq_true] at hb
      have h1 := Nat.le_of_ble_eq_true hb.1
      have h2 := Nat.le_of_ble_eq_true hb.2
      have h3 : s.size * c ≤ 1000 * 1000 := Nat.mul_le_mul h2 h1
      exact repeat_calls s c w (by omega) (by omega)
  · cases h

def repOrcs : Ev.Orc := fun g => bif g.beq 63 then some repOrc else none
theorem repOrcs_ok : Ev.OrcOk Try.prog repOrcs := by
  intro g f vs v hg hv w
  unfold repOrcs at hg
  cases hb : g.beq 63 with
  | false => rw [hb] at hg; cases hg
  | true =>
    rw [hb] at hg
    simp only [cond_true, Option.some.injEq] at hg
    subst hg
    have hgw := Nat.eq_of_beq_eq_true hb
    subst hgw
    exact repOrc_ok hv w

theorem fold_works_run : Ev.chkF Try.prog repOrcs 1000000 15 [] = some (.bool true) := by kernel_rfl
theorem fold_works (w : World) : Calls Try.prog 15 #[] w fun e w' => e = .returned (.bool true) ∧ Below w.heap.size w w' :=
  Ev.chkF_sound fold_mixed repOrcs_ok fold_works_run w
end Go.Proofs.Ythaplnkmjggcfaa
