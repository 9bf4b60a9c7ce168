/- Package cross: rows of numbers of the call's own. -/
import Derived.Test.YthaoacnaeafbeaaProg
import Derived.Test.YthaoacnaeafbeaaBase
import Derived.Deep.OwnRows
namespace Go.Proofs.Ythaoacnaeafbeaa
open Go.RowKit

/-- A row of numbers of one's own. -/
def RowI (w : World) (lo : Nat) (v : Value) (xs : List Int) : Prop := w.ownsRow lo 3 1 v xs.length (xs.map (Value.int .i64))
theorem RowI.rd {w : World} {lo : Nat} {v : Value} {xs : List Int} (h : RowI w lo v xs) : ∃ a cap, v = .slice a xs.length cap ∧ RdI w a xs := by
  rcases h.2 with ⟨rfl, h2⟩ | ⟨g, cap, cur, rfl, _⟩
  · exact ⟨none, 0, by rw [h2], fun k hk => by omega⟩
  · refine ⟨_, cap, rfl, fun k hk => ⟨g, 0, rfl, ?_⟩⟩
    have := World.ownsRow.cellAt h k (by omega)
    rw [Nat.zero_add, this]
    simp [hk]
theorem RowI.rdI {w : World} {lo n c : Nat} {a : Option Addr} {xs : List Int} (h : RowI w lo (.slice a n c) xs) : RdI w a xs := by
  obtain ⟨x, y, e, q⟩ := h.rd
  simp only [Value.slice.injEq] at e
  obtain ⟨rfl, _, _⟩ := e
  exact q
theorem RowI.kept {w w' : World} {lo : Nat} {v : Value} {xs : List Int} {row : Option Nat} (h : RowI w lo v xs) (hg : w.grownBy w' row) (hne : v.ownBlock = none ∨ v.ownBlock ≠ row) : RowI w' lo v xs := World.ownsRow.kept h hg hne
theorem grown_set {w : World} (g o : Nat) (u : Value) : w.grownBy (w.setCell ⟨g, o, none⟩ u) (some g) :=
  ⟨rfl, rfl, rfl, by simp [World.setCell], fun k _ hk => Below.heap_setCell _ _ _ _ (fun e => hk (by rw [e]))⟩
theorem grown_below {w w' : World} (h : Below w.heap.size w w') : w.grownBy w' none := ⟨h.os, h.tape, h.output, h.size, fun k hk _ => h.block k hk⟩
theorem RowI.stays {w w' : World} {lo : Nat} {v : Value} {xs : List Int} (h : RowI w lo v xs) (hb : Below w.heap.size w w') : RowI w' lo v xs := h.kept (grown_below hb) (Classical.em _)
theorem RowI.mono {w : World} {lo lo' : Nat} {v : Value} {xs : List Int} (h : RowI w lo v xs) (hb : lo' ≤ lo) : RowI w lo' v xs :=
  ⟨h.1, h.2.imp id fun ⟨g, cap, cur, e, hg, r⟩ => ⟨g, cap, cur, e, Nat.le_trans hb hg, r⟩⟩
theorem RowI.nil (w : World) (lo : Nat) : RowI w lo (.slice none 0 0) [] := World.ownsRow_nil _ _ _ _
theorem RowI.off {w : World} {lo : Nat} {v : Value} {xs : List Int} (h : RowI w lo v xs) {g : Nat} (hg : g < lo) (o : Nat) (u : Value) : RowI (w.setCell ⟨g, o, none⟩ u) lo v xs :=
  h.kept (grown_set _ _ _) (by
    cases hq : v.ownBlock with
    | none => exact .inl rfl
    | some q =>
      refine .inr fun e => ?_
      have := (World.ownsRow.lt h q hq).1
      have := Option.some.inj e
      omega)
/-- A number appended. -/
theorem RowI.push {w' : World} {lo : Nat} {v' : Value} {xs : List Int} {x : Int} (h : w'.ownsRow lo 3 1 v' (xs.length + 1) (xs.map (Value.int .i64) ++ [.int .i64 x])) : RowI w' lo v' (xs ++ [x]) := by
  unfold RowI
  rw [List.length_append, List.map_append]
  exact h

end Go.Proofs.Ythaoacnaeafbeaa
