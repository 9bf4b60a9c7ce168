/- Slices of one's own, as many as wanted, that lie apart. -/
import Derived.Test.YthlcnklbeolhpaaHHalA
import Derived.Maps.AppendAt
namespace Go.Proofs.Ythlcnklbeolhpaa
open Go.RowKit Ev

/-- Another value at one place. -/
def Sep.up {α : Type} (f : Nat → α) (i : Nat) (a : α) : Nat → α := fun j => if j = i then a else f j
theorem Sep.up_same {α : Type} (f : Nat → α) (i : Nat) (a : α) : Sep.up f i a i = a := if_pos rfl
theorem Sep.up_other {α : Type} (f : Nat → α) {i j : Nat} (a : α) (h : j ≠ i) : Sep.up f i a j = f j := if_neg h
/-- Rows of one's own that lie apart. -/
structure Sep (w : World) (lo : Nat) (e : Nat → TypeId) (v : Nat → Value) (xs : Nat → List Value) : Prop where
  own : ∀ i, w.ownsRow lo (e i) 1 (v i) (xs i).length (xs i)
  inj : ∀ i j q, (v i).ownBlock = some q → (v j).ownBlock = some q → i = j
theorem Sep.start (w : World) (lo : Nat) (e : Nat → TypeId) : Sep w lo e (fun _ => .slice none 0 0) (fun _ => []) :=
  ⟨fun _ => World.ownsRow_nil _ _ _ _, fun i j q h => by simp [Value.ownBlock] at h⟩
theorem Sep.grown {w w' : World} {lo : Nat} {e : Nat → TypeId} {v : Nat → Value} {xs : Nat → List Value} {row : Option Nat} (h : Sep w lo e v xs) (hg : w.grownBy w' row) (hr : ∀ i, (v i).ownBlock = none ∨ (v i).ownBlock ≠ row) : Sep w' lo e v xs :=
  ⟨fun i => (h.own i).kept hg (hr i), h.inj⟩
theorem Sep.stays {w w' : World} {lo : Nat} {e : Nat → TypeId} {v : Nat → Value} {xs : Nat → List Value} (h : Sep w lo e v xs) (hb : Below w.heap.size w w') : Sep w' lo e v xs :=
  h.grown (grown_below hb) (fun _ => Classical.em _)
theorem Sep.alloc {w : World} {lo : Nat} {e : Nat → TypeId} {v : Nat → Value} {xs : Nat → List Value} (h : Sep w lo e v xs) (o : Obj) : Sep (w.alloc o) lo e v xs :=
  h.stays ((Below.refl _ w).alloc (Nat.le_refl _) o)
theorem Sep.heap {w w' : World} {lo : Nat} {e : Nat → TypeId} {v : Nat → Value} {xs : Nat → List Value} (h : Sep w lo e v xs) (hw : w'.heap = w.heap) : Sep w' lo e v xs :=
  ⟨fun i => ownsRow_heap (h.own i) hw, h.inj⟩
theorem Sep.off {w : World} {lo : Nat} {e : Nat → TypeId} {v : Nat → Value} {xs : Nat → List Value} (h : Sep w lo e v xs) {g : Nat} (hg : g < lo) (o : Nat) (u : Value) : Sep (w.setCell ⟨g, o, none⟩ u) lo e v xs :=
  h.grown (grown_set _ _ _) (fun i => by
    cases hq : (v i).ownBlock with
    | none => exact .inl rfl
    | some q =>
      refine .inr fun e => ?_
      have := (World.ownsRow.lt (h.own i) q hq).1
      have := Option.some.inj e
      omega)
/-- More at one of them. -/
theorem Sep.push {w w' : World} {lo : Nat} {e : Nat → TypeId} {v : Nat → Value} {xs : Nat → List Value} (h : Sep w lo e v xs) (i k : Nat) (us : List Value) {v' : Value} (hk : us.length = k)
    (ho : w'.ownsRow lo (e i) 1 v' ((xs i).length + k) (xs i ++ us)) (hg : w.grownBy w' (v i).ownBlock) (ha : v'.ownBlock = (v i).ownBlock ∨ v'.ownBlock = some w.heap.size) : Sep w' lo e (Sep.up v i v') (Sep.up xs i (xs i ++ us)) := by
  have hlt : ∀ j q, (v j).ownBlock = some q → q < w.heap.size := fun j q hq => (World.ownsRow.lt (h.own j) q hq).2
  have key : ∀ j q, j ≠ i → (v j).ownBlock = some q → v'.ownBlock ≠ some q := fun j q hj hq e => by
    rcases ha with ha | ha
    · rw [ha] at e; exact hj (h.inj j i q hq e)
    · rw [ha] at e
      have := hlt j q hq
      have := Option.some.inj e
      omega
  refine ⟨fun j => ?_, fun a b q h1 h2 => ?_⟩
  · by_cases e : j = i
    · subst e
      rw [Sep.up_same, Sep.up_same, List.length_append, hk]
      exact ho
    · rw [Sep.up_other _ _ e, Sep.up_other _ _ e]
      refine (h.own j).kept hg ?_
      cases hq : (v j).ownBlock with
      | none => exact .inl rfl
      | some q => exact .inr fun e2 => e (h.inj j i q hq e2.symm)
  · by_cases ea : a = i
    · by_cases eb : b = i
      · omega
      · subst ea
        rw [Sep.up_same] at h1
        rw [Sep.up_other _ _ eb] at h2
        exact absurd h1 (key b q eb h2)
    · rw [Sep.up_other _ _ ea] at h1
      by_cases eb : b = i
      · subst eb
        rw [Sep.up_same] at h2
        exact absurd h2 (key a q ea h1)
      · rw [Sep.up_other _ _ eb] at h2
        exact h.inj a b q h1 h2
/-- One of them is nil. -/
theorem Sep.reset {w : World} {lo : Nat} {e : Nat → TypeId} {v : Nat → Value} {xs : Nat → List Value} (h : Sep w lo e v xs) (i : Nat) : Sep w lo e (Sep.up v i (.slice none 0 0)) (Sep.up xs i []) := by
  refine ⟨fun j => ?_, fun a b q h1 h2 => ?_⟩
  · by_cases e : j = i
    · subst e; rw [Sep.up_same, Sep.up_same]; exact World.ownsRow_nil _ _ _ _
    · rw [Sep.up_other _ _ e, Sep.up_other _ _ e]; exact h.own j
  · by_cases ea : a = i
    · subst ea; rw [Sep.up_same] at h1; simp [Value.ownBlock] at h1
    · by_cases eb : b = i
      · subst eb; rw [Sep.up_same] at h2; simp [Value.ownBlock] at h2
      · rw [Sep.up_other _ _ ea] at h1; rw [Sep.up_other _ _ eb] at h2; exact h.inj a b q h1 h2
/-- One of them is a new one, without numbers. -/
theorem Sep.fresh {w : World} {lo : Nat} {e : Nat → TypeId} {v : Nat → Value} {xs : Nat → List Value} (h : Sep w lo e v xs) (hlo : lo ≤ w.heap.size) (i : Nat) : Sep (w.alloc (.cells #[] (e i))) lo e (Sep.up v i (.slice (some ⟨w.heap.size, 0, none⟩) 0 0)) (Sep.up xs i []) := by
  have hlt : ∀ j q, (v j).ownBlock = some q → q < w.heap.size := fun j q hq => (World.ownsRow.lt (h.own j) q hq).2
  refine ⟨fun j => ?_, fun a b q h1 h2 => ?_⟩
  · by_cases e : j = i
    · subst e; rw [Sep.up_same, Sep.up_same]; exact World.ownsRow_made w #[] 0 hlo (Nat.zero_le _) rfl
    · rw [Sep.up_other _ _ e, Sep.up_other _ _ e]; exact (h.own j).alloc _
  · by_cases ea : a = i
    · by_cases eb : b = i
      · omega
      · subst ea
        rw [Sep.up_same] at h1
        rw [Sep.up_other _ _ eb] at h2
        have := hlt b q h2
        simp [Value.ownBlock] at h1
        omega
    · rw [Sep.up_other _ _ ea] at h1
      by_cases eb : b = i
      · subst eb
        rw [Sep.up_same] at h2
        have := hlt a q h1
        simp [Value.ownBlock] at h2
        omega
      · rw [Sep.up_other _ _ eb] at h2; exact h.inj a b q h1 h2
theorem Sep.form {w : World} {lo : Nat} {e : Nat → TypeId} {v : Nat → Value} {xs : Nat → List Value} (h : Sep w lo e v xs) (i : Nat) : ∃ a c, v i = .slice a (xs i).length c := by
  rcases (h.own i).2 with ⟨h1, h2⟩ | ⟨g, cap, cur, h1, _⟩
  · exact ⟨none, 0, by rw [h1, h2]⟩
  · exact ⟨_, cap, h1⟩

/-- What HoursHalves holds: its own slices, and the rows of the exchanged work in a block of its own. -/
structure H.HM (w1 wr : World) (n : Nat) (e : Nat → TypeId) (v : Nat → Value) (xs : Nat → List Value) : Prop where
  below : Below w1.heap.size w1 wr
  lt : w1.heap.size < wr.heap.size
  sep : Sep wr (w1.heap.size + 1) e v xs
  top : wr.rowIs w1.heap.size 27 n (fun k => v (10 + k))
theorem H.HM.same {w1 wr wr' : World} {n : Nat} {e : Nat → TypeId} {v : Nat → Value} {xs : Nat → List Value} (h : H.HM w1 wr n e v xs) (k : Same wr' wr) : H.HM w1 wr' n e v xs :=
  ⟨below_same h.below k, by rw [k.1]; exact h.lt, h.sep.heap k.1, h.top.of_block (by rw [k.1])⟩
theorem H.HM.start (w1 : World) (n : Nat) (e : Nat → TypeId) : H.HM w1 (w1.alloc (.cells (madeCells #[.slice none 0 0] n) 27)) n e (fun _ => .slice none 0 0) (fun _ => []) :=
  ⟨(Below.refl _ _).alloc (Nat.le_refl _) _, by simp, Sep.start _ _ _, World.rowIs_made w1 _ n 27⟩
theorem H.HM.alloc {w1 wr : World} {n : Nat} {e : Nat → TypeId} {v : Nat → Value} {xs : Nat → List Value} (h : H.HM w1 wr n e v xs) (o : Obj) : H.HM w1 (wr.alloc o) n e v xs :=
  ⟨h.below.alloc h.below.size o, by have := h.lt; simp; omega, h.sep.alloc o, h.top.of_block (Below.heap_alloc _ _ _ h.lt)⟩
theorem H.HM.reset {w1 wr : World} {n : Nat} {e : Nat → TypeId} {v : Nat → Value} {xs : Nat → List Value} (h : H.HM w1 wr n e v xs) (i : Nat) (hi : i < 10 ∨ 10 + n ≤ i) : H.HM w1 wr n e (Sep.up v i (.slice none 0 0)) (Sep.up xs i []) :=
  ⟨h.below, h.lt, h.sep.reset i, h.top.congr (fun k _ => (Sep.up_other _ _ (by omega)).symm)⟩
theorem H.HM.fresh {w1 wr : World} {n : Nat} {e : Nat → TypeId} {v : Nat → Value} {xs : Nat → List Value} (h : H.HM w1 wr n e v xs) (i : Nat) (hi : i < 10 ∨ 10 + n ≤ i) : H.HM w1 (wr.alloc (.cells #[] (e i))) n e (Sep.up v i (.slice (some ⟨wr.heap.size, 0, none⟩) 0 0)) (Sep.up xs i []) :=
  ⟨h.below.alloc h.below.size _, by have := h.lt; simp; omega, h.sep.fresh h.lt i, (h.top.of_block (Below.heap_alloc _ _ _ h.lt)).congr (fun k _ => (Sep.up_other _ _ (by omega)).symm)⟩
theorem H.HM.grownB {w1 wr w2 : World} {n : Nat} {e : Nat → TypeId} {v : Nat → Value} {xs : Nat → List Value} (h : H.HM w1 wr n e v xs) (i : Nat) (hg : wr.grownBy w2 (v i).ownBlock) : Below w1.heap.size w1 w2 ∧ w2.heap[w1.heap.size]? = wr.heap[w1.heap.size]? := by
  have hlo : ∀ q, (v i).ownBlock = some q → w1.heap.size + 1 ≤ q := fun q hq => (World.ownsRow.lt (h.sep.own i) q hq).1
  exact ⟨Below.grown h.below hg h.below.size (fun q hq => by have := hlo q hq; omega), hg.block _ h.lt (fun e => by have := hlo _ e.symm; omega)⟩
theorem H.HM.push {w1 wr w2 : World} {n : Nat} {e : Nat → TypeId} {v : Nat → Value} {xs : Nat → List Value} (h : H.HM w1 wr n e v xs) (i k : Nat) (us : List Value) {v' : Value} (hi : i < 10 ∨ 10 + n ≤ i) (hk : us.length = k)
    (ho : w2.ownsRow (w1.heap.size + 1) (e i) 1 v' ((xs i).length + k) (xs i ++ us)) (hg : wr.grownBy w2 (v i).ownBlock) (ha : v'.ownBlock = (v i).ownBlock ∨ v'.ownBlock = some wr.heap.size) : H.HM w1 w2 n e (Sep.up v i v') (Sep.up xs i (xs i ++ us)) := by
  obtain ⟨b1, b2⟩ := h.grownB i hg
  exact ⟨b1, Nat.lt_of_lt_of_le h.lt hg.size, h.sep.push i k us hk ho hg ha, (h.top.of_block b2).congr (fun k _ => (Sep.up_other _ _ (by omega)).symm)⟩
/-- More in a row of the exchanged work. -/
theorem H.HM.turn {w1 wr w2 : World} {n : Nat} {e : Nat → TypeId} {v : Nat → Value} {xs : Nat → List Value} (h : H.HM w1 wr n e v xs) (j : Nat) (us : List Value) {v' : Value} (hk : us.length = 1)
    (ho : w2.ownsRow (w1.heap.size + 1) (e (10 + j)) 1 v' ((xs (10 + j)).length + 1) (xs (10 + j) ++ us)) (hg : wr.grownBy w2 (v (10 + j)).ownBlock) (ha : v'.ownBlock = (v (10 + j)).ownBlock ∨ v'.ownBlock = some wr.heap.size) :
    H.HM w1 (w2.setCell ⟨w1.heap.size, j, none⟩ v') n e (Sep.up v (10 + j) v') (Sep.up xs (10 + j) (xs (10 + j) ++ us)) := by
  obtain ⟨b1, b2⟩ := h.grownB (10 + j) hg
  refine ⟨Below.setCell b1 (p := ⟨w1.heap.size, j, none⟩) (Nat.le_refl _) _, by simp; exact Nat.lt_of_lt_of_le h.lt hg.size, (h.sep.push (10 + j) 1 us hk ho hg ha).off (Nat.lt_succ_self _) _ _, ((h.top.of_block b2).set j v').congr (fun k _ => ?_)⟩
  by_cases e : k = j
  · subst e; simp [Sep.up]
  · rw [Sep.up_other _ _ (by omega), if_neg e]
end Go.Proofs.Ythlcnklbeolhpaa
