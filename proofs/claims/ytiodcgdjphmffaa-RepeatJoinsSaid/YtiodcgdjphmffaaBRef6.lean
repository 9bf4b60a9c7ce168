/- The reference's joined, Join: rows of truths; what is left of borders; the orders of rows. -/
import Derived.Test.YtiodcgdjphmffaaBRef5
import Derived.Test.YtiodcgdjphmffaaBJoin
namespace Go.Proofs.Ytiodcgdjphmffaa
open Go.RowKit

/-- The slice with this address reads as these truths. -/
def RdL (w : World) (a : Option Addr) (xs : List Bool) : Prop :=
  ∀ k (h : k < xs.length), ∃ b off, a = some ⟨b, off, none⟩ ∧ w.cell? ⟨b, off + k, none⟩ = some (.bool xs[k])
theorem RdL.stays {w w' : World} {a : Option Addr} {xs : List Bool} (h : RdL w a xs) (hb : Below w.heap.size w w') : RdL w' a xs := fun k hk => by
  obtain ⟨b, off, ha, hc⟩ := h k hk
  exact ⟨b, off, ha, cell_stays hb (Nat.le_refl _) hc⟩
/-- A row of truths of one's own. -/
def RowL (w : World) (lo : Nat) (v : Value) (xs : List Bool) : Prop := w.ownsRow lo 4 1 v xs.length (xs.map (Value.bool))
theorem RowL.rd {w : World} {lo : Nat} {v : Value} {xs : List Bool} (h : RowL w lo v xs) : ∃ a cap, v = .slice a xs.length cap ∧ RdL w a xs := by
  rcases h.2 with ⟨rfl, h2⟩ | ⟨g, cap, cur, rfl, _⟩
  · exact ⟨none, 0, by rw [h2], fun k hk => by omega⟩
  · refine ⟨_, cap, rfl, fun k hk => ⟨g, 0, rfl, ?_⟩⟩
    have := World.ownsRow.cellAt h k (by omega)
    rw [Nat.zero_add, this]
    simp [hk]
theorem RowL.rdL {w : World} {lo n c : Nat} {a : Option Addr} {xs : List Bool} (h : RowL w lo (.slice a n c) xs) : RdL w a xs := by
  obtain ⟨x, y, e, q⟩ := h.rd
  simp only [Value.slice.injEq] at e
  obtain ⟨rfl, _, _⟩ := e
  exact q
theorem RowL.kept {w w' : World} {lo : Nat} {v : Value} {xs : List Bool} {row : Option Nat} (h : RowL w lo v xs) (hg : w.grownBy w' row) (hne : v.ownBlock = none ∨ v.ownBlock ≠ row) : RowL w' lo v xs := World.ownsRow.kept h hg hne
theorem RowL.stays {w w' : World} {lo : Nat} {v : Value} {xs : List Bool} (h : RowL w lo v xs) (hb : Below w.heap.size w w') : RowL w' lo v xs := h.kept (grown_below hb) (Classical.em _)
theorem RowL.mono {w : World} {lo lo' : Nat} {v : Value} {xs : List Bool} (h : RowL w lo v xs) (hb : lo' ≤ lo) : RowL w lo' v xs :=
  ⟨h.1, h.2.imp id fun ⟨g, cap, cur, e, hg, r⟩ => ⟨g, cap, cur, e, Nat.le_trans hb hg, r⟩⟩
theorem RowL.nil (w : World) (lo : Nat) : RowL w lo (.slice none 0 0) [] := World.ownsRow_nil _ _ _ _
theorem RowL.off {w : World} {lo : Nat} {v : Value} {xs : List Bool} (h : RowL w lo v xs) {g : Nat} (hg : g < lo) (o : Nat) (u : Value) : RowL (w.setCell ⟨g, o, none⟩ u) lo v xs :=
  h.kept (grown_set _ _ _) (by
    cases hq : v.ownBlock with
    | none => exact .inl rfl
    | some q =>
      refine .inr fun e => ?_
      have := (World.ownsRow.lt h q hq).1
      have := Option.some.inj e
      omega)
/-- A truth appended. -/
theorem RowL.push {w' : World} {lo : Nat} {v' : Value} {xs : List Bool} {x : Bool} (h : w'.ownsRow lo 4 1 v' (xs.length + 1) (xs.map (Value.bool) ++ [.bool x])) : RowL w' lo v' (xs ++ [x]) := by
  unfold RowL
  rw [List.length_append, List.map_append]
  exact h



theorem RowL.set {w : World} {lo g cap : Nat} {xs : List Bool} (h : RowL w lo (.slice (some ⟨g, 0, none⟩) xs.length cap) xs) (j : Nat) (x : Bool) : RowL (w.setCell ⟨g, j, none⟩ (.bool x)) lo (.slice (some ⟨g, 0, none⟩) xs.length cap) (xs.set j x) := by
  have := (World.ownsRow.stored h j (.bool x)).1
  unfold RowL
  rw [List.map_set, List.length_set]
  exact this

/-- What is left of borders. -/
def B.rem : List ByteArray → List Bool → List ByteArray
  | [], _ => []
  | b :: l, [] => b :: l
  | b :: l, f :: u => if f then B.rem l u else b :: B.rem l u
/-- How many of the first ones are left. -/
def B.cnt (u : List Bool) (i : Nat) : Nat := (u.take i).countP (fun f => !f)
theorem B.cnt_zero (u : List Bool) : B.cnt u 0 = 0 := rfl
theorem B.cnt_succ {u : List Bool} {i : Nat} (h : i < u.length) : B.cnt u (i + 1) = if u[i] then B.cnt u i else B.cnt u i + 1 := by
  unfold B.cnt
  rw [List.take_succ_eq_append_getElem h, List.countP_append]
  cases u[i] <;> simp
theorem B.cnt_cons (f : Bool) (u : List Bool) (i : Nat) : B.cnt (f :: u) (i + 1) = (if f then 0 else 1) + B.cnt u i := by
  unfold B.cnt
  rw [List.take_succ_cons, List.countP_cons]
  cases f <;> simp; omega
theorem B.cnt_end : ∀ {L : List ByteArray} {u : List Bool}, u.length = L.length → B.cnt u L.length = (B.rem L u).length
  | [], [], _ => rfl
  | [], _ :: _, h => by simp at h
  | _ :: _, [], h => by simp at h
  | b :: l, f :: u, h => by
    have ih := B.cnt_end (L := l) (u := u) (by simpa using h)
    rw [List.length_cons, B.cnt_cons, ih]
    cases f
    · show 1 + (B.rem l u).length = (B.rem l u).length + 1
      omega
    · show 0 + (B.rem l u).length = (B.rem l u).length
      omega
theorem B.rem_at : ∀ {L : List ByteArray} {u : List Bool} (_ : u.length = L.length) {i : Nat} (hi : i < L.length) (hi' : i < u.length), u[i] = false →
    ∃ h : B.cnt u i < (B.rem L u).length, (B.rem L u)[B.cnt u i] = L[i]
  | [], _, _, i, hi, _, _ => absurd hi (Nat.not_lt_zero _)
  | _ :: _, [], h, _, _, _, _ => by simp at h
  | b :: l, f :: u, h, 0, hi, hi', e => by
    have hf : f = false := e
    subst hf
    exact ⟨by simp [B.rem, B.cnt], rfl⟩
  | b :: l, f :: u, h, i + 1, hi, hi', e => by
    obtain ⟨h1, h2⟩ := B.rem_at (L := l) (u := u) (by simpa using h) (i := i) (by simpa using hi) (by simpa using hi') (by simpa using e)
    have hc := B.cnt_cons f u i
    cases f
    · have hc' : B.cnt (false :: u) (i + 1) = B.cnt u i + 1 := by rw [hc]; simp; omega
      refine ⟨by rw [hc']; simpa [B.rem] using h1, ?_⟩
      simp only [hc', B.rem]
      simpa using h2
    · have hc' : B.cnt (true :: u) (i + 1) = B.cnt u i := by rw [hc]; simp
      refine ⟨by rw [hc']; simpa [B.rem] using h1, ?_⟩
      simp only [hc', B.rem]
      simpa using h2
theorem B.rem_set : ∀ {L : List ByteArray} {u : List Bool} (_ : u.length = L.length) {i : Nat} (hi : i < u.length), u[i] = false →
    B.rem L (u.set i true) = (B.rem L u).take (B.cnt u i) ++ (B.rem L u).drop (B.cnt u i + 1)
  | [], [], _, i, hi, _ => absurd hi (Nat.not_lt_zero _)
  | [], _ :: _, h, _, _, _ => by simp at h
  | _ :: _, [], h, _, _, _ => by simp at h
  | b :: l, f :: u, h, 0, hi, e => by
    have hf : f = false := e
    subst hf
    simp [B.rem, B.cnt]
  | b :: l, f :: u, h, i + 1, hi, e => by
    have ih := B.rem_set (L := l) (u := u) (by simpa using h) (i := i) (by simpa using hi) (by simpa using e)
    have hc := B.cnt_cons f u i
    cases f
    · have hc' : B.cnt (false :: u) (i + 1) = B.cnt u i + 1 := by rw [hc]; simp; omega
      rw [hc', List.set_cons_succ]
      simp only [B.rem, Bool.false_eq_true, if_false]
      rw [ih]
      simp
    · have hc' : B.cnt (true :: u) (i + 1) = B.cnt u i := by rw [hc]; simp
      rw [hc', List.set_cons_succ]
      simp only [B.rem, if_true]
      exact ih

theorem B.cmpB_lt : ∀ (a b : List UInt8), Lib.compareBytes a b < 0 ↔ a < b
  | [], [] => by simp [Lib.compareBytes]
  | [], b :: l => by simp [Lib.compareBytes]
  | a :: l, [] => by simp [Lib.compareBytes]
  | a :: l, b :: m => by
    rw [List.cons_lt_cons_iff, ← B.cmpB_lt l m]
    have hc : Lib.compareBytes (a :: l) (b :: m) = if a < b then -1 else if b < a then 1 else Lib.compareBytes l m := rfl
    rw [hc]
    by_cases h1 : a < b
    · simp [h1]
    · by_cases h2 : b < a
      · rw [if_neg h1, if_pos h2]
        constructor
        · intro h; omega
        · rintro (h | ⟨h, _⟩)
          · exact absurd h h1
          · subst h; exact absurd h2 (UInt8.lt_irrefl _)
      · rw [if_neg h1, if_neg h2]
        have : a = b := UInt8.le_antisymm (UInt8.not_lt.1 h2) (UInt8.not_lt.1 h1)
        simp [this, UInt8.lt_irrefl]
theorem B.cmpR_lt (x b : ByteArray) : B.cmpR x b < 0 ↔ x.size < b.size ∨ (x.size = b.size ∧ x.data.toList < b.data.toList) := by
  unfold B.cmpR B.or2 Lib.compareInt
  rw [← B.cmpB_lt]
  by_cases h1 : x.size < b.size
  · rw [if_pos (show (x.size : Int) < (b.size : Int) by omega)]
    simp [h1]
  · rw [if_neg (show ¬ (x.size : Int) < (b.size : Int) by omega)]
    by_cases h2 : b.size < x.size
    · rw [if_pos (show (x.size : Int) > (b.size : Int) by omega)]
      simp only [ne_eq, Int.one_ne_zero, not_false_eq_true, if_true]
      constructor
      · intro h; omega
      · rintro (h | ⟨h, _⟩)
        · omega
        · omega
    · rw [if_neg (show ¬ (x.size : Int) > (b.size : Int) by omega)]
      have : x.size = b.size := by omega
      simp [this]

theorem B.grow_ge (r b : ByteArray) : r.size ≤ (B.grow r b).size ∧ b.size ≤ (B.grow r b).size := by
  unfold B.grow
  split
  · rename_i h
    obtain ⟨i, h1, _⟩ := (B.contains_iff _ _).1 h
    rw [B.len, B.len] at h1
    omega
  · have h := B.ov_le r.data.toList b.data.toList (min r.size b.size)
    rw [B.size_append, B.size_extract]
    omega
theorem B.jnTo_ge {f : ByteArray → List ByteArray → ByteArray} {r : ByteArray} {L : List ByteArray} {n : Nat} (hf : ∀ k (h : k < L.length), n ≤ (f (B.grow r L[k]) (L.take k ++ L.drop (k + 1))).size) : ∀ k, k < L.length → n ≤ (B.jnTo f r L (k + 1)).size
  | 0, hk => by
    have e : L.getD 0 ⟨#[]⟩ = L[0] := by simp only [List.getD, List.getElem?_eq_getElem hk, Option.getD_some]
    have h0 : B.jnTo f r L (0 + 1) = f (B.grow r L[0]) (L.take 0 ++ L.drop (0 + 1)) := by rw [B.jnTo, if_pos (Or.inl rfl), e]
    rw [h0]; exact hf 0 hk
  | k + 1, hk => by
    have e : L.getD (k + 1) ⟨#[]⟩ = L[k + 1] := by simp only [List.getD, List.getElem?_eq_getElem hk, Option.getD_some]
    have ih := B.jnTo_ge hf k (by omega)
    rw [B.jnTo, e]
    split
    · exact hf (k + 1) hk
    · exact ih
theorem B.jn_ge : ∀ (m : Nat) (r : ByteArray) (L : List ByteArray), L.length = m → r.size ≤ (B.jn m r L).size
  | 0, r, L, _ => Nat.le_refl _
  | m + 1, r, L, hL => by
    have h := B.jnTo_ge (f := B.jn m) (r := r) (L := L) (n := r.size) (fun k hk => by
      have h1 := B.jn_ge m (B.grow r L[k]) (L.take k ++ L.drop (k + 1)) (by rw [List.length_append, List.length_take, List.length_drop]; omega)
      have h2 := (B.grow_ge r L[k]).1
      omega) m (by omega)
    show r.size ≤ (B.jnTo (B.jn m) r L L.length).size
    rw [hL]; exact h
end Go.Proofs.Ytiodcgdjphmffaa
