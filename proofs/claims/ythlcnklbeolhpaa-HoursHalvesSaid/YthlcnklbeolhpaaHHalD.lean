/- HoursHalves: the steps of its loops. -/
import Derived.Test.YthlcnklbeolhpaaHHalC
namespace Go.Proofs.Ythlcnklbeolhpaa
open Go.RowKit Ev

theorem H.hty_lo {i : Nat} (h : i < 10) : H.hty i = 27 := if_pos h
theorem H.hty_hi {i : Nat} (h : 10 ≤ i) : H.hty i = 3 := if_neg (by omega)
theorem Sep.up_up {α : Type} (f : Nat → α) (i : Nat) (a b : α) : Sep.up (Sep.up f i a) i b = Sep.up f i b := by
  funext j
  unfold Sep.up
  by_cases e : j = i
  · rw [if_pos e, if_pos e]
  · rw [if_neg e, if_neg e, if_neg e]
theorem H.HM.own {w1 wr : World} {n : Nat} {v : Nat → Value} {xs : Nat → List Value} (h : H.HM w1 wr n H.hty v xs) {i k : Nat} {u : Value} {l : List Value} (hi : 10 ≤ i) (hu : v i = u) (hx : xs i = l) (hk : l.length = k) : wr.ownsRow (w1.heap.size + 1) 3 1 u k l := by
  have := h.sep.own i
  rwa [hu, hx, hk, H.hty_hi hi] at this
theorem H.HM.own2 {w1 wr : World} {n : Nat} {v : Nat → Value} {xs : Nat → List Value} (h : H.HM w1 wr n H.hty v xs) {i k : Nat} {u : Value} {l : List Value} (hi : i < 10) (hu : v i = u) (hx : xs i = l) (hk : l.length = k) : wr.ownsRow (w1.heap.size + 1) 27 1 u k l := by
  have := h.sep.own i
  rwa [hu, hx, hk, H.hty_lo hi] at this
theorem H.HM.put {w1 wr w2 : World} {n : Nat} {v : Nat → Value} {xs : Nat → List Value} (h : H.HM w1 wr n H.hty v xs) {i k p : Nat} {u u' : Value} {l us : List Value} (hi : 10 + n ≤ i) (hu : v i = u) (hx : xs i = l) (hk : l.length = k) (hp : us.length = p)
    (ho : w2.ownsRow (w1.heap.size + 1) 3 1 u' (k + p) (l ++ us)) (hg : wr.grownBy w2 u.ownBlock) (ha : u'.ownBlock = u.ownBlock ∨ u'.ownBlock = some wr.heap.size) : H.HM w1 w2 n H.hty (Sep.up v i u') (Sep.up xs i (l ++ us)) := by
  subst hu hx hk
  rw [← H.hty_hi (i := i) (by omega)] at ho
  exact h.push i p us (Or.inr hi) hp ho hg ha
theorem H.HM.put2 {w1 wr w2 : World} {n : Nat} {v : Nat → Value} {xs : Nat → List Value} (h : H.HM w1 wr n H.hty v xs) {i k p : Nat} {u u' : Value} {l us : List Value} (hi : i < 10) (hu : v i = u) (hx : xs i = l) (hk : l.length = k) (hp : us.length = p)
    (ho : w2.ownsRow (w1.heap.size + 1) 27 1 u' (k + p) (l ++ us)) (hg : wr.grownBy w2 u.ownBlock) (ha : u'.ownBlock = u.ownBlock ∨ u'.ownBlock = some wr.heap.size) : H.HM w1 w2 n H.hty (Sep.up v i u') (Sep.up xs i (l ++ us)) := by
  subst hu hx hk
  rw [← H.hty_lo (i := i) hi] at ho
  exact h.push i p us (Or.inl hi) hp ho hg ha

/-- Within the inner loop. -/
structure H.HI (w1 wi : World) (m n sn : Nat) (E : Nat → Nat → Nat) (t : Nat) (v : Nat → Value) (xs : Nat → List Value) (s d : Nat) (v2 v3 v4 : Value) : Prop where
  mem : H.HM w1 wi n H.hty v xs
  con : H.HC m n sn E t v xs s d s
  x : xs (20 + s) = H.ints (H.mrow (H.ek 2 E) d s)
  y : xs (30 + s) = H.ints (H.mrow (H.ek sn E) d s)
  e2 : v 2 = v2
  e3 : v 3 = v3
  e4 : v 4 = v4
/-- At the outer loop's head. -/
def H.HO (w1 wr : World) (m n sn : Nat) (E : Nat → Nat → Nat) (t : Nat) (s : Nat) (v2 v3 v4 : Value) : Prop := ∃ v xs, H.HM w1 wr n H.hty v xs ∧ H.HC m n sn E t v xs s 0 s ∧ v 2 = v2 ∧ v 3 = v3 ∧ v 4 = v4
theorem H.HO.start {w1 : World} {m n sn : Nat} {E : Nat → Nat → Nat} {t : Nat} : H.HO w1 (w1.alloc (.cells (madeCells #[.slice none 0 0] n) 27)) m n sn E t 0 (.slice none 0 0) (.slice none 0 0) (.slice none 0 0) :=
  ⟨_, _, H.HM.start w1 n H.hty, H.HC.start m n sn E t, rfl, rfl, rfl⟩
theorem H.HO.inner {w1 wr : World} {m n sn : Nat} {E : Nat → Nat → Nat} {t s : Nat} {v2 v3 v4 : Value} (h : H.HO w1 wr m n sn E t s v2 v3 v4) (hn : n ≤ 4) (hs : s < 4) :
    ∃ v xs, H.HI w1 wr m n sn E t v xs s 0 v2 v3 v4 ∧ v (20 + s) = .slice none 0 0 ∧ v (30 + s) = .slice none 0 0 := by
  obtain ⟨v, xs, hM, hC, rfl, rfl, rfl⟩ := h
  refine ⟨Sep.up (Sep.up v (20 + s) (.slice none 0 0)) (30 + s) (.slice none 0 0), Sep.up (Sep.up xs (20 + s) []) (30 + s) [], ⟨(hM.reset (20 + s) (by omega)).reset (30 + s) (by omega), (hC.skip hn (by omega) (by omega) (20 + s) _ _ (by omega)).skip hn (by omega) (by omega) (30 + s) _ _ (by omega), ?_, ?_, ?_, ?_, ?_⟩, ?_, ?_⟩
  · rw [Sep.up_other _ _ (by omega), Sep.up_same]; rfl
  · rw [Sep.up_same]; rfl
  · rw [Sep.up_other _ _ (by omega), Sep.up_other _ _ (by omega)]
  · rw [Sep.up_other _ _ (by omega), Sep.up_other _ _ (by omega)]
  · rw [Sep.up_other _ _ (by omega), Sep.up_other _ _ (by omega)]
  · rw [Sep.up_other _ _ (by omega), Sep.up_same]
  · rw [Sep.up_same]
theorem H.ml {E : Nat → Nat → Nat} {d s : Nat} : (H.ints (H.mrow E d s)).length = d := by rw [H.ints_len, H.mrow_len]
theorem H.HI.ownx {w1 wi : World} {m n sn : Nat} {E : Nat → Nat → Nat} {t : Nat} {v : Nat → Value} {xs : Nat → List Value} {s d : Nat} {v2 v3 v4 : Value} (h : H.HI w1 wi m n sn E t v xs s d v2 v3 v4) (o : Obj) :
    (wi.alloc o).ownsRow (w1.heap.size + 1) 3 1 (v (20 + s)) d (H.ints (H.mrow (H.ek 2 E) d s)) :=
  (h.mem.alloc o).own (by omega) rfl h.x H.ml
theorem H.HI.putx {w1 wi w2 : World} {m n sn : Nat} {E : Nat → Nat → Nat} {t : Nat} {v : Nat → Value} {xs : Nat → List Value} {s d : Nat} {v2 v3 v4 : Value} (h : H.HI w1 wi m n sn E t v xs s d v2 v3 v4) (hn : n ≤ 4) {o : Obj} {z : Int} (hz : z = (H.ek 2 E s d : Int)) {u : Value}
    (ho : w2.ownsRow (w1.heap.size + 1) 3 1 u (d + 1) (H.ints (H.mrow (H.ek 2 E) d s) ++ [.int .i64 z])) (hg : (wi.alloc o).grownBy w2 (v (20 + s)).ownBlock) (ha : u.ownBlock = (v (20 + s)).ownBlock ∨ u.ownBlock = some (wi.heap.size + 1)) :
    H.HM w1 w2 n H.hty (Sep.up v (20 + s) u) (Sep.up xs (20 + s) (H.ints (H.mrow (H.ek 2 E) (d + 1) s))) := by
  subst hz
  rw [H.ints_push]
  exact (h.mem.alloc o).put (by omega) rfl h.x H.ml rfl ho hg (by simpa using ha)
theorem H.HI.owny {w1 wi w2 : World} {m n sn : Nat} {E : Nat → Nat → Nat} {t : Nat} {v : Nat → Value} {xs : Nat → List Value} {s d : Nat} {v2 v3 v4 : Value} (h : H.HI w1 wi m n sn E t v xs s d v2 v3 v4) {u : Value} {l : List Value}
    (h2 : H.HM w1 w2 n H.hty (Sep.up v (20 + s) u) (Sep.up xs (20 + s) l)) (o : Obj) :
    (w2.alloc o).ownsRow (w1.heap.size + 1) 3 1 (v (30 + s)) d (H.ints (H.mrow (H.ek sn E) d s)) :=
  (h2.alloc o).own (i := 30 + s) (by omega) (Sep.up_other _ _ (by omega)) ((Sep.up_other _ _ (by omega)).trans h.y) H.ml
theorem H.HI.puty {w1 wi w2 w3 : World} {m n sn : Nat} {E : Nat → Nat → Nat} {t : Nat} {v : Nat → Value} {xs : Nat → List Value} {s d : Nat} {v2 v3 v4 : Value} (h : H.HI w1 wi m n sn E t v xs s d v2 v3 v4) (hn : n ≤ 4) {u : Value} {l : List Value}
    (h2 : H.HM w1 w2 n H.hty (Sep.up v (20 + s) u) (Sep.up xs (20 + s) l)) {o : Obj} {z : Int} (hz : z = (H.ek sn E s d : Int)) {u' : Value}
    (ho : w3.ownsRow (w1.heap.size + 1) 3 1 u' (d + 1) (H.ints (H.mrow (H.ek sn E) d s) ++ [.int .i64 z])) (hg : (w2.alloc o).grownBy w3 (v (30 + s)).ownBlock) (ha : u'.ownBlock = (v (30 + s)).ownBlock ∨ u'.ownBlock = some (w2.heap.size + 1)) :
    H.HM w1 w3 n H.hty (Sep.up (Sep.up v (20 + s) u) (30 + s) u') (Sep.up (Sep.up xs (20 + s) l) (30 + s) (H.ints (H.mrow (H.ek sn E) (d + 1) s))) := by
  subst hz
  rw [H.ints_push]
  exact (h2.alloc o).put (by omega) (Sep.up_other _ _ (by omega)) ((Sep.up_other _ _ (by omega)).trans h.y) H.ml rfl ho hg (by simpa using ha)
theorem H.HI.ownt {w1 wi w3 : World} {m n sn : Nat} {E : Nat → Nat → Nat} {t : Nat} {v : Nat → Value} {xs : Nat → List Value} {s d : Nat} {v2 v3 v4 : Value} (h : H.HI w1 wi m n sn E t v xs s d v2 v3 v4) (hn : n ≤ 4) (hd : d < n) {u u' : Value} {l l' : List Value}
    (h3 : H.HM w1 w3 n H.hty (Sep.up (Sep.up v (20 + s) u) (30 + s) u') (Sep.up (Sep.up xs (20 + s) l) (30 + s) l')) :
    (∀ o, (w3.alloc o).ownsRow (w1.heap.size + 1) 3 1 (v (10 + d)) s (H.ints (H.mrow (H.eT E) s d))) ∧ (∃ a c, v (10 + d) = .slice a s c) ∧ w3.cell? ⟨w1.heap.size, d, none⟩ = some (v (10 + d)) := by
  have e1 : Sep.up (Sep.up v (20 + s) u) (30 + s) u' (10 + d) = v (10 + d) := by rw [Sep.up_other _ _ (by omega), Sep.up_other _ _ (by omega)]
  have e2 : Sep.up (Sep.up xs (20 + s) l) (30 + s) l' (10 + d) = H.ints (H.mrow (H.eT E) s d) := by rw [Sep.up_other _ _ (by omega), Sep.up_other _ _ (by omega), h.con.trn d hd, if_neg (Nat.lt_irrefl _)]
  refine ⟨fun o => (h3.alloc o).own (by omega) e1 e2 H.ml, ?_, ?_⟩
  · obtain ⟨a, c, e⟩ := h3.sep.form (10 + d)
    rw [e1, e2, H.ml] at e
    exact ⟨a, c, e⟩
  · have := h3.top.cell hd
    rwa [e1] at this
theorem H.HI.putt {w1 wi w3 w4 : World} {m n sn : Nat} {E : Nat → Nat → Nat} {t : Nat} {v : Nat → Value} {xs : Nat → List Value} {s d : Nat} {v2 v3 v4 : Value} (h : H.HI w1 wi m n sn E t v xs s d v2 v3 v4) (hn : n ≤ 4) (hs : s < 4) (hd : d < n) {u u' : Value}
    (h3 : H.HM w1 w3 n H.hty (Sep.up (Sep.up v (20 + s) u) (30 + s) u') (Sep.up (Sep.up xs (20 + s) (H.ints (H.mrow (H.ek 2 E) (d + 1) s))) (30 + s) (H.ints (H.mrow (H.ek sn E) (d + 1) s)))) {o : Obj} {u3 : Value}
    (ho : w4.ownsRow (w1.heap.size + 1) 3 1 u3 (s + 1) (H.ints (H.mrow (H.eT E) s d) ++ [.int .i64 (E s d)])) (hg : (w3.alloc o).grownBy w4 (v (10 + d)).ownBlock) (ha : u3.ownBlock = (v (10 + d)).ownBlock ∨ u3.ownBlock = some (w3.heap.size + 1)) :
    ∃ v' xs', H.HI w1 (w4.setCell ⟨w1.heap.size, d, none⟩ u3) m n sn E t v' xs' s (d + 1) v2 v3 v4 ∧ v' (20 + s) = u ∧ v' (30 + s) = u' := by
  have e1 : Sep.up (Sep.up v (20 + s) u) (30 + s) u' (10 + d) = v (10 + d) := by rw [Sep.up_other _ _ (by omega), Sep.up_other _ _ (by omega)]
  have hC := (h.con.skip hn (by omega) (by omega) (20 + s) u (H.ints (H.mrow (H.ek 2 E) (d + 1) s)) (by omega)).skip hn (by omega) (by omega) (30 + s) u' (H.ints (H.mrow (H.ek sn E) (d + 1) s)) (by omega)
  have e2 : Sep.up (Sep.up xs (20 + s) (H.ints (H.mrow (H.ek 2 E) (d + 1) s))) (30 + s) (H.ints (H.mrow (H.ek sn E) (d + 1) s)) (10 + d) = H.ints (H.mrow (H.eT E) s d) := by rw [hC.trn d hd, if_neg (Nat.lt_irrefl _)]
  have hk : (H.ints (H.mrow (H.eT E) s d)).length = s := H.ml
  have hM := (h3.alloc o).turn (w2 := w4) d [.int .i64 (E s d)] (v' := u3) rfl (by rw [e2, hk, H.hty_hi (by omega)]; exact ho) (by rw [e1]; exact hg) (by rw [e1]; simpa using ha)
  have hT := hC.turn hn hd u3
  have f : ∀ i, i ≠ 10 + d → i ≠ 20 + s → i ≠ 30 + s → Sep.up (Sep.up (Sep.up v (20 + s) u) (30 + s) u') (10 + d) u3 i = v i := fun i h1 h2 h3 => by rw [Sep.up_other _ _ h1, Sep.up_other _ _ h3, Sep.up_other _ _ h2]
  refine ⟨_, _, ⟨hM, hT, ?_, ?_, ?_, ?_, ?_⟩, ?_, ?_⟩
  · rw [Sep.up_other _ _ (by omega), Sep.up_other _ _ (by omega), Sep.up_same]
  · rw [Sep.up_other _ _ (by omega), Sep.up_same]
  · rw [f 2 (by omega) (by omega) (by omega)]; exact h.e2
  · rw [f 3 (by omega) (by omega) (by omega)]; exact h.e3
  · rw [f 4 (by omega) (by omega) (by omega)]; exact h.e4
  · rw [Sep.up_other _ _ (by omega), Sep.up_other _ _ (by omega), Sep.up_same]
  · rw [Sep.up_other _ _ (by omega), Sep.up_same]
/-- The inner loop is done: both rows are whole. -/
theorem H.HI.rows {w1 wi : World} {m n sn : Nat} {E : Nat → Nat → Nat} {t : Nat} {v : Nat → Value} {xs : Nat → List Value} {s d : Nat} {v2 v3 v4 : Value} (h : H.HI w1 wi m n sn E t v xs s d v2 v3 v4) : (∃ a c, v (20 + s) = .slice a d c) ∧ ∃ a c, v (30 + s) = .slice a d c := by
  obtain ⟨a, c, e⟩ := h.mem.sep.form (20 + s)
  obtain ⟨a', c', e'⟩ := h.mem.sep.form (30 + s)
  rw [h.x, H.ml] at e
  rw [h.y, H.ml] at e'
  exact ⟨⟨a, c, e⟩, ⟨a', c', e'⟩⟩
theorem H.rl (v : Nat → Value) (b p : Nat) : ((List.range p).map fun j => v (b + j)).length = p := by simp
theorem H.HI.own2 {w1 wi : World} {m n sn : Nat} {E : Nat → Nat → Nat} {t : Nat} {v : Nat → Value} {xs : Nat → List Value} {s d : Nat} {v2 v3 v4 : Value} (h : H.HI w1 wi m n sn E t v xs s d v2 v3 v4) (o : Obj) :
    (wi.alloc o).ownsRow (w1.heap.size + 1) 27 1 v2 s ((List.range s).map fun j => v (20 + j)) :=
  (h.mem.alloc o).own2 (i := 2) (by omega) h.e2 h.con.two (H.rl _ _ _)
theorem H.HI.put2 {w1 wi w2 : World} {m n sn : Nat} {E : Nat → Nat → Nat} {t : Nat} {v : Nat → Value} {xs : Nat → List Value} {s d : Nat} {v2 v3 v4 : Value} (h : H.HI w1 wi m n sn E t v xs s d v2 v3 v4) {o : Obj} {u y : Value} (hy : v (20 + s) = y)
    (ho : w2.ownsRow (w1.heap.size + 1) 27 1 u (s + 1) (((List.range s).map fun j => v (20 + j)) ++ [y])) (hg : (wi.alloc o).grownBy w2 v2.ownBlock) (ha : u.ownBlock = v2.ownBlock ∨ u.ownBlock = some (wi.heap.size + 1)) :
    H.HM w1 w2 n H.hty (Sep.up v 2 u) (Sep.up xs 2 (xs 2 ++ [v (20 + s)])) := by
  rw [h.con.two, hy]
  exact (h.mem.alloc o).put2 (by omega) h.e2 h.con.two (H.rl _ _ _) rfl ho hg (by simpa using ha)
theorem H.HI.own3 {w1 wi w2 : World} {m n sn : Nat} {E : Nat → Nat → Nat} {t : Nat} {v : Nat → Value} {xs : Nat → List Value} {s d : Nat} {v2 v3 v4 : Value} (h : H.HI w1 wi m n sn E t v xs s d v2 v3 v4) {u : Value} {l : List Value}
    (h2 : H.HM w1 w2 n H.hty (Sep.up v 2 u) (Sep.up xs 2 l)) (o : Obj) : (w2.alloc o).ownsRow (w1.heap.size + 1) 27 1 v3 s ((List.range s).map fun j => v (30 + j)) :=
  (h2.alloc o).own2 (i := 3) (by omega) ((Sep.up_other _ _ (by omega)).trans h.e3) ((Sep.up_other _ _ (by omega)).trans h.con.tim) (H.rl _ _ _)
theorem H.HI.put3 {w1 wi w2 w3 : World} {m n sn : Nat} {E : Nat → Nat → Nat} {t : Nat} {v : Nat → Value} {xs : Nat → List Value} {s : Nat} {v2 v3 v4 : Value} (h : H.HI w1 wi m n sn E t v xs s n v2 v3 v4) (hs : s < 4) {u : Value}
    (h2 : H.HM w1 w2 n H.hty (Sep.up v 2 u) (Sep.up xs 2 (xs 2 ++ [v (20 + s)]))) {o : Obj} {u' y : Value} (hy : v (30 + s) = y)
    (ho : w3.ownsRow (w1.heap.size + 1) 27 1 u' (s + 1) (((List.range s).map fun j => v (30 + j)) ++ [y])) (hg : (w2.alloc o).grownBy w3 v3.ownBlock) (ha : u'.ownBlock = v3.ownBlock ∨ u'.ownBlock = some (w2.heap.size + 1)) :
    ∃ v' xs', H.HM w1 w3 n H.hty v' xs' ∧ H.HC m n sn E t v' xs' (s + 1) 0 s ∧ v' 2 = u ∧ v' 3 = u' ∧ v' 4 = v4 := by
  have hM := (h2.alloc o).put2 (i := 3) (by omega) ((Sep.up_other _ _ (by omega)).trans h.e3) ((Sep.up_other _ _ (by omega)).trans h.con.tim) (H.rl _ _ _) rfl ho hg (by simpa using ha)
  have hC := h.con.rows (by omega) u u' h.x h.y
  rw [hy, h.con.tim] at hC
  refine ⟨_, _, hM, hC, ?_, ?_, ?_⟩
  · rw [Sep.up_other _ _ (by omega), Sep.up_same]
  · rw [Sep.up_same]
  · rw [Sep.up_other _ _ (by omega), Sep.up_other _ _ (by omega)]; exact h.e4
end Go.Proofs.Ythlcnklbeolhpaa
