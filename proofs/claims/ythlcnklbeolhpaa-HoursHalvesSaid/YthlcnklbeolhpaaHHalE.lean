/- HoursHalves: a row in another order, in whatever order its parts are made. -/
import Derived.Test.YthlcnklbeolhpaaHHalD
namespace Go.Proofs.Ythlcnklbeolhpaa
open Go.RowKit Ev

/-- Behind the two appends of a round: one row more of both, and the row in another order to come. -/
structure H.HR (w1 wr : World) (m n sn : Nat) (E : Nat → Nat → Nat) (t : Nat) (v : Nat → Value) (xs : Nat → List Value) (s : Nat) (v2 v3 v4 : Value) : Prop where
  mem : H.HM w1 wr n H.hty v xs
  con : H.HC m n sn E t v xs (s + 1) 0 s
  e2 : v 2 = v2
  e3 : v 3 = v3
  e4 : v 4 = v4
abbrev H.vf (v : Nat → Value) (s N : Nat) : Nat → Value := Sep.up v (40 + s) (.slice (some ⟨N, 0, none⟩) 0 0)
abbrev H.xf (xs : Nat → List Value) (s : Nat) : Nat → List Value := Sep.up xs (40 + s) []
theorem H.HM.new {w1 wr : World} {n : Nat} {v : Nat → Value} {xs : Nat → List Value} (h : H.HM w1 wr n H.hty v xs) (hn : n ≤ 4) (s : Nat) : H.HM w1 (wr.alloc (.cells #[] 3)) n H.hty (H.vf v s wr.heap.size) (H.xf xs s) := by
  have := h.fresh (40 + s) (by omega)
  rwa [H.hty_hi (by omega)] at this
/-- The first append's facts. -/
theorem H.arm1 {w1 W : World} {n s N : Nat} {v : Nat → Value} {xs : Nat → List Value} {l : List Int} {ad : Addr} (h : H.HM w1 W n H.hty (H.vf v s N) (H.xf xs s)) (hl : l.length = n) (hn : 1 ≤ n ∧ n ≤ 4) (hc : ∀ k (hk : k < (l.drop 1).length), W.cell? (ad.add k) = some (.int .i64 (l.drop 1)[k])) :
    W.ownsRow (w1.heap.size + 1) 3 1 (.slice (some ⟨N, 0, none⟩) 0 0) 0 [] ∧ (H.ints (l.drop 1)).length = n - 1 ∧ (∀ j u, (H.ints (l.drop 1))[j]? = some u → W.cell? (ad.add j) = some u) ∧ (∀ u ∈ H.ints (l.drop 1), u.oneCell' = true) ∧ 0 + (n - 1) ≤ 1000 ∧ w1.heap.size + 1 ≤ W.heap.size := by
  refine ⟨h.own (i := 40 + s) (by omega) (Sep.up_same _ _ _) (Sep.up_same _ _ _) rfl, by rw [H.ints_len, List.length_drop, hl], fun j u hj => ?_, fun u hu => ?_, by omega, h.lt⟩
  · have hjl : j < (l.drop 1).length := by
      have := (List.getElem?_eq_some_iff.1 hj).1
      rwa [H.ints_len] at this
    have e : (H.ints (l.drop 1))[j]? = some (.int .i64 (l.drop 1)[j]) := by unfold H.ints; rw [List.getElem?_map, List.getElem?_eq_getElem hjl]; rfl
    rw [hc j hjl, ← e]
    exact hj
  · obtain ⟨x, _, rfl⟩ := List.mem_map.1 hu; rfl
theorem H.next1 {w1 W W2 : World} {n s N k : Nat} {v : Nat → Value} {xs : Nat → List Value} {us : List Value} {u : Value} (h : H.HM w1 W n H.hty (H.vf v s N) (H.xf xs s)) (hn : n ≤ 4) (hk : us.length = k)
    (ho : W2.ownsRow (w1.heap.size + 1) 3 1 u (0 + k) ([] ++ us)) (hg : W.grownBy W2 (Value.ownBlock (.slice (some ⟨N, 0, none⟩) 0 0))) (ha : u.ownBlock = Value.ownBlock (.slice (some ⟨N, 0, none⟩) 0 0) ∨ u.ownBlock = some W.heap.size) :
    H.HM w1 W2 n H.hty (Sep.up v (40 + s) u) (Sep.up xs (40 + s) us) := by
  have := h.put (i := 40 + s) (by omega) (Sep.up_same _ _ _) (Sep.up_same _ _ _) rfl hk ho hg ha
  rwa [Sep.up_up, Sep.up_up, List.nil_append] at this
/-- A number's own block stays. -/
theorem H.other {W W2 : World} {N g : Nat} {z : Value} (hg : W.grownBy W2 (Value.ownBlock (.slice (some ⟨N, 0, none⟩) 0 0))) (hne : g ≠ N) (hz : W.cell? ⟨g, 0, none⟩ = some z) : W2.cell? ⟨g, 0, none⟩ = some z :=
  (World.cell?_of_block (hg.block g (World.block_lt_of_cell? _ _ hz) (fun e => hne (by simpa [Value.ownBlock] using e)))).trans hz
theorem H.one {W W2 : World} (z : Value) (e : TypeId) (h : W2.heap = (W.alloc (.cells #[z] e)).heap) : W2.cell? ⟨W.heap.size, 0, none⟩ = some z := by
  rw [cell_heap h, World.cell?_alloc_at _ _ _ _ rfl]
  rfl
/-- The second append's facts. -/
theorem H.arm2 {w1 W : World} {n s g k : Nat} {v : Nat → Value} {xs : Nat → List Value} {us : List Value} {u : Value} {z : Int} (h : H.HM w1 W n H.hty (Sep.up v (40 + s) u) (Sep.up xs (40 + s) us)) (hk : us.length = k) (h4 : k ≤ 4) (hz : W.cell? ⟨g, 0, none⟩ = some (.int .i64 z)) :
    W.ownsRow (w1.heap.size + 1) 3 1 u k us ∧ [Value.int .i64 z].length = 1 ∧ (∀ j x, [Value.int .i64 z][j]? = some x → W.cell? ((⟨g, 0, none⟩ : Addr).add j) = some x) ∧ (∀ x ∈ [Value.int .i64 z], x.oneCell' = true) ∧ k + 1 ≤ 1000 ∧ w1.heap.size + 1 ≤ W.heap.size := by
  refine ⟨h.own (i := 40 + s) (by omega) (Sep.up_same _ _ _) (Sep.up_same _ _ _) hk, rfl, fun j x hj => ?_, fun x hx => by simp at hx; subst hx; rfl, by omega, h.lt⟩
  match j, hj with
  | 0, hj => simp at hj; subst hj; simpa [Addr.add] using hz
theorem H.next2 {w1 W W2 : World} {n s k : Nat} {v : Nat → Value} {xs : Nat → List Value} {us : List Value} {u u2 : Value} {z : Value} (h : H.HM w1 W n H.hty (Sep.up v (40 + s) u) (Sep.up xs (40 + s) us)) (hn : n ≤ 4) (hk : us.length = k)
    (ho : W2.ownsRow (w1.heap.size + 1) 3 1 u2 (k + 1) (us ++ [z])) (hg : W.grownBy W2 u.ownBlock) (ha : u2.ownBlock = u.ownBlock ∨ u2.ownBlock = some W.heap.size) :
    H.HM w1 W2 n H.hty (Sep.up v (40 + s) u2) (Sep.up xs (40 + s) (us ++ [z])) := by
  have := h.put (i := 40 + s) (by omega) (Sep.up_same _ _ _) (Sep.up_same _ _ _) hk rfl ho hg ha
  rwa [Sep.up_up, Sep.up_up] at this
/-- The third append's facts. -/
theorem H.HR.arm3 {w1 wr W W2 : World} {m n sn : Nat} {E : Nat → Nat → Nat} {t : Nat} {v : Nat → Value} {xs : Nat → List Value} {s : Nat} {v2 v3 v4 : Value} (hr : H.HR w1 wr m n sn E t v xs s v2 v3 v4) (hs : s < 4) {u : Value} {us : List Value} {e : TypeId}
    (h : H.HM w1 W n H.hty (Sep.up v (40 + s) u) (Sep.up xs (40 + s) us)) (hu : u.oneCell' = true) (hW : Same W2 (W.alloc (.cells #[u] e))) :
    W2.ownsRow (w1.heap.size + 1) 27 1 v4 s ((List.range s).map fun j => v (40 + j)) ∧ [u].length = 1 ∧ (∀ j x, [u][j]? = some x → W2.cell? ((⟨W.heap.size, 0, none⟩ : Addr).add j) = some x) ∧ (∀ x ∈ [u], x.oneCell' = true) ∧ s + 1 ≤ 1000 ∧ w1.heap.size + 1 ≤ W2.heap.size := by
  have h2 := (h.alloc (.cells #[u] e)).same hW
  refine ⟨h2.own2 (i := 4) (by omega) ((Sep.up_other _ _ (by omega)).trans hr.e4) ((Sep.up_other _ _ (by omega)).trans hr.con.mov) (H.rl _ _ _), rfl, fun j x hj => ?_, fun x hx => by simp at hx; subst hx; exact hu, by omega, h2.lt⟩
  match j, hj with
  | 0, hj => simp at hj; subst hj; simpa [Addr.add] using H.one _ e hW.1
theorem H.HR.next3 {w1 wr W W2 W3 : World} {m n sn : Nat} {E : Nat → Nat → Nat} {t : Nat} {v : Nat → Value} {xs : Nat → List Value} {s : Nat} {v2 v3 v4 : Value} (hr : H.HR w1 wr m n sn E t v xs s v2 v3 v4) (hn : 1 ≤ n ∧ n ≤ 4) (hs : s < 4) {u u4 : Value} {e : TypeId} {r : Nat} (hrr : r = (s + t) % m)
    (h : H.HM w1 W n H.hty (Sep.up v (40 + s) u) (Sep.up xs (40 + s) (H.ints ((H.mrow E n r).drop 1) ++ [.int .i64 (E r 0)]))) (hW : Same W2 (W.alloc (.cells #[u] e)))
    (ho : W3.ownsRow (w1.heap.size + 1) 27 1 u4 (s + 1) (((List.range s).map fun j => v (40 + j)) ++ [u])) (hg : W2.grownBy W3 v4.ownBlock) (ha : u4.ownBlock = v4.ownBlock ∨ u4.ownBlock = some W2.heap.size) : H.HO w1 W3 m n sn E t (s + 1) v2 v3 u4 := by
  have h2 := (h.alloc (.cells #[u] e)).same hW
  have hC := hr.con.skip (a := u) (b := H.ints ((H.mrow E n r).drop 1) ++ [.int .i64 (E r 0)]) hn.2 (by omega) (by omega) (40 + s) (by omega)
  have hM := h2.put2 (i := 4) (by omega) ((Sep.up_other _ _ (by omega)).trans hr.e4) ((Sep.up_other _ _ (by omega)).trans hr.con.mov) (H.rl _ _ _) rfl ho hg ha
  have hC2 := hC.moved (by omega) u4 (by rw [Sep.up_same, H.mrow_eM hn, ← hrr]; unfold H.ints; rw [List.map_append]; rfl)
  rw [Sep.up_same, Sep.up_other _ _ (show 4 ≠ 40 + s by omega), hr.con.mov] at hC2
  refine ⟨_, _, hM, hC2, ?_, ?_, ?_⟩
  · rw [Sep.up_other _ _ (by omega), Sep.up_other _ _ (by omega)]; exact hr.e2
  · rw [Sep.up_other _ _ (by omega), Sep.up_other _ _ (by omega)]; exact hr.e3
  · rw [Sep.up_same]
end Go.Proofs.Ythlcnklbeolhpaa
