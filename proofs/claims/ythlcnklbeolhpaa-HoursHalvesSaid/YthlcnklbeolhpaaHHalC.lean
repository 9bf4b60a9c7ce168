/- HoursHalves: what its slices hold, step by step. -/
import Derived.Test.YthlcnklbeolhpaaHHalB
namespace Go.Proofs.Ythlcnklbeolhpaa
open Go.RowKit Ev

def H.ints (l : List Int) : List Value := l.map (Value.int .i64)
theorem H.ints_push (E : Nat → Nat → Nat) (d s : Nat) : H.ints (H.mrow E (d + 1) s) = H.ints (H.mrow E d s) ++ [.int .i64 (E s d)] := by
  unfold H.ints
  rw [H.mrow_succ, List.map_append]
  rfl
theorem H.ints_len (l : List Int) : (H.ints l).length = l.length := List.length_map ..
structure H.HC (m n sn : Nat) (E : Nat → Nat → Nat) (t : Nat) (v : Nat → Value) (xs : Nat → List Value) (s d q : Nat) : Prop where
  two : xs 2 = (List.range s).map fun j => v (20 + j)
  tim : xs 3 = (List.range s).map fun j => v (30 + j)
  mov : xs 4 = (List.range q).map fun j => v (40 + j)
  trn : ∀ k, k < n → xs (10 + k) = H.ints (H.mrow (H.eT E) (if k < d then s + 1 else s) k)
  r2 : ∀ j, j < s → xs (20 + j) = H.ints (H.mrow (H.ek 2 E) n j)
  r3 : ∀ j, j < s → xs (30 + j) = H.ints (H.mrow (H.ek sn E) n j)
  r4 : ∀ j, j < q → xs (40 + j) = H.ints (H.mrow (H.eM E m n t) n j)
theorem H.HC.start (m n sn : Nat) (E : Nat → Nat → Nat) (t : Nat) : H.HC m n sn E t (fun _ => .slice none 0 0) (fun _ => []) 0 0 0 :=
  ⟨rfl, rfl, rfl, fun k _ => by simp [H.mrow, H.ints], fun j h => absurd h (Nat.not_lt_zero _), fun j h => absurd h (Nat.not_lt_zero _), fun j h => absurd h (Nat.not_lt_zero _)⟩
theorem H.up_map (v : Nat → Value) (b i p : Nat) (a : Value) (h : ∀ j, j < p → b + j ≠ i) : (List.range p).map (fun j => Sep.up v i a (b + j)) = (List.range p).map fun j => v (b + j) :=
  List.map_congr_left fun j hj => Sep.up_other _ _ (h j (List.mem_range.1 hj))
theorem H.HC.skip {m n sn : Nat} {E : Nat → Nat → Nat} {t : Nat} {v : Nat → Value} {xs : Nat → List Value} {s d q : Nat} (h : H.HC m n sn E t v xs s d q) (hn : n ≤ 4) (hs : s ≤ 4) (hq : q ≤ 4) (i : Nat) (a : Value) (b : List Value)
    (hi : i = 20 + s ∨ i = 30 + s ∨ i = 40 + q) : H.HC m n sn E t (Sep.up v i a) (Sep.up xs i b) s d q := by
  refine ⟨?_, ?_, ?_, fun k hk => ?_, fun j hj => ?_, fun j hj => ?_, fun j hj => ?_⟩
  · rw [Sep.up_other _ _ (by omega), H.up_map _ _ _ _ _ (fun j hj => by omega)]; exact h.two
  · rw [Sep.up_other _ _ (by omega), H.up_map _ _ _ _ _ (fun j hj => by omega)]; exact h.tim
  · rw [Sep.up_other _ _ (by omega), H.up_map _ _ _ _ _ (fun j hj => by omega)]; exact h.mov
  · rw [Sep.up_other _ _ (by omega)]; exact h.trn k hk
  · rw [Sep.up_other _ _ (by omega)]; exact h.r2 j hj
  · rw [Sep.up_other _ _ (by omega)]; exact h.r3 j hj
  · rw [Sep.up_other _ _ (by omega)]; exact h.r4 j hj
theorem H.HC.turn {m n sn : Nat} {E : Nat → Nat → Nat} {t : Nat} {v : Nat → Value} {xs : Nat → List Value} {s d q : Nat} (h : H.HC m n sn E t v xs s d q) (hn : n ≤ 4) (hd : d < n) (a : Value) :
    H.HC m n sn E t (Sep.up v (10 + d) a) (Sep.up xs (10 + d) (xs (10 + d) ++ [.int .i64 (E s d)])) s (d + 1) q := by
  refine ⟨?_, ?_, ?_, fun k hk => ?_, fun j hj => ?_, fun j hj => ?_, fun j hj => ?_⟩
  · rw [Sep.up_other _ _ (by omega), H.up_map _ _ _ _ _ (fun j hj => by omega)]; exact h.two
  · rw [Sep.up_other _ _ (by omega), H.up_map _ _ _ _ _ (fun j hj => by omega)]; exact h.tim
  · rw [Sep.up_other _ _ (by omega), H.up_map _ _ _ _ _ (fun j hj => by omega)]; exact h.mov
  · by_cases e : k = d
    · subst e
      rw [Sep.up_same, h.trn k hk, if_neg (Nat.lt_irrefl _), if_pos (Nat.lt_succ_self _), H.ints_push]
      rfl
    · rw [Sep.up_other _ _ (by omega), h.trn k hk]
      by_cases hl : k < d
      · rw [if_pos hl, if_pos (by omega)]
      · rw [if_neg hl, if_neg (by omega)]
  · rw [Sep.up_other _ _ (by omega)]; exact h.r2 j hj
  · rw [Sep.up_other _ _ (by omega)]; exact h.r3 j hj
  · rw [Sep.up_other _ _ (by omega)]; exact h.r4 j hj
theorem H.HC.rows {m n sn : Nat} {E : Nat → Nat → Nat} {t : Nat} {v : Nat → Value} {xs : Nat → List Value} {s q : Nat} (h : H.HC m n sn E t v xs s n q) (hs : s ≤ 4) (a b : Value)
    (h2 : xs (20 + s) = H.ints (H.mrow (H.ek 2 E) n s)) (h3 : xs (30 + s) = H.ints (H.mrow (H.ek sn E) n s)) :
    H.HC m n sn E t (Sep.up (Sep.up v 2 a) 3 b) (Sep.up (Sep.up xs 2 (xs 2 ++ [v (20 + s)])) 3 (xs 3 ++ [v (30 + s)])) (s + 1) 0 q := by
  have hv : ∀ i, 10 ≤ i → Sep.up (Sep.up v 2 a) 3 b i = v i := fun i hi => by rw [Sep.up_other _ _ (by omega), Sep.up_other _ _ (by omega)]
  have hx : ∀ i, 10 ≤ i → Sep.up (Sep.up xs 2 (xs 2 ++ [v (20 + s)])) 3 (xs 3 ++ [v (30 + s)]) i = xs i := fun i hi => by rw [Sep.up_other _ _ (by omega), Sep.up_other _ _ (by omega)]
  refine ⟨?_, ?_, ?_, fun k hk => ?_, fun j hj => ?_, fun j hj => ?_, fun j hj => ?_⟩
  · rw [Sep.up_other _ _ (by decide), Sep.up_same, List.range_succ, List.map_append, h.two]
    congr 1
    · exact List.map_congr_left fun j _ => (hv _ (by omega)).symm
    · rw [List.map_singleton, hv _ (by omega)]
  · rw [Sep.up_same, List.range_succ, List.map_append, h.tim]
    congr 1
    · exact List.map_congr_left fun j _ => (hv _ (by omega)).symm
    · rw [List.map_singleton, hv _ (by omega)]
  · rw [Sep.up_other _ _ (by decide), Sep.up_other _ _ (by decide), h.mov]
    exact List.map_congr_left fun j _ => (hv _ (by omega)).symm
  · rw [hx _ (by omega), h.trn k hk, if_pos hk, if_neg (Nat.not_lt_zero _)]
  · rw [hx _ (by omega)]
    by_cases e : j = s
    · subst e; exact h2
    · exact h.r2 j (by omega)
  · rw [hx _ (by omega)]
    by_cases e : j = s
    · subst e; exact h3
    · exact h.r3 j (by omega)
  · rw [hx _ (by omega)]; exact h.r4 j hj
theorem H.HC.moved {m n sn : Nat} {E : Nat → Nat → Nat} {t : Nat} {v : Nat → Value} {xs : Nat → List Value} {s d q : Nat} (h : H.HC m n sn E t v xs s d q) (hq : q ≤ 4) (a : Value)
    (h4 : xs (40 + q) = H.ints (H.mrow (H.eM E m n t) n q)) :
    H.HC m n sn E t (Sep.up v 4 a) (Sep.up xs 4 (xs 4 ++ [v (40 + q)])) s d (q + 1) := by
  have hv : ∀ i, 10 ≤ i → Sep.up v 4 a i = v i := fun i hi => by rw [Sep.up_other _ _ (by omega)]
  have hx : ∀ i, i ≠ 4 → Sep.up xs 4 (xs 4 ++ [v (40 + q)]) i = xs i := fun i hi => by rw [Sep.up_other _ _ hi]
  refine ⟨?_, ?_, ?_, fun k hk => ?_, fun j hj => ?_, fun j hj => ?_, fun j hj => ?_⟩
  · rw [hx _ (by omega), h.two]; exact List.map_congr_left fun j _ => (hv _ (by omega)).symm
  · rw [hx _ (by omega), h.tim]; exact List.map_congr_left fun j _ => (hv _ (by omega)).symm
  · rw [Sep.up_same, List.range_succ, List.map_append, h.mov]
    congr 1
    · exact List.map_congr_left fun j _ => (hv _ (by omega)).symm
    · rw [List.map_singleton, hv _ (by omega)]
  · rw [hx _ (by omega)]; exact h.trn k hk
  · rw [hx _ (by omega)]; exact h.r2 j hj
  · rw [hx _ (by omega)]; exact h.r3 j hj
  · rw [hx _ (by omega)]
    by_cases e : j = q
    · subst e; exact h4
    · exact h.r4 j (by omega)
theorem H.mrow_eM {E : Nat → Nat → Nat} {m n t s : Nat} (hn : 1 ≤ n ∧ n ≤ 4) : H.mrow (H.eM E m n t) n s = (H.mrow E n ((s + t) % m)).drop 1 ++ [(E ((s + t) % m) 0 : Int)] := by
  have h : n = 1 ∨ n = 2 ∨ n = 3 ∨ n = 4 := by omega
  rcases h with rfl | rfl | rfl | rfl <;> rfl

/-- The types of the elements. -/
def H.hty (i : Nat) : TypeId := if i < 10 then 27 else 3

/-- What is read of the finished work: its outer row is one of its own, and so are its rows. -/
theorem H.sep_rd {w : World} {lo : Nat} {v : Nat → Value} {xs : Nat → List Value} (h : Sep w lo H.hty v xs) {i b m n : Nat} {F : Nat → Nat → Nat} (hb : 10 ≤ b) (hx : xs i = (List.range m).map fun j => v (b + j)) (hr : ∀ j, j < m → xs (b + j) = H.ints (H.mrow F n j)) :
    ∃ a c, v i = .slice a m c ∧ RdM w a (H.mat F m n) := by
  have hl : (xs i).length = m := by rw [hx]; simp
  have ho := h.own i
  have hform := h.form i
  obtain ⟨a, c, e⟩ := hform
  rw [hl] at e
  refine ⟨a, c, e, fun k hk => ?_⟩
  have hkm : k < m := by rwa [H.mat_len] at hk
  rcases ho.2 with ⟨h1, h2⟩ | ⟨g, cap, cur, h1, _⟩
  · omega
  · rw [hl] at h1
    rw [e] at h1
    simp only [Value.slice.injEq] at h1
    obtain ⟨rfl, _, rfl⟩ := h1
    have ho2 := ho
    rw [e, hl] at ho2
    have hc := World.ownsRow.cellAt ho2 k (by omega)
    obtain ⟨r, cr, er⟩ := h.form (b + k)
    have hrl : (xs (b + k)).length = n := by rw [hr k hkm, H.ints_len, H.mrow_len]
    rw [hrl] at er
    rw [H.mat_row hk, H.mrow_len]
    refine ⟨g, 0, r, cr, rfl, ?_, ?_⟩
    · rw [Nat.zero_add, hc, hx]
      simp [hkm, er]
    · have hor := h.own (b + k)
      have hrow : RowI w lo (.slice r n cr) (H.mrow F n k) := by
        unfold RowI
        rw [hr k hkm, H.ints_len, H.mrow_len, er] at hor
        rw [H.mrow_len]
        have ht : H.hty (b + k) = 3 := if_neg (by omega)
        rwa [ht] at hor
      have := hrow.rdI (n := n)
      exact this
end Go.Proofs.Ythlcnklbeolhpaa
