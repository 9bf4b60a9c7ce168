import Derived.Test.YtfkfejonlfcgoaaEvDef
namespace Go.Proofs.Ytfkfejonlfcgoaa.Ev
open Go Go.RowKit
namespace T
variable {α : Type}
theorem get_leaf (n : Nat) : (T.leaf : T α).get n = none := rfl
theorem get_node_zero (l r : T α) (v : Option α) : (T.node l v r).get 0 = v := rfl
theorem rec_mod {β : Type} (m : Nat) (a b : β) : @Nat.rec (fun _ => β) a (fun _ _ => b) (Nat.mod m 2) = if m % 2 = 0 then a else b := by
  have e : Nat.mod m 2 = m % 2 := rfl
  rw [e]
  rcases Nat.mod_two_eq_zero_or_one m with h | h <;> rw [h] <;> rfl
theorem get_node_succ (l r : T α) (v : Option α) (m : Nat) : (T.node l v r).get (m + 1) = if m % 2 = 0 then l.get (m / 2) else r.get (m / 2) := rec_mod _ _ _
theorem half_inj {m k : Nat} (h : m % 2 = k % 2) (e : m / 2 = k / 2) : m = k := by omega
theorem one_zero (x : α) (f : Nat) : one x (f + 1) 0 = .node .leaf (some x) .leaf := rfl
theorem one_succ (x : α) (f m : Nat) : one x (f + 1) (m + 1) = if m % 2 = 0 then .node (one x f (m / 2)) none .leaf else .node .leaf none (one x f (m / 2)) := rec_mod _ _ _
theorem put_leaf (n : Nat) (x : α) : (T.leaf : T α).put n x = one x (n + 1) n := rfl
theorem put_node_zero (l r : T α) (v : Option α) (x : α) : (T.node l v r).put 0 x = .node l (some x) r := rfl
theorem put_node_succ (l r : T α) (v : Option α) (m : Nat) (x : α) : (T.node l v r).put (m + 1) x = if m % 2 = 0 then .node (l.put (m / 2) x) v r else .node l v (r.put (m / 2) x) := rec_mod _ _ _
theorem get_one (x : α) : ∀ (f n k : Nat), n < f → (one x f n).get k = if k = n then some x else none
  | 0, n, k, h => by omega
  | f + 1, 0, k, _ => by
    rw [one_zero]
    cases k with
    | zero => rfl
    | succ k => rw [get_node_succ]; simp [get_leaf]
  | f + 1, m + 1, k, h => by
    rw [one_succ]
    by_cases hm : m % 2 = 0
    · rw [if_pos hm]
      cases k with
      | zero => simp [get_node_zero]
      | succ k =>
        rw [get_node_succ, get_one x f _ _ (by omega), get_leaf]
        by_cases hk : k % 2 = 0
        · rw [if_pos hk]
          by_cases hkm : k / 2 = m / 2
          · have : k = m := half_inj (by omega) hkm
            simp [this]
          · have : ¬ k = m := fun e => hkm (by rw [e])
            simp [hkm, this]
        · have : ¬ k = m := fun e => hk (by rw [e]; exact hm)
          simp [hk, this]
    · rw [if_neg hm]
      cases k with
      | zero => simp [get_node_zero]
      | succ k =>
        rw [get_node_succ, get_one x f _ _ (by omega), get_leaf]
        by_cases hk : k % 2 = 0
        · have : ¬ k = m := fun e => hm (by rw [← e]; exact hk)
          simp [hk, this]
        · rw [if_neg hk]
          by_cases hkm : k / 2 = m / 2
          · have : k = m := half_inj (by omega) hkm
            simp [this]
          · have : ¬ k = m := fun e => hkm (by rw [e])
            simp [hkm, this]
theorem get_put : ∀ (t : T α) (n : Nat) (x : α) (k : Nat), (t.put n x).get k = if k = n then some x else t.get k
  | .leaf, n, x, k => by rw [put_leaf, get_one x _ _ _ (Nat.lt_succ_self _), get_leaf]
  | .node l v r, 0, x, k => by
    rw [put_node_zero]
    cases k with
    | zero => rfl
    | succ k => rw [get_node_succ, get_node_succ, if_neg (Nat.succ_ne_zero k)]
  | .node l v r, m + 1, x, k => by
    rw [put_node_succ]
    by_cases hm : m % 2 = 0
    · rw [if_pos hm]
      cases k with
      | zero => simp [get_node_zero]
      | succ k =>
        rw [get_node_succ, get_node_succ, get_put l]
        by_cases hk : k % 2 = 0
        · rw [if_pos hk, if_pos hk]
          by_cases hkm : k / 2 = m / 2
          · have : k = m := half_inj (by omega) hkm
            simp [this]
          · have : ¬ k = m := fun e => hkm (by rw [e])
            simp [hkm, this]
        · have : ¬ k = m := fun e => hk (by rw [e]; exact hm)
          simp [hk, this]
    · rw [if_neg hm]
      cases k with
      | zero => simp [get_node_zero]
      | succ k =>
        rw [get_node_succ, get_node_succ, get_put r]
        by_cases hk : k % 2 = 0
        · have : ¬ k = m := fun e => hm (by rw [← e]; exact hk)
          simp [hk, this]
        · rw [if_neg hk, if_neg hk]
          by_cases hkm : k / 2 = m / 2
          · have : k = m := half_inj (by omega) hkm
            simp [this]
          · have : ¬ k = m := fun e => hkm (by rw [e])
            simp [hkm, this]
theorem get_put_same (t : T α) (n : Nat) (x : α) : (t.put n x).get n = some x := by rw [get_put, if_pos rfl]
theorem get_put_ne (t : T α) (n : Nat) (x : α) {k : Nat} (h : k ≠ n) : (t.put n x).get k = t.get k := by rw [get_put, if_neg h]
end T
end Go.Proofs.Ytfkfejonlfcgoaa.Ev
