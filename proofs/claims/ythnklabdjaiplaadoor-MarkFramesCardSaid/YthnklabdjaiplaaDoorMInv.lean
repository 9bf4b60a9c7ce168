/- A region that draws its order, by what each of its operations leaves in its place: no order is looked at. No program is named here. -/
import Derived.Test.YthnklabdjaiplaaDoorBase
import Derived.Orders
namespace Go.Proofs.YthnklabdjaiplaaDoor
open Go.RowKit

/-- What holds between two operations: each that has come up left in its place what is said of it; nothing else is touched. -/
structure M.Inv (D : Nat → Nat) (ks : Nat → Value → World → Prop) (n N : Nat) (w0 : World) (T0 : Nat → Value) (d0 : List Deferred) (listed : Array Bool) (a : Act) (w : World) : Prop where
  size : a.tmps.size = N
  lsz : listed.size = n
  defers : a.defers = d0
  base : ∀ s, (∀ j, j < n → D j ≠ s) → a.tmps.getD s undef = T0 s
  below : Below w0.heap.size w0 w
  done : ∀ j, j < n → listed.getD j false = true → ks j (a.tmps.getD (D j) undef) w

section
variable {P : Program} {D : Nat → Nat} {ks : Nat → Value → World → Prop} {n N : Nat} {w0 : World} {T0 : Nat → Value} {d0 : List Deferred}

theorem M.Inv.put {listed : Array Bool} {a : Act} {w w' : World} {i : Nat} {v : Value} (hst : ∀ i v w w', Below w.heap.size w w' → ks i v w → ks i v w')
    (hD : ∀ i j, i < n → j < n → D i = D j → i = j) (hDN : ∀ i, i < n → D i < N) (h : M.Inv D ks n N w0 T0 d0 listed a w) (hi : i < n)
    (hv : ks i v w') (hb : Below w.heap.size w w') : M.Inv D ks n N w0 T0 d0 (listed.setIfInBounds i true) (a.put (some (D i)) v) w' := by
  have hN := hDN i hi
  refine ⟨by simp [Act.put, h.size], by simp [h.lsz], h.defers, fun s hs => ?_, h.below.trans (hb.mono h.below.size), fun j hj hl => ?_⟩
  · rw [← h.base s hs]
    have : D i ≠ s := hs i hi
    simp [Act.put, this]
  · by_cases e : i = j
    · subst e
      have := h.size
      simpa [Act.put, Array.getElem?_setIfInBounds, hN, this] using hv
    · have hne : D i ≠ D j := fun he => e (hD i j hi hj he)
      have h1 : listed.getD j false = true := by simpa [Array.getElem?_setIfInBounds, e] using hl
      have h2 := hst j _ w w' hb (h.done j hj h1)
      simpa [Act.put, Array.getElem?_setIfInBounds, hne] using h2

/-- What is asked of one operation. -/
def M.R (P : Program) (D : Nat → Nat) (ks : Nat → Value → World → Prop) (n N : Nat) (w0 : World) (T0 : Nat → Value) (d0 : List Deferred) (i : Nat) (o : Oper) : Prop :=
  o.dst = some (D i) ∧ (∀ e ∈ o.after, e.on < i) ∧
  ∀ (Q : Exit → Act → World → Prop) (listed : Array Bool) (a : Act) (w : World), M.Inv D ks n N w0 T0 d0 listed a w → (∀ j, (o.after.toList.any fun e => e.on == j && Region.binds .any e) = true → listed.getD j false = true) →
    ((∀ g p, o.guard = some (g, p) → g < n ∧ a.tmps.getD (D g) undef = .bool p) ∧ o.wp P a w (fun a' w' => ∃ v, a' = a.put (some (D i)) v ∧ ks i v w' ∧ Below w.heap.size w w') Q) ∨
    ((∃ g p, o.guard = some (g, p) ∧ g < n ∧ a.tmps.getD (D g) undef ≠ .bool p) ∧ ks i undef w)

def M.Steps (R : Nat → Oper → Prop) : Nat → List Oper → Prop
  | _, [] => True
  | i, o :: r => R i o ∧ M.Steps R (i + 1) r
theorem M.Steps.at {R : Nat → Oper → Prop} : ∀ (l : List Oper) (k : Nat), M.Steps R k l → ∀ i o, l[i]? = some o → R (k + i) o
  | [], _, _, _, _, h => by simp at h
  | x :: r, k, h, 0, o, e => by simp at e; subst e; exact h.1
  | x :: r, k, h, i + 1, o, e => by
    have := M.Steps.at r (k + 1) h.2 i o (by simpa using e)
    rw [show k + (i + 1) = k + 1 + i by omega]
    exact this

theorem M.count_set {listed : Array Bool} {i : Nat} (h : listed.getD i true = false) : listed.toList.count false = (listed.setIfInBounds i true).toList.count false + 1 := by
  have hi : i < listed.size := by
    by_cases hlt : i < listed.size
    · exact hlt
    · simp [Array.getElem?_eq_none (Nat.le_of_not_lt hlt)] at h
  have hv : listed.toList[i]'(by simpa using hi) = false := by simpa [hi] using h
  have e : (listed.setIfInBounds i true).toList = listed.toList.set i true := by simp
  rw [e, List.count_set (by simpa using hi), hv]
  have hmem : false ∈ listed.toList := by rw [← hv]; exact List.getElem_mem _
  have : 0 < listed.toList.count false := List.count_pos_iff.2 hmem
  rw [if_pos (by decide), if_neg (by decide)]
  omega

theorem M.region_inv2 {id : Nat} {ops : Array Oper} {a0 : Act} {w : World} {Q : Exit → Act → World → Prop} (n N : Nat) (D : Nat → Nat) (ks : Nat → Value → World → Prop) (hm : P.follows .mixedOrders = true) (hn : ops.size = n) (hN : a0.tmps.size = N)
    (hst : ∀ i v w w', Below w.heap.size w w' → ks i v w → ks i v w')
    (hD : ∀ i j, i < n → j < n → D i = D j → i = j) (hDN : ∀ i, i < n → D i < N)
    (hs : ∀ T0 : Nat → Value, (∀ s, a0.tmps.getD s undef = T0 s) → M.Steps (M.R P D ks n N w.drew T0 a0.defers) 0 ops.toList)
    (hend : ∀ a w', a.tmps.size = N → a.defers = a0.defers → Below w.drew.heap.size w.drew w' → (∀ s, (∀ j, j < n → D j ≠ s) → a.tmps.getD s undef = a0.tmps.getD s undef) → (∀ j, j < n → ks j (a.tmps.getD (D j) undef) w') → Q .normal a w') : (Code.region id ops true).wp P Q a0 w := by
  obtain ⟨T0, hT⟩ : ∃ T0 : Nat → Value, ∀ s, a0.tmps.getD s undef = T0 s := ⟨_, fun _ => rfl⟩
  replace hs := hs T0 hT
  subst hn
  subst hN
  replace hend : ∀ a w', M.Inv D ks ops.size a0.tmps.size w.drew T0 a0.defers (Array.replicate ops.size true) a w' → Q .normal a w' := fun a w' h => hend a w' h.size h.defers h.below (fun s hs => (h.base s hs).trans (hT s).symm) (fun j hj => h.done j hj (by simp [hj]))
  have hR : ∀ i o, ops[i]? = some o → M.R P D ks ops.size a0.tmps.size w.drew T0 a0.defers i o := fun i o h => by
    have := M.Steps.at _ 0 hs i o (by simpa using h)
    simpa using this
  have all_of : ∀ listed : Array Bool, listed.size = ops.size → Region.ready .any ops listed = [] → listed = Array.replicate ops.size true := by
    intro listed hl hr
    have : ∀ j, j < ops.size → listed.getD j true = true := by
      intro j
      induction j using Nat.strongRecOn with
      | ind j ih =>
        intro hj
        cases hb : listed.getD j true with
        | true => rfl
        | false =>
          exfalso
          have hmem : j ∈ Region.ready .any ops listed := mem_ready.2 ⟨hb, ops[j], by simp [hj], fun e he _ => by
            have hlt := (hR j ops[j] (by simp [hj])).2.1 e he
            have h1 := ih e.on hlt (by omega)
            have h2 : e.on < listed.size := by omega
            simpa [h2] using h1⟩
          rw [hr] at hmem
          cases hmem
    refine Array.ext (by simp [hl]) fun j h1 h2 => ?_
    have := this j (by omega)
    simpa [h1] using this
  have main : ∀ (fuel : Nat) (listed : Array Bool) (a : Act) (w' : World), listed.toList.count false ≤ fuel → M.Inv D ks ops.size a0.tmps.size w.drew T0 a0.defers listed a w' → wpAny P .any ops Q fuel listed a w' := by
    intro fuel
    induction fuel with
    | zero =>
      intro listed a w' hc h
      have hr : Region.ready .any ops listed = [] := by
        cases hr : Region.ready .any ops listed with
        | nil => rfl
        | cons j r =>
          have hj := (mem_ready.1 (show j ∈ Region.ready .any ops listed by rw [hr]; simp)).1
          have := M.count_set hj
          omega
      exact ⟨hr, hend a w' (by rw [← all_of listed h.lsz hr]; exact h)⟩
    | succ fuel ih =>
      intro listed a w' hc h
      refine ⟨fun hr => hend a w' (by rw [← all_of listed h.lsz hr]; exact h), fun i hi => ?_⟩
      obtain ⟨hun, o, ho, hall⟩ := mem_ready.1 hi
      have hlt : i < ops.size := (Array.getElem?_eq_some_iff.1 ho).1
      obtain ⟨r1, r2, r3⟩ := hR i o ho
      have hyl : ∀ g p, g < ops.size → a.tmps.getD (D g) undef = .bool p → yielded ops a.tmps g = some p := fun g p hgn hgv => by
        have hd := (hR g ops[g] (by simp [hgn])).1
        have hN := hDN g hgn
        have hsz := h.size
        have hDg : D g < a.tmps.size := by omega
        have hv : a.tmps[D g] = .bool p := by simpa [hDg] using hgv
        simp [yielded, hgn, hd, hDg, hv]
      have hcnt := M.count_set hun
      rcases r3 Q listed a w' h (fun j hj => by
        obtain ⟨e, he, hj⟩ := List.any_eq_true.1 hj
        simp only [Bool.and_eq_true, beq_iff_eq] at hj
        rw [← hj.1]
        exact hall e (by simpa using he) hj.2) with ⟨g1, g2⟩ | ⟨⟨g, p, hg, hgn, hgv⟩, hku⟩
      · unfold wpOp
        rw [ho]
        dsimp only
        have hw : Region.wanted o (yielded ops a.tmps) = true := by
          unfold Region.wanted
          cases hg : o.guard with
          | none => rfl
          | some q =>
            obtain ⟨g, p⟩ := q
            obtain ⟨hgn, hgv⟩ := g1 g p hg
            simp [hyl g p hgn hgv]
        rw [if_pos hw]
        refine .inl (Oper.wp_mono (fun a' w2 hk => ?_) g2)
        obtain ⟨v, rfl, hv, hb⟩ := hk
        exact ih _ _ _ (by omega) (h.put hst hD hDN hlt hv hb)
      · unfold wpOp
        rw [ho]
        dsimp only
        have hw : ¬ Region.wanted o (yielded ops a.tmps) = true := by
          unfold Region.wanted
          rw [hg]
          dsimp only
          intro hyp
          apply hgv
          have hd := (hR g ops[g] (by simp [hgn])).1
          have hN := hDN g hgn
          have hsz := h.size
          have hDg : D g < a.tmps.size := by omega
          have hyp' : yielded ops a.tmps g = some p := by simpa using hyp
          unfold yielded at hyp'
          simp only [hgn, getElem?_pos, Option.bind_some, hd, hDg] at hyp'
          have e : a.tmps.getD (D g) undef = a.tmps[D g] := by simp [hDg]
          rw [e]
          split at hyp'
          · rename_i b hb
            have hb' := Option.some.inj hb
            rw [hb']
            exact congrArg Value.bool (Option.some.inj hyp')
          · cases hyp'
        rw [if_neg hw, r1]
        exact ih _ _ _ (by omega) (h.put hst hD hDN hlt hku (Below.refl _ _))
  refine wp_region_any hm (main ops.size _ a0 _ ?_ ⟨rfl, by simp, rfl, fun s _ => hT s, Below.refl _ _, fun j hj hl => ?_⟩)
  · simp
  · simp [hj] at hl
theorem M.region_inv {id : Nat} {ops : Array Oper} {a0 : Act} {w : World} {Q : Exit → Act → World → Prop} (n N : Nat) (D : Nat → Nat) (ks : Nat → Value → World → Prop) (hm : P.follows .mixedOrders = true) (hn : ops.size = n) (hN : a0.tmps.size = N)
    (hst : ∀ i v w w', Below w.heap.size w w' → ks i v w → ks i v w')
    (hD : ∀ i j, i < n → j < n → D i = D j → i = j) (hDN : ∀ i, i < n → D i < N)
    (hs : ∀ T0 : Nat → Value, (∀ s, a0.tmps.getD s undef = T0 s) → M.Steps (M.R P D ks n N w.drew T0 a0.defers) 0 ops.toList)
    (hend : ∀ a w', a.defers = a0.defers → Below w.drew.heap.size w.drew w' → (∀ s, (∀ j, j < n → D j ≠ s) → a.tmps.getD s undef = a0.tmps.getD s undef) → (∀ j, j < n → ks j (a.tmps.getD (D j) undef) w') → Q .normal a w') : (Code.region id ops true).wp P Q a0 w :=
  M.region_inv2 n N D ks hm hn hN hst hD hDN hs (fun a w' _ => hend a w')

/-- The slots behind a region: those from lo on by what they hold, the others as they were. -/
theorem M.frame {A A0 : Array Value} {lo n : Nat} (hs : A.size = A0.size) (hn : lo + n ≤ A0.size) (hb : ∀ s, (s < lo ∨ lo + n ≤ s) → A.getD s undef = A0.getD s undef) :
    A = (A0.toList.take lo ++ ((List.range n).map fun i => A.getD (lo + i) undef) ++ A0.toList.drop (lo + n)).toArray := by
  have lk : ∀ (B : Array Value) (i : Nat), i < B.size → B.toList[i]? = some (B.getD i undef) := fun B i h => by simp [h]
  have hlt : (A0.toList.take lo).length = lo := by rw [List.length_take, Array.length_toList]; omega
  have hlm : ((List.range n).map fun i => A.getD (lo + i) undef).length = n := by simp
  have key : A.toList = A0.toList.take lo ++ ((List.range n).map fun i => A.getD (lo + i) undef) ++ A0.toList.drop (lo + n) := by
    apply List.ext_getElem?
    intro i
    by_cases c1 : i < lo
    · rw [List.getElem?_append_left (by rw [List.length_append]; omega), List.getElem?_append_left (by omega), List.getElem?_take, if_pos c1, lk A i (by omega), lk A0 i (by omega), hb i (.inl c1)]
    · by_cases c2 : i < lo + n
      · rw [List.getElem?_append_left (by rw [List.length_append]; omega), List.getElem?_append_right (by omega), hlt, List.getElem?_map, List.getElem?_range (show i - lo < n by omega), lk A i (by omega)]
        rw [Option.map_some, show lo + (i - lo) = i by omega]
      · rw [List.getElem?_append_right (by rw [List.length_append]; omega), List.length_append, hlt, hlm, List.getElem?_drop, show lo + n + (i - (lo + n)) = i by omega]
        by_cases c3 : i < A0.size
        · rw [lk A i (by omega), lk A0 i c3, hb i (.inr (by omega))]
        · rw [List.getElem?_eq_none (by rw [Array.length_toList]; omega), List.getElem?_eq_none (by rw [Array.length_toList]; omega)]
  rw [← key]
end
end Go.Proofs.YthnklabdjaiplaaDoor
