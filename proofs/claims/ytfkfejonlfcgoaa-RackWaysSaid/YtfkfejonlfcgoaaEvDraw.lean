import Derived.Test.YtfkfejonlfcgoaaEvSeq
namespace Go.Proofs.Ytfkfejonlfcgoaa.Ev
open Go Go.RowKit

/-! ## Static facts -/
theorem testBit_lor (a b i : Nat) : (a ||| b).testBit i = (a.testBit i || b.testBit i) := Nat.testBit_or _ _ _
theorem testBit_land (a b i : Nat) : (a &&& b).testBit i = (a.testBit i && b.testBit i) := Nat.testBit_and _ _ _
theorem testBit_pow (i j : Nat) : (2 ^ i).testBit j = decide (i = j) := Nat.testBit_two_pow ..

theorem orP_bit {anc : T Nat} : ∀ {l : List Nat} {i : Nat}, (orP anc l).testBit i = true → ∃ e ∈ l, e = i ∨ ((anc.get e).getD 0).testBit i = true
  | [], i, h => by simp [orP] at h
  | e :: es, i, h => by
    simp only [orP, testBit_lor, Bool.or_eq_true, testBit_pow, decide_eq_true_eq] at h
    rcases h with (h | h) | h
    · exact ⟨e, by simp, .inl h⟩
    · exact ⟨e, by simp, .inr h⟩
    · obtain ⟨e', h1, h2⟩ := orP_bit h
      exact ⟨e', List.mem_cons_of_mem _ h1, h2⟩
theorem orP_mem {anc : T Nat} : ∀ {l : List Nat} {e : Nat}, e ∈ l → (orP anc l).testBit e = true
  | _ :: es, e, h => by
    simp only [orP, testBit_lor, Bool.or_eq_true, testBit_pow, decide_eq_true_eq]
    rcases List.mem_cons.1 h with h | h
    · exact .inl (.inl h.symm)
    · exact .inr (orP_mem h)

/-- What 'ancs' gives: from j on each operation's mask, made of the masks before. -/
theorem ancs_spec : ∀ (os : List Oper) (j : Nat) (t : T Nat), (∀ i, j ≤ i → t.get i = none) →
    (∀ i, i < j → (ancs os j t).get i = t.get i) ∧
    (∀ k o, os[k]? = some o → ∃ t', (ancs os j t).get (j + k) = some (orP t' (preds o)) ∧ (∀ i, i < j + k → t'.get i = (ancs os j t).get i) ∧ (∀ i, j + k ≤ i → t'.get i = none))
  | [], j, t, _ => ⟨fun _ _ => rfl, fun k o h => by simp at h⟩
  | o :: os, j, t, hn => by
    have hn' : ∀ i, j + 1 ≤ i → (t.put j (orP t (preds o))).get i = none := fun i hi => by rw [T.get_put_ne _ _ _ (by omega)]; exact hn i (by omega)
    obtain ⟨h1, h2⟩ := ancs_spec os (j + 1) (t.put j (orP t (preds o))) hn'
    refine ⟨fun i hi => ?_, fun k o' hk => ?_⟩
    · simp only [ancs]; rw [h1 i (by omega), T.get_put_ne _ _ _ (by omega)]
    · cases k with
      | zero =>
        simp at hk; subst hk
        simp only [ancs]
        refine ⟨t, ?_, fun i hi => ?_, fun i hi => hn i (by omega)⟩
        · show (ancs os (j + 1) (t.put j (orP t (preds o)))).get j = _
          rw [h1 j (by omega), T.get_put_same]
        · rw [h1 i (by omega), T.get_put_ne _ _ _ (by omega)]
      | succ k =>
        simp only [ancs]
        obtain ⟨t', g1, g2, g3⟩ := h2 k o' (by simpa using hk)
        exact ⟨t', by rw [show j + (k + 1) = j + 1 + k by omega]; exact g1, fun i hi => g2 i (by omega), fun i hi => g3 i (by omega)⟩

/-- A set that holds the predecessors of each of its members holds all that its members' masks name. -/
theorem closed_anc {ops : List Oper} {L : Nat → Prop} {j : Nat} (hL : ∀ k o, k ≤ j → L k → ops[k]? = some o → ∀ e ∈ preds o, L e) : ∀ k, k ≤ j → L k → ∀ i, (an (ancs ops 0 .leaf) k).testBit i = true → L i := by
  intro k
  induction k using Nat.strongRecOn with
  | _ k ih =>
    intro hkj hk i hi
    have S := ancs_spec ops 0 .leaf (fun i _ => T.get_leaf i)
    cases ho : ops[k]? with
    | none =>
      exfalso
      have : ∀ (os : List Oper) (j : Nat) (t : T Nat) (i : Nat), j + os.length ≤ i → (ancs os j t).get i = t.get i := by
        intro os
        induction os with
        | nil => intro j t i _; rfl
        | cons o os ih => intro j t i h; simp only [ancs]; rw [ih _ _ _ (by simp at h; omega), T.get_put_ne _ _ _ (by simp at h; omega)]
      have hge : ops.length ≤ k := List.getElem?_eq_none_iff.1 ho
      unfold an at hi
      rw [this ops 0 .leaf k (by omega)] at hi
      simp [T.get_leaf] at hi
    | some o =>
      obtain ⟨t', g1, g2, g3⟩ := S.2 k o ho
      rw [Nat.zero_add] at g1 g2 g3
      unfold an at hi
      rw [g1] at hi
      simp only [Option.getD_some] at hi
      obtain ⟨e, he, hei⟩ := orP_bit hi
      have hLe := hL k o hkj hk ho e he
      rcases hei with rfl | hei
      · exact hLe
      · by_cases hek : e < k
        · rw [g2 e hek] at hei
          exact ih e hek (by omega) hLe i hei
        · rw [g3 e (by omega)] at hei
          simp at hei

theorem wrs_spec : ∀ {os : List Oper} {j : Nat} {t wr : T Nat}, wrs os j t = some wr →
    (∀ d i, t.get d = some i → wr.get d = some i) ∧ (∀ k o d, os[k]? = some o → o.dst = some d → wr.get d = some (j + k)) ∧
    (∀ d i, wr.get d = some i → t.get d = some i ∨ ∃ k o, i = j + k ∧ os[k]? = some o ∧ o.dst = some d)
  | [], j, t, wr, e => by
    simp only [wrs, Option.some.injEq] at e; subst e
    exact ⟨fun _ _ h => h, fun k o d h => by simp at h, fun _ _ h => .inl h⟩
  | o :: os, j, t, wr, e => by
    simp only [wrs] at e
    split at e
    · rename_i hd
      obtain ⟨h1, h2, h3⟩ := wrs_spec e
      refine ⟨h1, fun k o' d hk hod => ?_, fun d i h => ?_⟩
      · cases k with
        | zero => simp at hk; subst hk; rw [hd] at hod; cases hod
        | succ k => rw [show j + (k + 1) = j + 1 + k by omega]; exact h2 k o' d (by simpa using hk) hod
      · rcases h3 d i h with h | ⟨k, o', hi, hk, hod⟩
        · exact .inl h
        · exact .inr ⟨k + 1, o', by omega, by simpa using hk, hod⟩
    · rename_i d0 hd
      split at e
      case h_2 => cases e
      rename_i hn
      obtain ⟨h1, h2, h3⟩ := wrs_spec e
      refine ⟨fun d i h => ?_, fun k o' d hk hod => ?_, fun d i h => ?_⟩
      · refine h1 d i ?_
        have : d ≠ d0 := by rintro rfl; rw [hn] at h; cases h
        rw [T.get_put_ne _ _ _ this]; exact h
      · cases k with
        | zero =>
          simp at hk; subst hk
          rw [hd] at hod; cases hod
          rw [Nat.add_zero]; exact h1 _ _ (T.get_put_same _ _ _)
        | succ k => rw [show j + (k + 1) = j + 1 + k by omega]; exact h2 k o' d (by simpa using hk) hod
      · rcases h3 d i h with h | ⟨k, o', hi, hk, hod⟩
        · by_cases hdd : d = d0
          · subst hdd; rw [T.get_put_same] at h; cases h
            exact .inr ⟨0, o, by omega, by simp, hd⟩
          · rw [T.get_put_ne _ _ _ hdd] at h; exact .inl h
        · exact .inr ⟨k + 1, o', by omega, by simpa using hk, hod⟩

theorem xsOf_spec : ∀ {os : List Oper} {j i : Nat}, i ∈ xsOf os j ↔ ∃ k o, i = j + k ∧ os[k]? = some o ∧ kindOf o.op = .x
  | [], j, i => by simp [xsOf]
  | o :: os, j, i => by
    have ih := fun i => xsOf_spec (os := os) (j := j + 1) (i := i)
    simp only [xsOf]
    constructor
    · intro h
      split at h
      · rename_i hk
        rcases List.mem_cons.1 h with rfl | h
        · exact ⟨0, o, by omega, by simp, hk⟩
        · obtain ⟨k, o', h1, h2, h3⟩ := (ih i).1 h
          exact ⟨k + 1, o', by omega, by simpa using h2, h3⟩
      · obtain ⟨k, o', h1, h2, h3⟩ := (ih i).1 h
        exact ⟨k + 1, o', by omega, by simpa using h2, h3⟩
    · rintro ⟨k, o', h1, h2, h3⟩
      cases k with
      | zero =>
        simp at h2; subst h2
        rw [h3]; simp; omega
      | succ k =>
        have := (ih i).2 ⟨k, o', by omega, by simpa using h2, h3⟩
        split
        · exact List.mem_cons_of_mem _ this
        · exact this
theorem xsOf_lt : ∀ {os : List Oper} {j : Nat}, (xsOf os j).Pairwise (· < ·) ∧ ∀ i ∈ xsOf os j, j ≤ i
  | [], j => ⟨List.Pairwise.nil, fun i h => by simp [xsOf] at h⟩
  | o :: os, j => by
    obtain ⟨h1, h2⟩ := xsOf_lt (os := os) (j := j + 1)
    simp only [xsOf]
    split
    · refine ⟨List.Pairwise.cons (fun i hi => by have := h2 i hi; omega) h1, fun i hi => ?_⟩
      rcases List.mem_cons.1 hi with rfl | hi
      · exact Nat.le_refl _
      · have := h2 i hi; omega
    · exact ⟨h1, fun i hi => by have := h2 i hi; omega⟩
theorem maskOf_bit : ∀ {l : List Nat} {i : Nat}, (maskOf l).testBit i = true ↔ i ∈ l
  | [], i => by simp [maskOf]
  | x :: xs, i => by
    simp only [maskOf, testBit_lor, testBit_pow, Bool.or_eq_true, decide_eq_true_eq, List.mem_cons, maskOf_bit (l := xs)]
    constructor
    · rintro (h | h)
      · exact .inl h.symm
      · exact .inr h
    · rintro (h | h)
      · exact .inl h.symm
      · exact .inr h
theorem predsOk_spec : ∀ {os : List Oper} {j : Nat}, predsOk os j = true → ∀ k o, os[k]? = some o → ∀ e ∈ preds o, e < j + k
  | [], j, _, k, o, h => by simp at h
  | o :: os, j, h, k, o', hk => by
    simp only [predsOk, Bool.and_eq_true, List.all_eq_true] at h
    cases k with
    | zero => simp at hk; subst hk; intro e he; simpa [Nat.blt_eq] using h.1 e he
    | succ k => intro e he; have := predsOk_spec h.2 k o' (by simpa using hk) e he; omega

/-! ## Equal values -/
mutual
theorem vsame_eq : ∀ (u v : Value), vsame u v = true → u = v
  | .int k n, v, h => by
    cases v <;> simp [vsame] at h; obtain ⟨rfl, rfl⟩ := h; rfl
  | .bool a, v, h => by
    cases v <;> simp [vsame] at h; subst h; rfl
  | .string a, v, h => by
    cases v <;> simp [vsame] at h
    rename_i b
    congr 1; exact ByteArray.ext (by cases hh : a.data; cases hh2 : b.data; simp_all)
  | .pointer none, v, h => by
    cases v with
    | pointer b => cases b <;> simp_all [vsame]
    | _ => simp [vsame] at h
  | .pointer (some _), v, h => by simp [vsame] at h
  | .slice none a b, v, h => by
    cases v with
    | slice c d e => cases c <;> simp_all [vsame]
    | _ => simp [vsame] at h
  | .slice (some _) _ _, v, h => by simp [vsame] at h
  | .map none, v, h => by
    cases v with
    | map b => cases b <;> simp_all [vsame]
    | _ => simp [vsame] at h
  | .map (some _), v, h => by simp [vsame] at h
  | .nilFunc, v, h => by cases v <;> simp [vsame] at h; rfl
  | .nilIface, v, h => by cases v <;> simp [vsame] at h; rfl
  | .iface t x, v, h => by
    cases v <;> simp [vsame] at h
    obtain ⟨h1, h2⟩ := h
    rw [h1, vsame_eq x _ h2]
  | .agg ⟨l⟩, v, h => by
    cases v with
    | agg m => obtain ⟨m⟩ := m; simp [vsame] at h; rw [vsameL_eq l m h]
    | _ => simp [vsame] at h
  | .tuple ⟨l⟩, v, h => by
    cases v with
    | tuple m => obtain ⟨m⟩ := m; simp [vsame] at h; rw [vsameL_eq l m h]
    | _ => simp [vsame] at h
  | .func f ⟨a⟩ ⟨b⟩, v, h => by
    cases v with
    | func g c d =>
      obtain ⟨c⟩ := c; obtain ⟨d⟩ := d
      simp [vsame] at h
      rw [h.1.1, vsameL_eq a c h.1.2, vsameL_eq b d h.2]
    | _ => simp [vsame] at h
  | .float _ _, v, h => by simp [vsame] at h
  | .complex _ _ _, v, h => by simp [vsame] at h
  | .chan _, v, h => by simp [vsame] at h
theorem vsameL_eq : ∀ (l m : List Value), vsameL l m = true → l = m
  | [], m, h => by cases m <;> simp [vsameL] at h; rfl
  | a :: l, m, h => by
    cases m with
    | nil => simp [vsameL] at h
    | cons b m =>
      simp only [vsameL, Bool.and_eq_true] at h
      rw [vsame_eq a b h.1, vsameL_eq l m h.2]
end
mutual
theorem same_eq : ∀ (u v : AV), u.same v = true → u = v
  | .sc x, v, h => by
    cases v <;> simp [AV.same] at h
    rw [vsame_eq _ _ h]
  | .ptr i k, v, h => by cases v <;> simp [AV.same] at h; rw [h.1, h.2]
  | .sl i k n z c, v, h => by cases v <;> simp [AV.same] at h; obtain ⟨⟨⟨⟨rfl, rfl⟩, rfl⟩, rfl⟩, rfl⟩ := h; rfl
  | .mp i, v, h => by cases v <;> simp [AV.same] at h; rw [h]
  | .fn f l m, v, h => by
    cases v <;> simp [AV.same] at h
    rw [h.1.1, sameL_eq _ _ h.1.2, sameL_eq _ _ h.2]
  | .ifc t x, v, h => by
    cases v <;> simp [AV.same] at h
    rw [h.1, same_eq _ _ h.2]
  | .agg l, v, h => by cases v <;> simp [AV.same] at h; rw [sameL_eq _ _ h]
  | .tup l, v, h => by cases v <;> simp [AV.same] at h; rw [sameL_eq _ _ h]
  | .res _ _ _, v, h => by cases v <;> simp [AV.same] at h
theorem sameL_eq : ∀ (l m : List AV), sameL l m = true → l = m
  | [], m, h => by cases m <;> simp [sameL] at h; rfl
  | a :: l, m, h => by
    cases m with
    | nil => simp [sameL] at h
    | cons b m =>
      simp only [sameL, Bool.and_eq_true] at h
      rw [same_eq a b h.1, sameL_eq l m h.2]
end
end Go.Proofs.Ytfkfejonlfcgoaa.Ev
