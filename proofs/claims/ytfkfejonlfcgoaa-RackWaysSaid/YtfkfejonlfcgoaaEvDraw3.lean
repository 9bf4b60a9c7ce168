import Derived.Test.YtfkfejonlfcgoaaEvDraw2
namespace Go.Proofs.Ytfkfejonlfcgoaa.Ev
open Go Go.RowKit

section
variable {P : Program} {ops : List Oper} {anc wr : T Nat} {xm : Nat} {tm : T AV} {call : FuncId → List AV → St → Option (AV × St)}

/-- What is known of the values that a phase holds. -/
structure PhOk (P : Program) (ops : List Oper) (anc wr : T Nat) (tm : T AV) (ph : Ph) : Prop where
  vals : ∀ i u o, ops[i]? = some o → kindOf o.op ≠ .x → ph.vals.get i = some u → ∃ vals', Vle vals' ph.vals ∧
    ((wantedA ops (slotG wr anc tm vals' i) o = some false ∧ u = .sc undef) ∨
     (wantedA ops (slotG wr anc tm vals' i) o = some true ∧ ((kindOf o.op = .q ∧ ∃ h', evQ P (envG wr anc tm vals' i) h' o = some u) ∨
       (kindOf o.op = .f ∧ ∃ id ao, evF P (envG wr anc tm vals' i) id o = some (u, ao) ∧ (ph.gone.testBit i = false → (i, id, ao) ∈ ph.pend)))))
  pend : ∀ e ∈ ph.pend, ∃ o vals' u, ops[e.1]? = some o ∧ kindOf o.op = .f ∧ Vle vals' ph.vals ∧ wantedA ops (slotG wr anc tm vals' e.1) o = some true ∧
    evF P (envG wr anc tm vals' e.1) e.2.1 o = some (u, e.2.2) ∧ ph.vals.get e.1 = some u
  apart : Apart ph.pend
  lt : ∀ e ∈ ph.pend, e.2.1 < ph.st.nx

/-- Every operation that may be done in this phase has its value, and what looks at memory sees it now. -/
def PassOk (P : Program) (ops : List Oper) (anc wr : T Nat) (xm : Nat) (tm : T AV) (ph : Ph) (i : Nat) : Prop :=
  ∀ o, ops[i]? = some o → kindOf o.op ≠ .x → possible anc xm i ph = true → ∃ u, ph.vals.get i = some u ∧
    (heapOp o.op = true → (∃ b, wantedA ops (slotG wr anc tm ph.vals i) o = some b) ∧ (wantedA ops (slotG wr anc tm ph.vals i) o = some true → ∃ vals' pend', Vle vals' ph.vals ∧ (∀ e ∈ pend', e ∈ ph.pend) ∧ Apart pend' ∧
      evQ P (envG wr anc tm vals' i) (viewP (an anc i).testBit pend' ph.st.h) o = some u))

/-- How a pass changes a phase. -/
structure PhLe (ph ph' : Ph) : Prop where
  vals : Vle ph.vals ph'.vals
  heap : ph'.st.h = ph.st.h
  nx : ph.st.nx ≤ ph'.st.nx
  pend : ∀ e ∈ ph.pend, e ∈ ph'.pend
  newp : ∀ e ∈ ph'.pend, e ∈ ph.pend ∨ (ph.st.nx ≤ e.2.1 ∧ ph.vals.get e.1 = none)
  done : ph'.done = ph.done
  gone : ph'.gone = ph.gone
theorem PhLe.refl (ph : Ph) : PhLe ph ph := ⟨Vle.refl _, rfl, Nat.le_refl _, fun _ h => h, fun _ h => .inl h, rfl, rfl⟩
theorem PhLe.trans {a b c : Ph} (h : PhLe a b) (k : PhLe b c) : PhLe a c := by
  refine ⟨h.vals.trans k.vals, k.heap.trans h.heap, Nat.le_trans h.nx k.nx, fun e he => k.pend e (h.pend e he), fun e he => ?_, k.done.trans h.done, k.gone.trans h.gone⟩
  rcases k.newp e he with h1 | h1
  · exact h.newp e h1
  · refine .inr ⟨Nat.le_trans h.nx h1.1, ?_⟩
    cases hg : a.vals.get e.1 with
    | none => rfl
    | some v => have := h.vals _ _ hg; rw [h1.2] at this; cases this

theorem PassOk.mono {ph ph' : Ph} (hle : PhLe ph ph') {i : Nat} (h : PassOk P ops anc wr xm tm ph i) : PassOk P ops anc wr xm tm ph' i := by
  intro o ho hk hp
  have hp' : possible anc xm i ph = true := by
    unfold possible at hp ⊢; rw [hle.done, hle.gone] at hp; exact hp
  obtain ⟨u, h1, h2⟩ := h o ho hk hp'
  refine ⟨u, hle.vals _ _ h1, fun hh => ?_⟩
  obtain ⟨⟨b, hb⟩, h3⟩ := h2 hh
  have mono : ∀ c, wantedA ops (slotG wr anc tm ph.vals i) o = some c → wantedA ops (slotG wr anc tm ph'.vals i) o = some c := fun c hc => wantedA_mono (fun d v hd => slotG_mono hle.vals hd) hc
  refine ⟨⟨b, mono b hb⟩, fun ht => ?_⟩
  have hbt : b = true := by have := (mono b hb).symm.trans ht; simpa using this
  subst hbt
  obtain ⟨vals', pend', g1, g2, g3, g4⟩ := h3 hb
  exact ⟨vals', pend', g1.trans hle.vals, fun e he => hle.pend e (g2 e he), g3, by rw [hle.heap]; exact g4⟩

theorem heapOp_q' {op : Op} (h : heapOp op = true) (hk : kindOf op ≠ .x) : kindOf op = .q := by
  cases op with
  | call c =>
    have : kindOf (.call c) = .q ∨ kindOf (.call c) = .x := by
      simp only [kindOf]
      split <;> simp
    exact this.resolve_right hk
  | load => rfl
  | lookup => rfl
  | slice => rfl
  | _ => cases h
theorem heapOp_q {o : Oper} (h : heapOp o.op = true) (hk : kindOf o.op ≠ .x) : kindOf o.op = .q := heapOp_q' h hk

theorem oneG_ok {i : Nat} {o : Oper} (ho : ops[i]? = some o) (hk : kindOf o.op ≠ .x) {ph ph' : Ph} (hok : PhOk P ops anc wr tm ph) (e : oneG P ops anc wr tm i o ph = some ph') :
    PhLe ph ph' ∧ PhOk P ops anc wr tm ph' ∧ PassOk P ops anc wr xm tm ph' i := by
  unfold oneG at e
  split at e
  · -- the value is there
    rename_i u hu
    cases hh : heapOp o.op with
    | false =>
      rw [hh] at e; simp only [cond_false, Option.some.injEq] at e; subst e
      refine ⟨PhLe.refl _, hok, fun o' ho' _ _ => ?_⟩
      rw [ho] at ho'; cases ho'
      exact ⟨u, hu, fun h => by rw [hh] at h; cases h⟩
    | true =>
      rw [hh] at e; simp only [cond_true] at e
      split at e
      · cases e
      · rename_i hw
        simp only [Option.some.injEq] at e; subst e
        refine ⟨PhLe.refl _, hok, fun o' ho' _ _ => ?_⟩
        rw [ho] at ho'; cases ho'
        exact ⟨u, hu, fun _ => ⟨⟨_, hw⟩, fun h => by rw [hw] at h; cases h⟩⟩
      · rename_i hw
        split at e
        case h_2 => cases e
        rename_i v hv
        cases hs : v.same u with
        | false => rw [hs] at e; cases e
        | true =>
          rw [hs] at e; simp only [cond_true, Option.some.injEq] at e; subst e
          have := same_eq _ _ hs
          subst this
          refine ⟨PhLe.refl _, hok, fun o' ho' _ _ => ?_⟩
          rw [ho] at ho'; cases ho'
          exact ⟨v, hu, fun _ => ⟨⟨_, hw⟩, fun _ => ⟨ph.vals, ph.pend, Vle.refl _, fun _ h => h, hok.apart, hv⟩⟩⟩
  · rename_i hu
    have hput := fun v => Vle.put (a := ph.vals) hu v
    -- a new value, no new object
    have fin : ∀ u : AV, ((wantedA ops (slotG wr anc tm ph.vals i) o = some false ∧ u = .sc undef) ∨ (wantedA ops (slotG wr anc tm ph.vals i) o = some true ∧ kindOf o.op = .q ∧ evQ P (envG wr anc tm ph.vals i) (viewP (an anc i).testBit ph.pend ph.st.h) o = some u)) →
        PhLe ph { ph with vals := ph.vals.put i u } ∧ PhOk P ops anc wr tm { ph with vals := ph.vals.put i u } ∧ PassOk P ops anc wr xm tm { ph with vals := ph.vals.put i u } i := by
      intro u hcase
      refine ⟨⟨hput u, rfl, Nat.le_refl _, fun _ h => h, fun _ h => .inl h, rfl, rfl⟩, ⟨fun j v o' ho' hk' hv => ?_, fun e he => ?_, hok.apart, hok.lt⟩, fun o' ho' _ _ => ?_⟩
      · by_cases hj : j = i
        · subst hj
          rw [ho] at ho'; cases ho'
          simp only [T.get_put_same, Option.some.injEq] at hv; subst hv
          rcases hcase with h | ⟨h1, h2, h3⟩
          · exact ⟨ph.vals, hput u, .inl h⟩
          · exact ⟨ph.vals, hput u, .inr ⟨h1, .inl ⟨h2, _, h3⟩⟩⟩
        · simp only [T.get_put_ne _ _ _ hj] at hv
          obtain ⟨vals', g1, g2⟩ := hok.vals j v o' ho' hk' hv
          exact ⟨vals', g1.trans (hput u), g2⟩
      · obtain ⟨o', vals', u', g1, g2, g3, g4, g5, g6⟩ := hok.pend e he
        exact ⟨o', vals', u', g1, g2, g3.trans (hput u), g4, g5, hput u _ _ g6⟩
      · rw [ho] at ho'; cases ho'
        refine ⟨u, T.get_put_same _ _ _, fun _ => ?_⟩
        have mono : ∀ c, wantedA ops (slotG wr anc tm ph.vals i) o = some c → wantedA ops (slotG wr anc tm (ph.vals.put i u) i) o = some c := fun c hc => wantedA_mono (fun d v hd => slotG_mono (hput u) hd) hc
        rcases hcase with ⟨h1, h2⟩ | ⟨h1, h2, h3⟩
        · exact ⟨⟨_, mono _ h1⟩, fun ht => by have := (mono _ h1).symm.trans ht; simp at this⟩
        · exact ⟨⟨_, mono _ h1⟩, fun _ => ⟨ph.vals, ph.pend, hput u, fun _ h => h, hok.apart, h3⟩⟩
    split at e
    · cases e
    · rename_i hw
      simp only [Option.some.injEq] at e; subst e
      exact fin _ (.inl ⟨hw, rfl⟩)
    · rename_i hw
      split at e
      · rename_i hkq
        split at e
        case h_2 => cases e
        rename_i v hv
        simp only [Option.some.injEq] at e; subst e
        exact fin _ (.inr ⟨hw, hkq, hv⟩)
      · rename_i hkf
        split at e
        case h_2 => cases e
        rename_i v ao hv
        simp only [Option.some.injEq] at e; subst e
        refine ⟨⟨hput v, rfl, Nat.le_succ _, fun e he => List.mem_append_left _ he, fun e he => ?_, rfl, rfl⟩, ⟨fun j u o' ho' hk' hu' => ?_, fun e he => ?_, ?_, fun e he => ?_⟩, fun o' ho' _ _ => ?_⟩
        · rcases List.mem_append.1 he with h | h
          · exact .inl h
          · simp only [List.mem_singleton] at h; subst h; exact .inr ⟨Nat.le_refl _, hu⟩
        · by_cases hj : j = i
          · subst hj
            rw [ho] at ho'; cases ho'
            simp only [T.get_put_same, Option.some.injEq] at hu'; subst hu'
            exact ⟨ph.vals, hput v, .inr ⟨hw, .inr ⟨hkf, _, _, hv, fun _ => List.mem_append_right _ (by simp)⟩⟩⟩
          · simp only [T.get_put_ne _ _ _ hj] at hu'
            obtain ⟨vals', g1, g2⟩ := hok.vals j u o' ho' hk' hu'
            refine ⟨vals', g1.trans (hput v), ?_⟩
            rcases g2 with g | ⟨g, g' | ⟨g', id, ao', g3, g4⟩⟩
            · exact .inl g
            · exact .inr ⟨g, .inl g'⟩
            · exact .inr ⟨g, .inr ⟨g', id, ao', g3, fun hg => List.mem_append_left _ (g4 hg)⟩⟩
        · rcases List.mem_append.1 he with h | h
          · obtain ⟨o', vals', u', g1, g2, g3, g4, g5, g6⟩ := hok.pend e h
            exact ⟨o', vals', u', g1, g2, g3.trans (hput v), g4, g5, hput v _ _ g6⟩
          · simp only [List.mem_singleton] at h; subst h
            exact ⟨o, ph.vals, v, ho, hkf, hput v, hw, hv, T.get_put_same _ _ _⟩
        · refine List.pairwise_append.2 ⟨hok.apart, List.pairwise_singleton _ _, fun p hp q hq => ?_⟩
          simp only [List.mem_singleton] at hq; subst hq
          refine ⟨?_, Nat.ne_of_lt (hok.lt p hp)⟩
          rintro hpi
          obtain ⟨_, _, _, _, _, _, _, _, g⟩ := hok.pend p hp
          rw [hpi, hu] at g; cases g
        · rcases List.mem_append.1 he with h | h
          · exact Nat.lt_succ_of_lt (hok.lt e h)
          · simp only [List.mem_singleton] at h; subst h; exact Nat.lt_succ_self _
        · rw [ho] at ho'; cases ho'
          refine ⟨v, T.get_put_same _ _ _, fun hh => ?_⟩
          have := heapOp_q hh hk
          rw [hkf] at this; cases this
      · cases e

theorem passG_ok : ∀ (os : List Oper) (i : Nat), ops.drop i = os → ∀ {ph ph' : Ph}, PhOk P ops anc wr tm ph → (∀ j, j < i → PassOk P ops anc wr xm tm ph j) → passG P ops anc wr xm tm os i ph = some ph' →
    PhLe ph ph' ∧ PhOk P ops anc wr tm ph' ∧ ∀ j, PassOk P ops anc wr xm tm ph' j
  | [], i, hd, ph, ph', hok, hp, e => by
    simp only [passG, Option.some.injEq] at e; subst e
    refine ⟨PhLe.refl _, hok, fun j => ?_⟩
    by_cases hj : j < i
    · exact hp j hj
    · intro o ho
      have : ops.length ≤ i := by
        rcases Nat.lt_or_ge i ops.length with h | h
        · rw [List.drop_eq_getElem_cons h] at hd; cases hd
        · exact h
      rw [List.getElem?_eq_none (by omega)] at ho; cases ho
  | o :: os, i, hd, ph, ph', hok, hp, e => by
    have hlt : i < ops.length := by
      rcases Nat.lt_or_ge i ops.length with h | h
      · exact h
      · rw [List.drop_eq_nil_of_le h] at hd; cases hd
    have ho : ops[i]? = some o := by
      rw [List.drop_eq_getElem_cons hlt] at hd
      rw [List.getElem?_eq_getElem hlt, (List.cons.inj hd).1]
    have hd' : ops.drop (i + 1) = os := by
      rw [List.drop_eq_getElem_cons hlt] at hd
      exact (List.cons.inj hd).2
    simp only [passG] at e
    have next : ∀ ph1, PhLe ph ph1 → PhOk P ops anc wr tm ph1 → PassOk P ops anc wr xm tm ph1 i → passG P ops anc wr xm tm os (i + 1) ph1 = some ph' →
        PhLe ph ph' ∧ PhOk P ops anc wr tm ph' ∧ ∀ j, PassOk P ops anc wr xm tm ph' j := by
      intro ph1 hle hok1 hpi e1
      obtain ⟨a, b, c⟩ := passG_ok os (i + 1) hd' hok1 (fun j hj => by
        by_cases hji : j = i
        · subst hji; exact hpi
        · exact (hp j (by omega)).mono hle) e1
      exact ⟨hle.trans a, b, c⟩
    split at e
    · rename_i hk
      exact next ph (PhLe.refl _) hok (fun o' ho' hk' => by rw [ho] at ho'; cases ho'; exact absurd hk hk') e
    · rename_i hk
      cases hpos : possible anc xm i ph with
      | false =>
        rw [hpos] at e; simp only [cond_false] at e
        exact next ph (PhLe.refl _) hok (fun o' _ _ hp' => by rw [hpos] at hp'; cases hp') e
      | true =>
        rw [hpos] at e; simp only [cond_true] at e
        split at e
        case h_2 => cases e
        rename_i ph1 h1
        obtain ⟨a, b, c⟩ := oneG_ok (xm := xm) ho (fun h => hk h) hok h1
        exact next ph1 a b c e
end
end Go.Proofs.Ytfkfejonlfcgoaa.Ev
