import Derived.Test.YtfkfejonlfcgoaaEvDraw
namespace Go.Proofs.Ytfkfejonlfcgoaa.Ev
open Go Go.RowKit

/-! ## Views -/
abbrev Pend := List (Nat × Nat × AO)
/-- The pending objects have numbers of their own. -/
def Apart (l : Pend) : Prop := l.Pairwise fun p q => p.1 ≠ q.1 ∧ p.2.1 ≠ q.2.1
theorem Apart.uniq1 : ∀ {l : Pend}, Apart l → ∀ {e e' : Nat × Nat × AO}, e ∈ l → e' ∈ l → e.1 = e'.1 → e = e'
  | x :: l, hd, e, e', he, he', h => by
    have P := List.pairwise_cons.1 hd
    rcases List.mem_cons.1 he with h1 | h1 <;> rcases List.mem_cons.1 he' with h2 | h2
    · rw [h1, h2]
    · subst h1; exact absurd h (P.1 _ h2).1
    · subst h2; exact absurd h.symm (P.1 _ h1).1
    · exact Apart.uniq1 P.2 h1 h2 h
theorem Apart.uniq2 : ∀ {l : Pend}, Apart l → ∀ {e e' : Nat × Nat × AO}, e ∈ l → e' ∈ l → e.2.1 = e'.2.1 → e = e'
  | x :: l, hd, e, e', he, he', h => by
    have P := List.pairwise_cons.1 hd
    rcases List.mem_cons.1 he with h1 | h1 <;> rcases List.mem_cons.1 he' with h2 | h2
    · rw [h1, h2]
    · subst h1; exact absurd h (P.1 _ h2).2
    · subst h2; exact absurd h.symm (P.1 _ h1).2
    · exact Apart.uniq2 P.2 h1 h2 h
theorem viewP_other {p : Nat → Bool} : ∀ {l : Pend} {h : T AO} {k : Nat}, (∀ e ∈ l, p e.1 = true → e.2.1 ≠ k) → (viewP p l h).get k = h.get k
  | [], _, _, _ => rfl
  | (j, id, ao) :: l, h, k, H => by
    simp only [viewP]
    rw [viewP_other (fun e he => H e (List.mem_cons_of_mem _ he))]
    cases hp : p j with
    | false => rfl
    | true => exact T.get_put_ne _ _ _ (fun e => H (j, id, ao) (by simp) hp e.symm)
theorem viewP_mem {p : Nat → Bool} : ∀ {l : Pend} {h : T AO}, Apart l → ∀ e ∈ l, p e.1 = true → (viewP p l h).get e.2.1 = some e.2.2
  | (j, id, ao) :: l, h, hd, e, he, hp => by
    simp only [viewP]
    rcases List.mem_cons.1 he with rfl | he
    · simp only at hp
      rw [viewP_other (fun e' he' _ => fun h' => ((List.pairwise_cons.1 hd).1 e' he').2 h'.symm), hp]
      exact T.get_put_same _ _ _
    · exact viewP_mem (List.pairwise_cons.1 hd).2 e he hp
theorem viewP_inv {p : Nat → Bool} {l : Pend} {h : T AO} (hd : Apart l) {k : Nat} {o : AO} (hg : (viewP p l h).get k = some o) :
    (∃ e ∈ l, p e.1 = true ∧ e.2.1 = k ∧ e.2.2 = o) ∨ ((∀ e ∈ l, p e.1 = true → e.2.1 ≠ k) ∧ h.get k = some o) := by
  by_cases hex : ∃ e ∈ l, p e.1 = true ∧ e.2.1 = k
  · obtain ⟨e, he, hp, rfl⟩ := hex
    rw [viewP_mem hd e he hp] at hg
    exact .inl ⟨e, he, hp, rfl, Option.some.inj hg⟩
  · have H : ∀ e ∈ l, p e.1 = true → e.2.1 ≠ k := fun e he hp hk => hex ⟨e, he, hp, hk⟩
    rw [viewP_other H] at hg
    exact .inr ⟨H, hg⟩
theorem viewP_sub {p q : Nat → Bool} {l l' : Pend} {h : T AO} (hd : Apart l) (hd' : Apart l') (hl : ∀ e ∈ l, p e.1 = true → e ∈ l' ∧ q e.1 = true) (hn : ∀ e ∈ l', h.get e.2.1 = none) {k : Nat} {o : AO}
    (hg : (viewP p l h).get k = some o) : (viewP q l' h).get k = some o := by
  rcases viewP_inv hd hg with ⟨e, he, hp, rfl, rfl⟩ | ⟨_, hg⟩
  · obtain ⟨h1, h2⟩ := hl e he hp
    exact viewP_mem hd' e h1 h2
  · rw [viewP_other (fun e he _ hk => by rw [← hk, hn e he] at hg; cases hg)]; exact hg

theorem RelH.sub {ρ : Rho} {h h1 : T AO} {nx : Nat} {w : World} (H : RelH ρ ⟨h, nx⟩ w) (hs : ∀ k o, h1.get k = some o → h.get k = some o) : RelH ρ ⟨h1, nx⟩ w := by
  refine ⟨fun i o hg => (H.obj i o (hs i o hg)).mono (Ext.refl _) (fun _ _ => rfl) (fun cl k s _ => ?_), H.dom, fun i j oi oj p q hi hj => H.sep i j oi oj p q (hs _ _ hi) (hs _ _ hj), fun i c lo hi cls t hg => H.stamp _ _ _ _ _ _ (hs _ _ hg), H.pos⟩
  rintro ⟨c, lo, hi, cl', t, hg, ht⟩
  exact ⟨c, lo, hi, cl', t, hs _ _ hg, ht⟩
theorem RelH.up {ρ : Rho} {h : T AO} {nx nx' : Nat} {w : World} (H : RelH ρ ⟨h, nx⟩ w) (hn : nx ≤ nx') : RelH ρ ⟨h, nx'⟩ w :=
  ⟨H.obj, fun i p hp => ⟨Nat.lt_of_lt_of_le (H.dom i p hp).1 hn, (H.dom i p hp).2⟩, H.sep, fun _ _ _ _ _ _ hg =>
    ⟨(H.stamp _ _ _ _ _ _ hg).1, fun k v s h => Nat.lt_of_lt_of_le ((H.stamp _ _ _ _ _ _ hg).2.1 k v s h) hn, fun k s h => Nat.lt_of_lt_of_le ((H.stamp _ _ _ _ _ _ hg).2.2 k s h) hn⟩, Nat.lt_of_lt_of_le H.pos hn⟩
theorem Fr.congr {ρ0 : Rho} {st0 : St} {w0 : World} {ρ : Rho} {h h1 : T AO} {nx nx' : Nat} {w : World} (F : Fr ρ0 st0 w0 ρ ⟨h, nx⟩ w) (hs : ∀ k o, h1.get k = some o → h.get k = some o) (hn : nx ≤ nx') : Fr ρ0 st0 w0 ρ ⟨h1, nx'⟩ w :=
  ⟨Nat.le_trans F.nx hn, F.old, F.new, fun i o hg => F.ids i o (hs _ _ hg), F.size, F.os, F.tape, F.output, F.keep, fun i o c hg => F.cls i o c (hs _ _ hg)⟩

/-- An object whose class is its own. -/
def OwnCls (i : Nat) (o : AO) : Prop := ∀ c, o.cls? = some c → c = i

/-- THE FRAME: what was run over a part of the objects holds beside the rest. -/
theorem RelH.frame {ρ : Rho} {h1 hL : T AO} {nx : Nat} {w : World} (H : RelH ρ ⟨hL, nx⟩ w) (hs : ∀ k o, h1.get k = some o → hL.get k = some o)
    {ρ' : Rho} {st' : St} {w' : World} (H' : RelH ρ' st' w') (F : Fr ρ ⟨h1, nx⟩ w ρ' st' w') {hN : T AO}
    (hN1 : ∀ k o, hN.get k = some o → (st'.h.get k = some o ∨ (h1.get k = none ∧ hL.get k = some o ∧ OwnCls k o ∧ (∀ j oj, h1.get j = some oj → oj.cls? ≠ some k))))
    (_hN2 : ∀ k o, st'.h.get k = some o → hN.get k = some o) : RelH ρ' ⟨hN, st'.nx⟩ w' ∧ Fr ρ ⟨hL, nx⟩ w ρ' ⟨hN, st'.nx⟩ w' := by
  have hext : Ext ρ ρ' := F.ext (H.sub hs)
  -- a block of the rest is no block of the part
  have hrest : ∀ k o p, h1.get k = none → hL.get k = some o → OwnCls k o → (∀ j oj, h1.get j = some oj → oj.cls? ≠ some k) → ρ k = some p → ¬ Img ρ h1 p.1 := by
    rintro k o p hk1 hkL hown hno hp ⟨j, oj, q, hj, hq, hqp⟩
    have hjk : j ≠ k := by rintro rfl; rw [hk1] at hj; cases hj
    obtain ⟨c, hc1, hc2, _⟩ := H.sep j k oj o q p (hs _ _ hj) hkL hjk hq hp hqp
    have := hown c hc2
    subst this
    exact hno j oj hj hc1
  have hkeep : ∀ k o p, h1.get k = none → hL.get k = some o → OwnCls k o → (∀ j oj, h1.get j = some oj → oj.cls? ≠ some k) → ρ k = some p → w'.heap[p.1]? = w.heap[p.1]? := fun k o p a b c d e =>
    F.keep p.1 (H.dom _ _ e).2 (hrest k o p a b c d e)
  -- the part's new objects do not touch the rest's blocks
  have hnew : ∀ k o p j oj q, h1.get k = none → hL.get k = some o → OwnCls k o → (∀ j oj, h1.get j = some oj → oj.cls? ≠ some k) → ρ k = some p → st'.h.get j = some oj → ρ' j = some q → q.1 = p.1 → False := by
    intro k o p j oj q a b c d hp hj hq hqp
    by_cases hjn : j < nx
    · obtain ⟨o', ho'⟩ := F.ids j oj hj hjn
      rw [F.old j hjn] at hq
      exact hrest k o p a b c d hp ⟨j, o', q, ho', hq, hqp⟩
    · rcases F.new j q (Nat.le_of_not_lt hjn) hq with h | h
      · have := (H.dom _ _ hp).2; omega
      · rw [hqp] at h; exact hrest k o p a b c d hp h
  constructor
  · refine ⟨fun i o hg => ?_, fun i p hp => H'.dom i p hp, fun i j oi oj p q hi hj hij h1' h2' h3' => ?_, fun i c lo hi cls t hg => ?_, H'.pos⟩
    · rcases hN1 i o hg with h | ⟨a, b, c, d⟩
      · refine (H'.obj i o h).mono (Ext.refl _) (fun _ _ => rfl) (fun cl k s hcl => ?_)
        rintro ⟨c2, lo, hi, cl', t, hr, ht⟩
        rcases hN1 cl _ hr with h' | ⟨a', b', c', d'⟩
        · exact ⟨c2, lo, hi, cl', t, h', ht⟩
        · exfalso
          have hcl' : cl < nx := H.has b'
          obtain ⟨j, oj, hj, hjc⟩ := F.cls i o cl h hcl hcl'
          exact d' j oj hj hjc
      · obtain ⟨p, hp⟩ := (H.obj i o b).at
        refine (H.obj i o b).mono hext (fun q hq => ?_) (fun cl k s hcl => ?_)
        · exact hkeep i o q a b c d hq
        · rintro ⟨c2, lo, hi, cl', t, hr, ht⟩
          have := c cl hcl
          subst this
          rw [hg] at hr; cases hr
          exact ⟨c2, lo, hi, cl', t, b, ht⟩
    · have low : ∀ m om s, h1.get m = none → hL.get m = some om → ρ' m = some s → ρ m = some s := by
        intro m om s _ b hs'
        rw [F.old m (H.has b)] at hs'; exact hs'
      rcases hN1 i oi hi with hi' | ⟨ai, bi, ci, di⟩
      · rcases hN1 j oj hj with hj' | ⟨aj, bj, cj, dj⟩
        · exact H'.sep i j oi oj p q hi' hj' hij h1' h2' h3'
        · exact (hnew j oj q i oi p aj bj cj dj (low j oj q aj bj h2') hi' h1' h3').elim
      · rcases hN1 j oj hj with hj' | ⟨aj, bj, cj, dj⟩
        · exact (hnew i oi p j oj q ai bi ci di (low i oi p ai bi h1') hj' h2' h3'.symm).elim
        · exact H.sep i j oi oj p q bi bj hij (low i oi p ai bi h1') (low j oj q aj bj h2') h3'
    · rcases hN1 i _ hg with h | ⟨a, b, c, d⟩
      · exact H'.stamp _ _ _ _ _ _ h
      · have S := H.stamp _ _ _ _ _ _ b
        obtain ⟨q, hq⟩ := S.1
        have hnx : nx ≤ st'.nx := F.nx
        exact ⟨⟨q, hext _ _ hq⟩, fun k v s h => Nat.lt_of_lt_of_le (S.2.1 k v s h) hnx, fun k s h => Nat.lt_of_lt_of_le (S.2.2 k s h) hnx⟩
  · refine ⟨F.nx, F.old, fun i p hi hp => (F.new i p hi hp).imp id ?_, fun i o hg hi => ?_, F.size, F.os, F.tape, F.output, fun b hb hn => F.keep b hb (fun hi => hn ?_), fun i o c hg hc hlt => ?_⟩
    · rintro ⟨j, oj, q, a, b⟩; exact ⟨j, oj, q, hs _ _ a, b⟩
    · rcases hN1 i o hg with h | ⟨_, b, _⟩
      · obtain ⟨o', ho'⟩ := F.ids i o h hi
        exact ⟨o', hs _ _ ho'⟩
      · exact ⟨o, b⟩
    · obtain ⟨j, oj, q, a, b⟩ := hi; exact ⟨j, oj, q, hs _ _ a, b⟩
    · rcases hN1 i o hg with h | ⟨_, b, _⟩
      · obtain ⟨j, oj, a, b⟩ := F.cls i o c h hc hlt
        exact ⟨j, oj, hs _ _ a, b⟩
      · exact ⟨i, o, b, hc⟩

/-! ## Values that grow -/
def Vle (a b : T AV) : Prop := ∀ i v, a.get i = some v → b.get i = some v
theorem Vle.refl (a : T AV) : Vle a a := fun _ _ h => h
theorem Vle.trans {a b c : T AV} (h : Vle a b) (k : Vle b c) : Vle a c := fun i v e => k i v (h i v e)
theorem Vle.put {a : T AV} {i : Nat} (h : a.get i = none) (v : AV) : Vle a (a.put i v) := fun j u e => by
  have : j ≠ i := by rintro rfl; rw [h] at e; cases e
  rw [T.get_put_ne _ _ _ this]; exact e
theorem slotG_mono {wr anc : T Nat} {tm vals vals' : T AV} (h : Vle vals vals') {i t : Nat} {v : AV} (e : slotG wr anc tm vals i t = some v) : slotG wr anc tm vals' i t = some v := by
  unfold slotG at e ⊢
  split at e
  · exact e
  · rename_i j hj
    cases hb : (an anc i).testBit j with
    | true => rw [hb] at e; simp only [cond_true] at e ⊢; exact h _ _ e
    | false => rw [hb] at e; simp only [cond_false] at e ⊢; exact e
theorem wantedA_mono {ops : List Oper} {g g' : Nat → Option AV} (h : ∀ d v, g d = some v → g' d = some v) {o : Oper} {b : Bool} (e : wantedA ops g o = some b) : wantedA ops g' o = some b := by
  unfold wantedA at e ⊢
  split at e
  · exact e
  · rename_i j want hg
    split at e
    case h_2 => cases e
    rename_i og hog
    split at e
    case h_2 => cases e
    rename_i d hd
    split at e
    · rename_i b' hb'; rw [h _ _ hb']; exact e
    · rename_i v hnb hb'
      rw [h _ _ hb']
      cases v with
      | sc u => cases u <;> first | exact e | exact (hnb _ rfl).elim
      | _ => exact e
    · cases e

theorem evQ_heap {P : Program} {ev : Operand → Option AV} {h h' : T AO} {o : Oper} (hh : heapOp o.op = false) : evQ P ev h o = evQ P ev h' o := by
  unfold evQ
  split <;> first | rfl | (rename_i ho; rw [ho] at hh; simp [heapOp] at hh)
end Go.Proofs.Ytfkfejonlfcgoaa.Ev
