import Derived.Test.YtfkfejonlfcgoaaEvQ3
namespace Go.Proofs.Ytfkfejonlfcgoaa.Ev
open Go Go.RowKit
section
variable {P : Program} {ρ : Rho} {ev : Operand → Option AV} {f : Operand → Value} {st : St} {w : World}

theorem allSc_sound : ∀ {l : List AV} {vs xs : List Value}, RelL ρ l xs → allSc l = some vs → xs = vs
  | [], vs, xs, h, e => by simp only [allSc, Option.some.injEq] at e; subst e; exact RelL.nil_iff.1 h
  | .sc v :: l, vs, xs, h, e => by
    obtain ⟨y, ys, h1, h2, rfl⟩ := h.cons_inv
    simp only [allSc] at e
    split at e
    case h_2 => cases e
    rename_i us hus
    cases e
    rw [relV_sc.1 h1, allSc_sound h2 hus]
  | .ptr _ _ :: _, _, _, _, e | .sl _ _ _ _ _ :: _, _, _, _, e | .mp _ :: _, _, _, _, e | .fn _ _ _ :: _, _, _, _, e | .ifc _ _ :: _, _, _, _, e | .agg _ :: _, _, _, _, e | .tup _ :: _, _, _, _, e | .res _ _ _ :: _, _, _, _, e => by simp [allSc] at e

theorem lenA_sound (H : RelH ρ st w) {t : TypeId} {at' : Array TypeId} (ht : at'[0]? = some t) {u : AV} {n : Nat} {x : Value} (hx : RelV ρ u x) (e : lenA P t st.h u = some n) (ty : TypeId) :
    (Builtin.len_ at' ty #[x]).run P w = .ok (goInt n) w := by
  unfold lenA at e
  split at e
  · rename_i d i k m z c hd
    cases e
    obtain ⟨a, cap, _, _, _, rfl⟩ := relV_sl.1 hx
    simp [Builtin.len_, ht, run_under hd]
  · rename_i d a m c hd
    cases e
    rw [relV_sc.1 hx]
    simp [Builtin.len_, ht, run_under hd]
  · rename_i s hd
    cases e
    rw [relV_sc.1 hx]
    simp [Builtin.len_, ht, run_under hd]
  · rename_i m el hd
    cases e
    simp [Builtin.len_, ht, run_under hd]
  · rename_i hd
    cases e
    rw [relV_sc.1 hx]
    simp [Builtin.len_, ht, run_under hd]
  · rename_i i hd
    split at e
    case h_2 => cases e
    rename_i es clock hg
    cases e
    obtain ⟨b, h1, es', h2, h3⟩ := H.obj i _ hg
    obtain ⟨b', h1', rfl⟩ := relV_mp.1 hx
    rw [h1] at h1'; cases h1'
    have := h3.length
    simp only [Array.length_toList] at this
    simp [Builtin.len_, ht, run_under hd, run_getObj_map h2, this]
  · cases e
theorem capA_sound {t : TypeId} {at' : Array TypeId} (ht : at'[0]? = some t) {u : AV} {n : Nat} {x : Value} (hx : RelV ρ u x) (e : capA P t u = some n) (ty : TypeId) :
    (Builtin.cap_ at' ty #[x]).run P w = .ok (goInt n) w := by
  unfold capA at e
  split at e
  · rename_i d i k m z c hd
    cases e
    obtain ⟨a, cap, _, _, hc, rfl⟩ := relV_sl.1 hx
    have := hc _ rfl
    subst this
    simp [Builtin.cap_, ht, run_under hd]
  · rename_i d a m c hd
    cases e
    rw [relV_sc.1 hx]
    simp [Builtin.cap_, ht, run_under hd]
  · rename_i m el hd
    cases e
    simp [Builtin.cap_, ht, run_under hd]
  · cases e

theorem resolve_builtin {c : Call} {b : Builtin} (hc : c.callee = .builtin b) (t : TypeId) : resolve f c t = pure { target := .builtin b c.argTypes t (c.args.map fun | .const _ => true | _ => false), args := c.args.map f } := by
  unfold resolve; simp only [hc]; rfl

theorem toArr {α β : Type} (a : Array α) (g : α → β) : a.map g = (a.toList.map g).toArray := by
  apply Array.toList_inj.1; simp

theorem builtinQ_sound (H : RelH ρ st w) {b : Builtin} {at' : Array TypeId} {t : TypeId} {vs : List AV} {xs : List Value} {v : AV} (hx : RelL ρ vs xs) (e : builtinQ P st.h b at' t vs = some v) (cs : Array Bool) :
    ∃ y, (builtin b at' t cs xs.toArray).run P w = .ok (.value y) w ∧ RelV ρ v y := by
  unfold builtinQ at e
  split at e
  · split at e
    case h_2 => cases e
    rename_i ty u ht
    split at e
    case h_2 => cases e
    rename_i n hn
    cases e
    obtain ⟨y, ys, h1, h2, rfl⟩ := hx.cons_inv
    have := RelL.nil_iff.1 h2
    subst this
    exact ⟨goInt n, run_v (lenA_sound H ht h1 hn t), RelV.sc _⟩
  · split at e
    case h_2 => cases e
    rename_i ty u ht
    split at e
    case h_2 => cases e
    rename_i n hn
    cases e
    obtain ⟨y, ys, h1, h2, rfl⟩ := hx.cons_inv
    have := RelL.nil_iff.1 h2
    subst this
    exact ⟨goInt n, run_v (capA_sound ht h1 hn t), RelV.sc _⟩
  · split at e
    case h_2 => cases e
    rename_i us hus
    obtain ⟨y, h1, h2⟩ := scF_run (P := P) (ρ := ρ) (w := w) e
    rw [allSc_sound hx hus]
    exact ⟨y, run_v h1, h2⟩
  · split at e
    case h_2 => cases e
    rename_i us hus
    obtain ⟨y, h1, h2⟩ := scF_run (P := P) (ρ := ρ) (w := w) e
    rw [allSc_sound hx hus]
    exact ⟨y, run_v h1, h2⟩
  · cases e

theorem bind_some {α β : Type} {o : Option α} {g : α → Option β} {b : β} (e : o.bind g = some b) : ∃ a, o = some a ∧ g a = some b := Option.bind_eq_some_iff.1 e

/-- The operations that leave the world as it is. -/
theorem evQ_sound (H : RelH ρ st w) (E : EvOk ρ ev f) {o : Oper} {v : AV} (e : evQ P ev st.h o = some v) :
    ∃ y, (execOp f o).run P w = .ok (.value y) w ∧ RelV ρ v y := by
  unfold evQ at e
  split at e
  · rename_i x ho
    exact ⟨f x, by unfold execOp; rw [ho]; rfl, E x v e⟩
  · rename_i x ho
    exact ⟨f x, by unfold execOp; rw [ho]; rfl, E x v e⟩
  · rename_i c a b ho
    unfold execOp; rw [ho]
    exact pickA_sound E e
  · rename_i t ps ho
    obtain ⟨vs, h1, h2⟩ := bind_some e
    obtain ⟨y, g1, g2⟩ := buildA_sound (P := P) (w := w) (ps := ps.map fun (i, x) => (i, f x)) (by simpa using evPs_sound E h1) h2
    refine ⟨y, ?_, g2⟩
    unfold execOp; rw [ho]
    exact run_v g1
  · rename_i t a ho
    split at e
    case h_2 => cases e
    rename_i i k ha
    obtain ⟨y, g1, g2⟩ := loadAt_sound H e (E a _ ha)
    refine ⟨y, ?_, g2⟩
    unfold execOp; rw [ho]
    exact run_v g1
  · rename_i x ho
    obtain ⟨u, h1, h2⟩ := bind_some e
    exact nilCheckA_sound ho h2 (E x u h1)
  · rename_i op t x y t' ho
    obtain ⟨a, h1, e⟩ := bind_some e
    obtain ⟨b, h2, e⟩ := bind_some e
    obtain ⟨z, g1, g2⟩ := evBin_sound (P := P) (w := w) (E x a h1) (E y b h2) e
    refine ⟨z, ?_, g2⟩
    unfold execOp; rw [ho]
    exact run_v g1
  · rename_i op t x ho
    obtain ⟨u, h1, e⟩ := bind_some e
    obtain ⟨y, g1, g2⟩ := unOpA_sound (P := P) (w := w) (E x u h1) e
    refine ⟨y, ?_, g2⟩
    unfold execOp; rw [ho]
    exact run_v g1
  · rename_i s d x ho
    obtain ⟨u, h1, e⟩ := bind_some e
    obtain ⟨y, g1, g2⟩ := convertA_sound (P := P) (w := w) (E x u h1) e
    refine ⟨y, ?_, g2⟩
    unfold execOp; rw [ho]
    exact run_v g1
  · rename_i t x ho
    obtain ⟨u, h1, e⟩ := bind_some e
    obtain ⟨y, g1, g2⟩ := makeIfcA_sound (P := P) (w := w) (E x u h1) e
    refine ⟨y, ?_, g2⟩
    unfold execOp; rw [ho]
    exact run_v g1
  · rename_i g a b ho
    obtain ⟨l, h1, e⟩ := bind_some e
    obtain ⟨m, h2, e⟩ := bind_some e
    cases e
    refine ⟨.func g (a.toList.map f).toArray (b.toList.map f).toArray, ?_, relV_fn.2 ⟨_, _, evXs_sound E h1, evXs_sound E h2, rfl⟩⟩
    unfold execOp; rw [ho]
    simp only [Instr.makeFunc, pure_bind]
    rw [toArr a f, toArr b f]; rfl
  · rename_i t x lo hi mx ho
    obtain ⟨u, h1, e⟩ := bind_some e
    obtain ⟨l, h2, e⟩ := bind_some e
    obtain ⟨h, h3, e⟩ := bind_some e
    obtain ⟨m, h4, e⟩ := bind_some e
    obtain ⟨y, g1, g2⟩ := sliceQ_sound (P := P) H (E x u h1) (optX_sound E h2) (optX_sound E h3) (optX_sound E h4) e
    refine ⟨y, ?_, g2⟩
    unfold execOp; rw [ho]
    exact run_v g1
  · rename_i s x n ho
    obtain ⟨u, h1, e⟩ := bind_some e
    obtain ⟨y, g1, g2⟩ := fieldAddrA_sound (P := P) (w := w) (E x u h1) e
    refine ⟨y, ?_, g2⟩
    unfold execOp; rw [ho]
    exact run_v g1
  · rename_i s x n ho
    obtain ⟨u, h1, e⟩ := bind_some e
    obtain ⟨y, g1, g2⟩ := fieldA_sound (P := P) (w := w) (E x u h1) e
    refine ⟨y, ?_, g2⟩
    unfold execOp; rw [ho]
    exact run_v g1
  · rename_i t x ix ho
    obtain ⟨u, h1, e⟩ := bind_some e
    obtain ⟨i, h2, e⟩ := bind_some e
    obtain ⟨y, g1, g2⟩ := indexAddrA_sound (P := P) (w := w) (E x u h1) (E ix i h2) e
    refine ⟨y, ?_, g2⟩
    unfold execOp; rw [ho]
    exact run_v g1
  · rename_i t x ix ho
    obtain ⟨u, h1, e⟩ := bind_some e
    obtain ⟨i, h2, e⟩ := bind_some e
    obtain ⟨y, g1, g2⟩ := indexA_sound (P := P) (w := w) (E x u h1) (E ix i h2) e
    refine ⟨y, ?_, g2⟩
    unfold execOp; rw [ho]
    exact run_v g1
  · rename_i t x k ok ho
    obtain ⟨u, h1, e⟩ := bind_some e
    obtain ⟨i, h2, e⟩ := bind_some e
    obtain ⟨y, g1, g2⟩ := lookupA_sound (P := P) H (E x u h1) (E k i h2) e
    refine ⟨y, ?_, g2⟩
    unfold execOp; rw [ho]
    exact run_v g1
  · rename_i x s t ok ho
    obtain ⟨u, h1, e⟩ := bind_some e
    obtain ⟨y, g1, g2⟩ := typeAssertA_sound (P := P) (w := w) (s := s) (E x u h1) e
    refine ⟨y, ?_, g2⟩
    unfold execOp; rw [ho]
    exact run_v g1
  · rename_i x n ho
    obtain ⟨u, h1, e⟩ := bind_some e
    obtain ⟨y, g1, g2⟩ := extractA_sound (P := P) (w := w) (E x u h1) e
    refine ⟨y, ?_, g2⟩
    unfold execOp; rw [ho]
    exact run_v g1
  · rename_i c ho
    split at e
    case h_2 => cases e
    rename_i b hc
    obtain ⟨vs, h1, e⟩ := bind_some e
    obtain ⟨y, g1, g2⟩ := builtinQ_sound (P := P) H (evXs_sound E h1) e (c.args.map fun | .const _ => true | _ => false)
    refine ⟨y, ?_, g2⟩
    unfold execOp; rw [ho]
    simp only
    rw [Sem.run_bind, resolve_builtin hc]
    simp only [Sem.run_pure, Result.andThen_ok, invoke]
    rw [toArr c.args f]
    exact g1
  · cases e
end
end Go.Proofs.Ytfkfejonlfcgoaa.Ev
