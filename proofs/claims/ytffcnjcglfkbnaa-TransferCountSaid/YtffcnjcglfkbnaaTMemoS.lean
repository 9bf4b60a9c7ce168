/- Package transfer by the evaluator: sums by its contract. -/
import Derived.Test.YtffcnjcglfkbnaaTWorks
import Derived.Test.YtffcnjcglfkbnaaTSums
namespace Go.Proofs.Ytffcnjcglfkbnaa
open Go.RowKit Ev
namespace Ev
noncomputable section
def leN (b : Nat) (l : List Nat) : Bool := @List.rec Nat (fun _ => Bool) true (fun y _ ih => @Bool.rec (fun _ => Bool) false ih (Nat.ble y b)) l
def row2F (p : List Nat) (a y : Nat) : Bool := @List.rec Nat (fun _ => Bool) false (fun b _ ih => @Bool.rec (fun _ => Bool) ih true (Nat.beq (Nat.add a b) y)) p
def sum2F (p q : List Nat) (y : Nat) : Bool := @List.rec Nat (fun _ => Bool) false (fun a _ ih => @Bool.rec (fun _ => Bool) ih true (row2F q a y)) p
def goF (rest : List Nat) : List Nat → Nat → Bool := @List.rec Nat (fun _ => List Nat → Nat → Bool) (fun _ _ => true) (fun y _ ih pre last => ifB (ifB (ifB (ih (y :: pre) y) false (Nat.ble y 1000)) false (Nat.ble (Nat.succ last) y)) false (sum2F pre pre y)) rest
def sumsF (l : List Nat) : Bool := @List.rec Nat (fun _ => Bool) false (fun a t _ => ifB (goF t [a] a) false (Nat.beq a 1)) l
def hookSums : Hook := fun _ bad _ args st kret _ =>
  match args with
  | [.sl i k n z _] => ifB (optK bad (fun l => optK bad (fun xs => ifB (kret (.sc (.bool (sumsF xs))) st) bad (leN 1000000 xs)) (natsA l)) (rdsF st.h i k n)) bad (Nat.beq z 1 && (Nat.ble 1 n && Nat.ble n 1000000))
  | _ => bad
end
theorem leN_spec {b : Nat} : ∀ {l : List Nat}, leN b l = true → ∀ k, l.getD k 0 ≤ b
  | [], _, k => by simp
  | y :: l, h, k => by
    have h' : @Bool.rec (fun _ => Bool) false (leN b l) (Nat.ble y b) = true := h
    cases hb : Nat.ble y b with
    | false => rw [hb] at h'; cases h'
    | true =>
      rw [hb] at h'
      cases k with
      | zero => exact Nat.le_of_ble_eq_true hb
      | succ k => simpa using leN_spec (l := l) h' k
theorem row2F_eq (a y : Nat) : ∀ p : List Nat, row2F p a y = K.row2 p a y
  | [] => rfl
  | b :: p => by
    show @Bool.rec (fun _ => Bool) (row2F p a y) true (Nat.beq (a + b) y) = _
    unfold K.row2
    rw [List.any_cons, row2F_eq a y p]
    cases Nat.beq (a + b) y <;> rfl
theorem sum2F_eq (q : List Nat) (y : Nat) : ∀ p : List Nat, sum2F p q y = K.sum2 p q y
  | [] => rfl
  | a :: p => by
    show @Bool.rec (fun _ => Bool) (sum2F p q y) true (row2F q a y) = _
    unfold K.sum2
    rw [List.any_cons, sum2F_eq q y p, row2F_eq]
    cases K.row2 q a y <;> rfl
theorem row2_rev (p : List Nat) (a y : Nat) : K.row2 p.reverse a y = K.row2 p a y := by unfold K.row2; rw [List.any_reverse]
theorem sum2_rev (p q : List Nat) (y : Nat) : K.sum2 p.reverse q.reverse y = K.sum2 p q y := by
  unfold K.sum2
  rw [List.any_reverse]
  congr 1
  funext a
  exact row2_rev q a y
theorem goF_eq (l : List Nat) : ∀ (rest : List Nat) (x : Nat), 1 ≤ x → l.drop x = rest → x ≤ l.length → goF rest (l.take x).reverse (l.getD (x - 1) 0) = K.sumsFrom l rest.length x
  | [], x, _, _, _ => rfl
  | y :: rest, x, h1, h, h2 => by
    have hlt : x < l.length := by
      rcases Nat.lt_or_ge x l.length with h' | h'
      · exact h'
      · rw [List.drop_eq_nil_of_le h'] at h; cases h
    rw [List.drop_eq_getElem_cons hlt] at h
    obtain ⟨hy, hr⟩ := List.cons.inj h
    have hgd : l.getD x 0 = y := by simp [List.getD, hlt, hy]
    have htake : (l.take (x + 1)).reverse = y :: (l.take x).reverse := by
      rw [List.take_succ_eq_append_getElem hlt, hy]; simp
    have ih := goF_eq l rest (x + 1) (by omega) hr (by omega)
    rw [htake, Nat.add_sub_cancel, hgd] at ih
    show ifB (ifB (ifB (goF rest (y :: (l.take x).reverse) y) false (Nat.ble y 1000)) false (Nat.ble (Nat.succ (l.getD (x - 1) 0)) y)) false (sum2F (l.take x).reverse (l.take x).reverse y) = (K.okAt l x && K.sumsFrom l rest.length (x + 1))
    rw [ih, sum2F_eq, sum2_rev]
    unfold K.okAt
    rw [hgd]
    show _ = ((K.sum2 (l.take x) (l.take x) y && (Nat.ble (Nat.succ (l.getD (x - 1) 0)) y && Nat.ble y 1000)) && _)
    cases K.sum2 (l.take x) (l.take x) y <;> cases Nat.ble (Nat.succ (l.getD (x - 1) 0)) y <;> cases Nat.ble y 1000 <;> cases K.sumsFrom l rest.length (x + 1) <;> rfl
theorem sumsF_eq (l : List Nat) : sumsF l = K.sums l := by
  cases l with
  | nil => rfl
  | cons a t =>
    show ifB (goF t [a] a) false (Nat.beq a 1) = (Nat.beq a 1 && K.sumsFrom (a :: t) t.length 1)
    have := goF_eq (a :: t) t 1 (Nat.le_refl _) rfl (by simp)
    have e : goF t [a] a = K.sumsFrom (a :: t) t.length 1 := this
    rw [e]
    cases Nat.beq a 1 <;> rfl
end Ev
theorem hookSums_ok : ∀ (R : Type) (bad : R) (rk : RKK R), RKOk Try.prog bad rk → ∀ args st kret kpan x, hookSums R bad rk args st kret kpan = x → x ≠ bad → SoundK Try.prog 40 args st kret kpan x := by
  intro R bad rk _ args st kret kpan x e hx
  unfold hookSums at e
  split at e
  case h_2 => exact absurd e.symm hx
  rename_i i k n z c
  obtain ⟨h0, h1⟩ := ifB_inv e hx
  obtain ⟨l, h2, h3⟩ := optK_inv h1 hx
  rw [rdsF_eq] at h2
  obtain ⟨xs, h4, h5⟩ := optK_inv h3 hx
  obtain ⟨h6, h7⟩ := ifB_inv h5 hx
  rw [sumsF_eq] at h7
  simp only [Bool.and_eq_true] at h0
  have hz1 : z = 1 := Nat.eq_of_beq_eq_true h0.1
  have hn1 : 1 ≤ n := Nat.le_of_ble_eq_true h0.2.1
  have hn2 : n ≤ 1000000 := Nat.le_of_ble_eq_true h0.2.2
  subst hz1
  refine ⟨.ret _, st, h7, fun ρ ys w hl hH => ?_⟩
  obtain ⟨y1, r1, q1, q2, rfl⟩ := hl.cons_inv
  have hr2 := RelL.nil_iff.1 q2
  subst hr2
  obtain ⟨a, cap, p1, p2, p3, rfl⟩ := relV_sl.1 q1
  obtain ⟨ha, _⟩ := p1 (by omega)
  obtain ⟨zs, k1, k2, k3⟩ := hH.rds h2 ha
  have k4 := natsA_rel h4 k1
  subst k4
  obtain ⟨b, o, e', e1, e2, e3, e4⟩ := ha
  obtain ⟨a_b, a_o, a_s⟩ := a
  simp only at e2 e3 e4
  subst e2; subst e3
  have hlen : xs.length = n := by simpa using k2
  subst hlen
  refine (sums_any a_b a_o cap xs w (by unfold maxLen; omega) hn1 (leN_spec h6) (fun j hj => ?_)).mono ?_
  · have := k3 j (.int .i64 (Int.ofNat xs[j])) (by simp [hj])
    have hadd : (Addr.add ⟨a_b, a_o, none⟩ j) = ⟨a_b, a_o + j, none⟩ := Addr.add_lit _ _ _
    rw [hadd] at this
    rw [this]
    simp [List.getD, hj]
  · rintro e w' ⟨rfl, q, rfl⟩
    obtain ⟨m1, m2⟩ := RelH.drewN hH q
    exact ⟨ρ, ⟨_, rfl, RelV.sc _⟩, m1, m2⟩
noncomputable def hkS : Hks := hksOf [⟨40, always, hookSums⟩, ⟨15, always, hookNum worksF⟩, ⟨55, fun args => (tabF args).isSome, hookList tabF⟩, ⟨73, always, hookDef Try.prog 100000 73⟩, ⟨71, always, hookBS⟩]
theorem hkS_ok : HksOk Try.prog hkS := by
  refine hksOf_ok ?_
  intro en hm
  simp only [List.mem_cons, List.not_mem_nil, or_false] at hm
  rcases hm with rfl | rfl | rfl | rfl | rfl
  · exact hookSums_ok
  · exact hookNum_ok (g := 15) worksF_ok
  · exact hookList_ok (g := 55) tabF_ok
  · exact hookDef_ok (F := 100000) (g := 73) t_mixed
  · exact hookBS_ok
noncomputable def runS (g : FuncId) (args : List AV) : Bool := isTrue (chkP Try.prog hkS 100000 100000 g args)
theorem runS_gives {g : FuncId} {args : List AV} {vs : List Value} (hr : RelL (fun _ => none) args vs) (h : runS g args = true) : GivesV Try.prog g vs (.bool true) :=
  chkP_sound hkS_ok t_mixed hr (isTrue_eq h)
end Go.Proofs.Ytffcnjcglfkbnaa
