/- Package transfer by the evaluator: sums by its contract. -/
import Derived.Test.YtffcnjcglfkbnaaTWorks
import Derived.Test.YtffcnjcglfkbnaaTSums
namespace Go.Proofs.Ytffcnjcglfkbnaa
open Go.RowKit Ev
namespace Ev
noncomputable section
def leN (b : Nat) (l : List Nat) : Bool := @List.rec Nat (fun _ => Bool) true (fun y _ ih => @Bool.rec (fun _ => Bool) false ih (Nat.ble y b)) l
def hookSums : Hook := fun _ bad _ args st kret _ =>
  match args with
  | [.sl i k n z _] => ifB (optK bad (fun l => optK bad (fun xs => ifB (kret (.sc (.bool (K.sums xs))) st) bad (leN 1000000 xs)) (natsA l)) (rdCells st.h i k n)) bad (Nat.beq z 1 && (Nat.ble 1 n && Nat.ble n 1000000))
  | _ => bad
end
theorem leN_spec {b : Nat} : ∀ {l : List Nat}, leN b l = true → ∀ k, l.getD k 0 ≤ b
  | [], _, k => by simp
  | y :: l, h, k => by
    have h' : @Bool.rec (fun _ => Bool) false (leN b l) (Nat.ble y b) = true := h
    cases hb : Nat.ble y b with
    | false => rw [hb] at h'; cases h'
    | true =>
      rw [hb] at h'
      cases k with
      | zero => exact Nat.le_of_ble_eq_true hb
      | succ k => simpa using leN_spec (l := l) h' k
end Ev
theorem hookSums_ok : ∀ (R : Type) (bad : R) (rk : RKK R), RKOk Try.prog bad rk → ∀ args st kret kpan x, hookSums R bad rk args st kret kpan = x → x ≠ bad → SoundK Try.prog 40 args st kret kpan x := by
  intro R bad rk _ args st kret kpan x e hx
  unfold hookSums at e
  split at e
  case h_2 => exact absurd e.symm hx
  rename_i i k n z c
  obtain ⟨h0, h1⟩ := ifB_inv e hx
  obtain ⟨l, h2, h3⟩ := optK_inv h1 hx
  obtain ⟨xs, h4, h5⟩ := optK_inv h3 hx
  obtain ⟨h6, h7⟩ := ifB_inv h5 hx
  simp only [Bool.and_eq_true] at h0
  have hz1 : z = 1 := Nat.eq_of_beq_eq_true h0.1
  have hn1 : 1 ≤ n := Nat.le_of_ble_eq_true h0.2.1
  have hn2 : n ≤ 1000000 := Nat.le_of_ble_eq_true h0.2.2
  subst hz1
  refine ⟨.ret _, st, h7, fun ρ ys w hl hH => ?_⟩
  obtain ⟨y1, r1, q1, q2, rfl⟩ := hl.cons_inv
  have hr2 := RelL.nil_iff.1 q2
  subst hr2
  obtain ⟨a, cap, p1, p2, p3, rfl⟩ := relV_sl.1 q1
  obtain ⟨ha, _⟩ := p1 (by omega)
  obtain ⟨zs, k1, k2, k3⟩ := hH.rds h2 ha
  have k4 := natsA_rel h4 k1
  subst k4
  obtain ⟨b, o, e', e1, e2, e3, e4⟩ := ha
  obtain ⟨a_b, a_o, a_s⟩ := a
  simp only at e2 e3 e4
  subst e2; subst e3
  have hlen : xs.length = n := by simpa using k2
  subst hlen
  refine (sums_any a_b a_o cap xs w (by unfold maxLen; omega) hn1 (leN_spec h6) (fun j hj => ?_)).mono ?_
  · have := k3 j (.int .i64 (Int.ofNat xs[j])) (by simp [hj])
    have hadd : (Addr.add ⟨a_b, a_o, none⟩ j) = ⟨a_b, a_o + j, none⟩ := Addr.add_lit _ _ _
    rw [hadd] at this
    rw [this]
    simp [List.getD, hj]
  · rintro e w' ⟨rfl, q, rfl⟩
    obtain ⟨m1, m2⟩ := RelH.drewN hH q
    exact ⟨ρ, ⟨_, rfl, RelV.sc _⟩, m1, m2⟩
noncomputable def hkS : Hks := hksOf [⟨40, always, hookSums⟩, ⟨15, always, hookNum worksF⟩, ⟨55, fun args => (tabF args).isSome, hookList tabF⟩, ⟨73, always, hookDef Try.prog 100000 73⟩, ⟨71, always, hookBS⟩]
theorem hkS_ok : HksOk Try.prog hkS := by
  refine hksOf_ok ?_
  intro en hm
  simp only [List.mem_cons, List.not_mem_nil, or_false] at hm
  rcases hm with rfl | rfl | rfl | rfl | rfl
  · exact hookSums_ok
  · exact hookNum_ok (g := 15) worksF_ok
  · exact hookList_ok (g := 55) tabF_ok
  · exact hookDef_ok (F := 100000) (g := 73) t_mixed
  · exact hookBS_ok
noncomputable def runS (g : FuncId) (args : List AV) : Bool := isTrue (chkP Try.prog hkS 100000 100000 g args)
theorem runS_gives {g : FuncId} {args : List AV} {vs : List Value} (hr : RelL (fun _ => none) args vs) (h : runS g args = true) : GivesV Try.prog g vs (.bool true) :=
  chkP_sound hkS_ok t_mixed hr (isTrue_eq h)
end Go.Proofs.Ytffcnjcglfkbnaa
