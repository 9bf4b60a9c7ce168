/- Sets of rows and columns that no arrow leaves: as plain mathematics. -/
import Derived.Test.YtmbfpekcfeeifaaKRgd
namespace Go.Proofs.Ytmbfpekcfeeifaa
open Go.RowKit

theorem K.dg_none {q t : Nat} (hq : 0 < q) : ∀ k, (∀ x, x < k → K.dg q t x = 0) → t % q ^ k = 0
  | 0, _ => by simp [Nat.mod_one]
  | k + 1, h => by
    have ih := K.dg_none hq k fun x hx => h x (by omega)
    have hk := h k (by omega)
    unfold K.dg at hk
    rw [Nat.mod_pow_succ, ih, hk]; simp
/-- An arrow of a brace leaves a set. -/
def K.out (m s : Nat) (b : Br) : Bool := (decide (b.2.2 ≠ 2) && decide (K.dg 2 s (m + b.2.1.toNat) < K.dg 2 s b.1.toNat)) || (decide (b.2.2 ≠ 1) && decide (K.dg 2 s b.1.toNat < K.dg 2 s (m + b.2.1.toNat)))
def K.lf (m s : Nat) (bs : List Br) (k : Nat) : Bool := (bs.take k).any (K.out m s)
theorem K.lf_succ {m s : Nat} {bs : List Br} {k : Nat} (h : k < bs.length) : K.lf m s bs (k + 1) = (K.lf m s bs k || K.out m s bs[k]) := by
  unfold K.lf
  rw [List.take_succ_eq_append_getElem h, List.any_append]; simp
/-- Each of the first sets is left by an arrow. -/
def K.jnk (m : Nat) (bs : List Br) : Nat → Bool
  | 0 => true
  | s + 1 => if s = 0 then true else K.jnk m bs s && K.lf m s bs bs.length
theorem K.jnk_iff {m : Nat} {bs : List Br} : ∀ T, K.jnk m bs T = true ↔ ∀ s, 1 ≤ s → s < T → K.lf m s bs bs.length = true
  | 0 => ⟨fun _ s h1 h2 => absurd h2 (Nat.not_lt_zero _), fun _ => rfl⟩
  | T + 1 => by
    unfold K.jnk
    by_cases e : T = 0
    · rw [if_pos e]
      exact ⟨fun _ s h1 h2 => by omega, fun _ => rfl⟩
    · rw [if_neg e, Bool.and_eq_true, K.jnk_iff T]
      constructor
      · rintro ⟨h1, h2⟩ s hs1 hs2
        by_cases es : s = T
        · rw [es]; exact h2
        · exact h1 s hs1 (by omega)
      · intro h
        exact ⟨fun s h1 h2 => h s h1 (by omega), h T (by omega) (by omega)⟩
theorem K.leads_inv {m : Nat} {bs : List Br} {u v : Nat} (h : K.leads m bs u v = true) : ∃ b ∈ bs, (b.2.2 ≠ 2 ∧ u = b.1.toNat ∧ v = m + b.2.1.toNat) ∨ (b.2.2 ≠ 1 ∧ u = m + b.2.1.toNat ∧ v = b.1.toNat) := by
  have : ∀ (l : List Br) (M : Nat → Nat → Bool), l.foldl (fun M b => K.drawn M b.1.toNat (m + b.2.1.toNat) b.2.2) M u v = true → M u v = true ∨ ∃ b ∈ l, (b.2.2 ≠ 2 ∧ u = b.1.toNat ∧ v = m + b.2.1.toNat) ∨ (b.2.2 ≠ 1 ∧ u = m + b.2.1.toNat ∧ v = b.1.toNat) := fun l => by
    induction l with
    | nil => intro M h; exact .inl h
    | cons b l ih =>
      intro M h
      rcases ih _ h with h | ⟨c, hc, h⟩
      · have hxy : K.drawn M b.1.toNat (m + b.2.1.toNat) b.2.2 u v = true := h
        have hw : ∀ {M : Nat → Nat → Bool} {i j x y : Nat}, K.with M i j x y = true → (x = i ∧ y = j) ∨ M x y = true := fun {M i j x y} hh => by
          unfold K.with at hh
          have hh' : (if x = i ∧ y = j then true else M x y) = true := hh
          split at hh'
          · rename_i e; exact .inl e
          · exact .inr hh'
        unfold K.drawn at hxy
        split at hxy
        · rename_i e2
          rcases hw hxy with ⟨h1, h2⟩ | h9
          · exact .inr ⟨b, List.mem_cons_self .., .inr ⟨by omega, h1, h2⟩⟩
          · exact .inl h9
        · rename_i e2
          split at hxy
          · rename_i e1
            rcases hw hxy with ⟨h1, h2⟩ | h9
            · exact .inr ⟨b, List.mem_cons_self .., .inl ⟨e2, h1, h2⟩⟩
            · exact .inl h9
          · rename_i e1
            rcases hw hxy with ⟨h1, h2⟩ | h9
            · exact .inr ⟨b, List.mem_cons_self .., .inr ⟨e1, h1, h2⟩⟩
            · rcases hw h9 with ⟨h1, h2⟩ | h9
              · exact .inr ⟨b, List.mem_cons_self .., .inl ⟨e2, h1, h2⟩⟩
              · exact .inl h9
      · exact .inr ⟨c, List.mem_cons_of_mem _ hc, h⟩
  rcases this bs _ h with h | h
  · cases h
  · exact h
theorem K.jn_iff {m n : Nat} {bs : List Br} (hin : ∀ b ∈ bs, K.InB m n b) : K.jnk m bs (2 ^ (m + n) - 1) = true ↔ ∀ x y, x < m + n → y < m + n → K.Reach (K.leads m bs) x y := by
  rw [K.jnk_iff]
  constructor
  · intro h x y hx hy
    refine K.R_iff.1 ?_
    cases hr : K.R (K.leads m bs) x y with
    | true => rfl
    | false =>
      exfalso
      obtain ⟨s, hs, hd⟩ := K.dg_all (q := 2) (by decide) (fun z => (K.tv (K.leads m bs) y z).toNat) (fun z => by rcases K.tv_or (K.leads m bs) y z with e | e <;> rw [e] <;> decide) (m + n)
      have hx1 : K.dg 2 s x = 1 := by
        rw [hd x hx]; unfold K.tv; rw [hr]; rfl
      have hy0 : K.dg 2 s y = 0 := by
        rw [hd y hy]; unfold K.tv; rw [if_pos (K.R_iff.2 (.refl _))]; rfl
      have hs0 : 1 ≤ s := by
        rcases Nat.eq_zero_or_pos s with e | e
        · rw [e] at hx1; unfold K.dg at hx1; simp at hx1
        · exact e
      have hs1 : s < 2 ^ (m + n) - 1 := by
        rcases Nat.lt_or_ge s (2 ^ (m + n) - 1) with h1 | h1
        · exact h1
        · exfalso
          have := K.dg_more (q := 2) (by decide) hs hy (by rw [hy0]; decide)
          omega
      have hl := h s hs0 hs1
      unfold K.lf at hl
      rw [List.take_length, List.any_eq_true] at hl
      obtain ⟨b, hb, ho⟩ := hl
      have hib := hin b hb
      unfold K.InB at hib
      obtain ⟨l1, l2⟩ := K.leads_has (m := m) hb
      unfold K.out at ho
      rw [hd _ (show b.1.toNat < m + n by omega), hd _ (show m + b.2.1.toNat < m + n by omega), Bool.or_eq_true, Bool.and_eq_true, Bool.and_eq_true] at ho
      have t1 := K.tv_or (K.leads m bs) y b.1.toNat
      have t2 := K.tv_or (K.leads m bs) y (m + b.2.1.toNat)
      rcases ho with ⟨h1, h2⟩ | ⟨h1, h2⟩
      · have h3 := K.tv_le (p := y) (l1 (of_decide_eq_true h1))
        have h4 := of_decide_eq_true h2
        omega
      · have h3 := K.tv_le (p := y) (l2 (of_decide_eq_true h1))
        have h4 := of_decide_eq_true h2
        omega
  · intro h s hs0 hs1
    have hsl : s < 2 ^ (m + n) := by omega
    have hx : ∃ x, x < m + n ∧ K.dg 2 s x = 1 := by
      refine Classical.byContradiction fun hc => ?_
      have := K.dg_none (q := 2) (t := s) (by decide) (m + n) (fun x hx => by
        have h2 := K.dg_lt (q := 2) (by decide) s x
        rcases Nat.lt_or_ge (K.dg 2 s x) 1 with h3 | h3
        · omega
        · exact absurd ⟨x, hx, by omega⟩ hc)
      rw [Nat.mod_eq_of_lt hsl] at this
      omega
    have hy : ∃ y, y < m + n ∧ K.dg 2 s y = 0 := by
      refine Classical.byContradiction fun hc => ?_
      have := K.dg_last (q := 2) (t := s) (N := m + n) (by decide) hsl (fun x hx => by
        have h2 := K.dg_lt (q := 2) (by decide) s x
        rcases Nat.lt_or_ge (K.dg 2 s x) 1 with h3 | h3
        · exact absurd ⟨x, hx, by omega⟩ hc
        · omega)
      omega
    obtain ⟨x, hx, hx1⟩ := hx
    obtain ⟨y, hy, hy0⟩ := hy
    cases hl : K.lf m s bs bs.length with
    | true => rfl
    | false =>
      exfalso
      unfold K.lf at hl
      rw [List.take_length, List.any_eq_false] at hl
      have hcl := K.Reach.closed (M := K.leads m bs) (S := fun z => decide (K.dg 2 s z = 1)) (fun u v hu huv => by
        obtain ⟨b, hb, hh⟩ := K.leads_inv huv
        have ho := hl b hb
        have hu1 := of_decide_eq_true hu
        have hv2 := K.dg_lt (q := 2) (by decide) s v
        refine decide_eq_true ?_
        refine Classical.byContradiction fun hv => ho ?_
        unfold K.out
        rw [Bool.or_eq_true, Bool.and_eq_true, Bool.and_eq_true]
        rcases hh with ⟨k1, rfl, rfl⟩ | ⟨k1, rfl, rfl⟩
        · exact .inl ⟨decide_eq_true k1, decide_eq_true (by omega)⟩
        · exact .inr ⟨decide_eq_true k1, decide_eq_true (by omega)⟩) (h x y hx hy) (decide_eq_true hx1)
      have := of_decide_eq_true hcl
      omega
end Go.Proofs.Ytmbfpekcfeeifaa
