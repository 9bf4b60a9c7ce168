/- All lists of some numbers, one behind the other; what a motion keeps: as plain mathematics. -/
import Derived.Test.YtmbfpekcfeeifaaKMvm
import Derived.Test.YtmbfpekcfeeifaaKNdd
namespace Go.Proofs.Ytmbfpekcfeeifaa
open Go.RowKit

/-- The digits of a number. -/
def K.dg (q t x : Nat) : Nat := t / q ^ x % q
theorem K.dg_lt {q : Nat} (hq : 0 < q) (t x : Nat) : K.dg q t x < q := Nat.mod_lt _ hq
theorem K.dg_carry {q t : Nat} (hq : 0 < q) : ∀ k, (∀ x, x < k → K.dg q t x = q - 1) → t % q ^ k = q ^ k - 1
  | 0, _ => by simp [Nat.mod_one]
  | k + 1, h => by
    have ih := K.dg_carry hq k fun x hx => h x (by omega)
    have hk := h k (by omega)
    unfold K.dg at hk
    rw [Nat.mod_pow_succ, ih, hk, Nat.pow_succ]
    have hp : 0 < q ^ k := Nat.pow_pos hq
    have e : q ^ k * q = q ^ k * (q - 1) + q ^ k := by
      rw [← Nat.mul_succ]; congr 1; omega
    omega
theorem K.dg_last {q t N : Nat} (hq : 0 < q) (ht : t < q ^ N) (h : ∀ x, x < N → K.dg q t x = q - 1) : t + 1 = q ^ N := by
  have := K.dg_carry hq N h
  rw [Nat.mod_eq_of_lt ht] at this
  omega
theorem K.div_succ {q s : Nat} (hq : 0 < q) (h : s % q ≠ q - 1) : (s + 1) / q = s / q ∧ (s + 1) % q = s % q + 1 := by
  have h1 := Nat.div_add_mod s q
  have h2 := Nat.mod_lt s hq
  have h3 : s + 1 = q * (s / q) + (s % q + 1) := by omega
  constructor
  · rw [h3, Nat.mul_add_div hq, Nat.div_eq_of_lt (show s % q + 1 < q by omega), Nat.add_zero]
  · rw [h3, Nat.mul_add_mod, Nat.mod_eq_of_lt (show s % q + 1 < q by omega)]
theorem K.dg_succ {q t k : Nat} (hq : 0 < q) (h : ∀ x, x < k → K.dg q t x = q - 1) (hk : K.dg q t k ≠ q - 1) (x : Nat) : K.dg q (t + 1) x = if x < k then 0 else if x = k then K.dg q t k + 1 else K.dg q t x := by
  have hc := K.dg_carry hq k h
  have hp : 0 < q ^ k := Nat.pow_pos hq
  have ht : t + 1 = q ^ k * (t / q ^ k + 1) := by
    have := Nat.div_add_mod t (q ^ k)
    rw [Nat.mul_add]; omega
  have hd := K.div_succ hq (s := t / q ^ k) hk
  by_cases h1 : x < k
  · rw [if_pos h1]
    unfold K.dg
    obtain ⟨j, hj⟩ : ∃ j, k = x + (j + 1) := ⟨k - x - 1, by omega⟩
    rw [ht, hj, Nat.pow_add, Nat.mul_assoc, Nat.mul_div_cancel_left _ (Nat.pow_pos hq), Nat.pow_succ, Nat.mul_comm (q ^ j) q, Nat.mul_assoc, Nat.mul_mod_right]
  · rw [if_neg h1]
    by_cases h2 : x = k
    · rw [if_pos h2, h2]
      unfold K.dg
      rw [ht, Nat.mul_div_cancel_left _ hp]
      exact hd.2
    · rw [if_neg h2]
      unfold K.dg
      obtain ⟨j, hj⟩ : ∃ j, x = k + (j + 1) := ⟨x - k - 1, by omega⟩
      rw [hj, Nat.pow_add, ← Nat.div_div_eq_div_mul, ← Nat.div_div_eq_div_mul, ht, Nat.mul_div_cancel_left _ hp, Nat.pow_succ, Nat.mul_comm (q ^ j) q, ← Nat.div_div_eq_div_mul, ← Nat.div_div_eq_div_mul, hd.1]
theorem K.dg_all {q : Nat} (hq : 0 < q) (f : Nat → Nat) (hf : ∀ x, f x < q) : ∀ N, ∃ t, t < q ^ N ∧ ∀ x, x < N → K.dg q t x = f x
  | 0 => ⟨0, by simp, fun x hx => absurd hx (Nat.not_lt_zero _)⟩
  | N + 1 => by
    obtain ⟨t, h1, h2⟩ := K.dg_all hq f hf N
    have hp : 0 < q ^ N := Nat.pow_pos hq
    refine ⟨t + q ^ N * f N, ?_, fun x hx => ?_⟩
    · have := hf N
      have : q ^ N * f N + q ^ N ≤ q ^ N * q := by
        rw [← Nat.mul_succ]; exact Nat.mul_le_mul_left _ (by omega)
      rw [Nat.pow_succ]; omega
    · by_cases e : x = N
      · subst e
        unfold K.dg
        rw [Nat.add_comm, Nat.mul_add_div hp, Nat.div_eq_of_lt h1, Nat.add_zero, Nat.mod_eq_of_lt (hf x)]
      · have hx' : x < N := by omega
        rw [← h2 x hx']
        unfold K.dg
        obtain ⟨j, hj⟩ : ∃ j, N = x + (j + 1) := ⟨N - x - 1, by omega⟩
        rw [hj, Nat.pow_add, Nat.mul_assoc, Nat.add_comm, Nat.mul_add_div (Nat.pow_pos hq), Nat.pow_succ, Nat.mul_comm (q ^ j) q, Nat.mul_assoc, Nat.mul_add_mod]
/-- The list of so many digits. -/
def K.dgs (q N t : Nat) : List Int := (List.range N).map fun x => (K.dg q t x : Int)
theorem K.dgs_len (q N t : Nat) : (K.dgs q N t).length = N := by unfold K.dgs; simp
theorem K.dgs_at {q N t x : Nat} (h : x < N) : (K.dgs q N t)[x]? = some (K.dg q t x : Int) := by unfold K.dgs; simp [h]

/-- A list of numbers, rows first, keeps a brace. -/
def K.kl (m : Nat) (l : List Int) (b : Br) : Bool :=
  if b.2.2 = 1 then decide (l.getD b.1.toNat 0 ≤ l.getD (m + b.2.1.toNat) 0) else if b.2.2 = 2 then decide (l.getD (m + b.2.1.toNat) 0 ≤ l.getD b.1.toNat 0) else decide (l.getD b.1.toNat 0 = l.getD (m + b.2.1.toNat) 0)
/-- It keeps the first braces but one. -/
def K.kla (m : Nat) (l : List Int) (bs : List Br) (but : Int) : Nat → Bool
  | 0 => true
  | j + 1 => K.kla m l bs but j && (decide ((j : Int) = but) || K.kl m l (bs.getD j (0, 0, 0)))
theorem K.kla_iff {m : Nat} {l : List Int} {bs : List Br} {but : Int} : ∀ j, K.kla m l bs but j = true ↔ ∀ i, i < j → (i : Int) = but ∨ K.kl m l (bs.getD i (0, 0, 0)) = true
  | 0 => ⟨fun _ i hi => absurd hi (Nat.not_lt_zero _), fun _ => rfl⟩
  | j + 1 => by
    rw [K.kla, Bool.and_eq_true, K.kla_iff j, Bool.or_eq_true, decide_eq_true_iff]
    constructor
    · rintro ⟨h1, h2⟩ i hi
      by_cases e : i = j
      · subst e; exact h2
      · exact h1 i (by omega)
    · intro h
      exact ⟨fun i hi => h i (by omega), h j (by omega)⟩
/-- A motion that is no turn of the whole rack and keeps the braces but one. -/
def K.mvs (m : Nat) (bs : List Br) (but : Int) (l : List Int) : Bool := !K.same l && K.kla m l bs but bs.length
/-- None of the first lists is such a motion. -/
def K.rgk (N m : Nat) (bs : List Br) (but : Int) : Nat → Bool
  | 0 => true
  | t + 1 => K.rgk N m bs but t && !K.mvs m bs but (K.dgs 3 N t)
theorem K.rgk_iff {N m : Nat} {bs : List Br} {but : Int} : ∀ T, K.rgk N m bs but T = true ↔ ∀ t, t < T → K.mvs m bs but (K.dgs 3 N t) = false
  | 0 => ⟨fun _ i hi => absurd hi (Nat.not_lt_zero _), fun _ => rfl⟩
  | T + 1 => by
    rw [K.rgk, Bool.and_eq_true, K.rgk_iff T, Bool.not_eq_true']
    constructor
    · rintro ⟨h1, h2⟩ i hi
      by_cases e : i = T
      · subst e; exact h2
      · exact h1 i (by omega)
    · intro h
      exact ⟨fun i hi => h i (by omega), h T (by omega)⟩
/-- The braces that are looked at. -/
def K.bt (bs : List Br) (but : Int) : List Br := if but = -1 then bs else K.wo bs but.toNat
theorem K.kla_all {m : Nat} {l : List Int} {bs : List Br} {but : Int} (hb : but = -1 ∨ 0 ≤ but ∧ but < bs.length) : K.kla m l bs but bs.length = true ↔ ∀ b ∈ K.bt bs but, K.kl m l b = true := by
  rw [K.kla_iff]
  unfold K.bt
  constructor
  · intro h b hbm
    by_cases e : but = -1
    · rw [if_pos e] at hbm
      obtain ⟨i, hi, rfl⟩ := List.getElem_of_mem hbm
      rcases h i hi with h1 | h1
      · omega
      · rwa [List.getD_eq_getElem?_getD, List.getElem?_eq_getElem hi] at h1
    · rw [if_neg e] at hbm
      unfold K.wo at hbm
      rcases List.mem_append.1 hbm with hbm | hbm
      · obtain ⟨i, hi, rfl⟩ := List.getElem_of_mem hbm
        rw [List.length_take] at hi
        rcases h i (by omega) with h1 | h1
        · omega
        · rw [List.getD_eq_getElem?_getD, List.getElem?_eq_getElem (by omega)] at h1
          rw [List.getElem_take]; exact h1
      · obtain ⟨i, hi, rfl⟩ := List.getElem_of_mem hbm
        rw [List.length_drop] at hi
        rcases h (but.toNat + 1 + i) (by omega) with h1 | h1
        · omega
        · rw [List.getD_eq_getElem?_getD, List.getElem?_eq_getElem (by omega)] at h1
          rw [List.getElem_drop]; exact h1
  · intro h i hi
    by_cases e : (i : Int) = but
    · exact .inl e
    · refine .inr ?_
      rw [List.getD_eq_getElem?_getD, List.getElem?_eq_getElem hi]
      refine h _ ?_
      by_cases e1 : but = -1
      · rw [if_pos e1]; exact List.getElem_mem hi
      · rw [if_neg e1]
        unfold K.wo
        rcases Nat.lt_or_ge i but.toNat with hlt | hge
        · refine List.mem_append_left _ ?_
          rw [List.mem_iff_getElem?]
          exact ⟨i, by rw [List.getElem?_take, if_pos hlt, List.getElem?_eq_getElem hi]; rfl⟩
        · refine List.mem_append_right _ ?_
          rw [List.mem_iff_getElem?]
          exact ⟨i - (but.toNat + 1), by rw [List.getElem?_drop, show but.toNat + 1 + (i - (but.toNat + 1)) = i by omega, List.getElem?_eq_getElem hi]; rfl⟩
/-- No list of small numbers is a motion just if all places reach each other. -/
theorem K.rg_iff {m n : Nat} {bs : List Br} {but : Int} (h1 : 1 ≤ m + n) (hin : ∀ b ∈ K.bt bs but, K.InB m n b) (hk : ∀ b ∈ K.bt bs but, b.2.2 = 0 ∨ b.2.2 = 1 ∨ b.2.2 = 2) (hb : but = -1 ∨ 0 ≤ but ∧ but < bs.length) :
    K.rgk (m + n) m bs but (3 ^ (m + n)) = true ↔ ∀ x y, x < m + n → y < m + n → K.Reach (K.leads m (K.bt bs but)) x y := by
  rw [K.rgk_iff]
  constructor
  · intro h x y hx hy
    refine K.R_iff.1 ?_
    cases hr : K.R (K.leads m (K.bt bs but)) x y with
    | true => rfl
    | false =>
      exfalso
      obtain ⟨t, ht, htd⟩ := K.dg_all (q := 3) (by decide) (fun z => (K.tv (K.leads m (K.bt bs but)) y z).toNat) (fun z => by rcases K.tv_or (K.leads m (K.bt bs but)) y z with e | e <;> rw [e] <;> decide) (m + n)
      have hd : ∀ z, z < m + n → (K.dgs 3 (m + n) t).getD z 0 = K.tv (K.leads m (K.bt bs but)) y z := fun z hz => by
        rw [List.getD_eq_getElem?_getD, K.dgs_at hz, htd z hz]
        rcases K.tv_or (K.leads m (K.bt bs but)) y z with e | e <;> rw [e] <;> rfl
      have hm := h t ht
      unfold K.mvs at hm
      have hs : K.same (K.dgs 3 (m + n) t) = false := by
        cases hh : K.same (K.dgs 3 (m + n) t) with
        | false => rfl
        | true =>
          exfalso
          unfold K.same at hh
          rw [List.all_eq_true] at hh
          have mem : ∀ z, z < m + n → (K.dgs 3 (m + n) t).getD z 0 ∈ K.dgs 3 (m + n) t := fun z hz => by
            rw [List.getD_eq_getElem?_getD, List.getElem?_eq_getElem (by rw [K.dgs_len]; exact hz)]
            exact List.getElem_mem _
          have a1 := eq_of_beq (hh _ (mem x hx))
          have a2 := eq_of_beq (hh _ (mem y hy))
          rw [hd x hx] at a1
          rw [hd y hy] at a2
          have b1 : K.tv (K.leads m (K.bt bs but)) y x = 1 := by unfold K.tv; rw [hr]; rfl
          have b2 : K.tv (K.leads m (K.bt bs but)) y y = 0 := by unfold K.tv; rw [if_pos (K.R_iff.2 (.refl _))]
          omega
      rw [hs, Bool.not_false, Bool.true_and] at hm
      have hko : K.kla m (K.dgs 3 (m + n) t) bs but bs.length = true := (K.kla_all hb).2 fun b hbm => by
        have hib := hin b hbm
        unfold K.InB at hib
        obtain ⟨l1, l2⟩ := K.leads_has (m := m) hbm
        unfold K.kl
        rw [hd _ (by omega), hd _ (by omega)]
        have hkk := hk b hbm
        split
        · exact decide_eq_true (K.tv_le (l1 (by omega)))
        · split
          · exact decide_eq_true (K.tv_le (l2 (by omega)))
          · rename_i n1 n2
            have a := K.tv_le (p := y) (l1 n2)
            have b := K.tv_le (p := y) (l2 n1)
            exact decide_eq_true (by omega)
      rw [hko] at hm
      cases hm
  · intro h t ht
    unfold K.mvs
    cases hkl : K.kla m (K.dgs 3 (m + n) t) bs but bs.length with
    | false => simp
    | true =>
      have hall := (K.kla_all hb).1 hkl
      have hle : ∀ x y, K.leads m (K.bt bs but) x y = true → (K.dgs 3 (m + n) t).getD x 0 ≤ (K.dgs 3 (m + n) t).getD y 0 := by
        have : ∀ (l : List Br) (M : Nat → Nat → Bool), (∀ b ∈ l, K.kl m (K.dgs 3 (m + n) t) b = true) → (∀ x y, M x y = true → (K.dgs 3 (m + n) t).getD x 0 ≤ (K.dgs 3 (m + n) t).getD y 0) → ∀ x y, l.foldl (fun M b => K.drawn M b.1.toNat (m + b.2.1.toNat) b.2.2) M x y = true → (K.dgs 3 (m + n) t).getD x 0 ≤ (K.dgs 3 (m + n) t).getD y 0 := fun l => by
          induction l with
          | nil => intro M _ hM; exact hM
          | cons b l ih =>
            intro M hb hM
            refine ih _ (fun c hc => hb c (List.mem_cons_of_mem _ hc)) fun x y hxy => ?_
            have hb' := hb b (List.mem_cons_self ..)
            unfold K.kl at hb'
            have hw : ∀ {M : Nat → Nat → Bool} {i j x y : Nat}, K.with M i j x y = true → (x = i ∧ y = j) ∨ M x y = true := fun {M i j x y} hh => by
              unfold K.with at hh
              have hh' : (if x = i ∧ y = j then true else M x y) = true := hh
              split at hh'
              · rename_i e; exact .inl e
              · exact .inr hh'
            have hxy2 : K.drawn M b.1.toNat (m + b.2.1.toNat) b.2.2 x y = true := hxy
            clear hxy
            have hxy := hxy2
            clear hxy2
            unfold K.drawn at hxy
            split at hxy
            · rename_i e2
              rw [if_neg (by omega), if_pos e2] at hb'
              have := of_decide_eq_true hb'
              rcases hw hxy with ⟨rfl, rfl⟩ | h9
              · exact this
              · exact hM x y h9
            · rename_i e2
              split at hxy
              · rename_i e1
                rw [if_pos e1] at hb'
                have := of_decide_eq_true hb'
                rcases hw hxy with ⟨rfl, rfl⟩ | h9
                · exact this
                · exact hM x y h9
              · rename_i e1
                rw [if_neg e1, if_neg e2] at hb'
                have := of_decide_eq_true hb'
                rcases hw hxy with ⟨rfl, rfl⟩ | h9
                · omega
                · rcases hw h9 with ⟨rfl, rfl⟩ | h9
                  · omega
                  · exact hM x y h9
        exact this _ _ hall (fun x y hxy => by cases hxy)
      have hre : ∀ x y, K.Reach (K.leads m (K.bt bs but)) x y → (K.dgs 3 (m + n) t).getD x 0 ≤ (K.dgs 3 (m + n) t).getD y 0 := fun x y hr => by
        induction hr with
        | refl => exact Int.le_refl _
        | step hxy _ ih => exact Int.le_trans (hle _ _ hxy) ih
      have hs : K.same (K.dgs 3 (m + n) t) = true := by
        unfold K.same
        rw [List.all_eq_true]
        intro x hx
        obtain ⟨i, hi, rfl⟩ := List.getElem_of_mem hx
        rw [K.dgs_len] at hi
        have e : (K.dgs 3 (m + n) t)[i]'(by rw [K.dgs_len]; exact hi) = (K.dgs 3 (m + n) t).getD i 0 := by
          rw [List.getD_eq_getElem?_getD, List.getElem?_eq_getElem (by rw [K.dgs_len]; exact hi)]; rfl
        rw [e, beq_iff_eq]
        have a1 := hre i 0 (h i 0 hi (by omega))
        have a2 := hre 0 i (h 0 i (by omega) hi)
        omega
      rw [hs]; rfl
end Go.Proofs.Ytmbfpekcfeeifaa
