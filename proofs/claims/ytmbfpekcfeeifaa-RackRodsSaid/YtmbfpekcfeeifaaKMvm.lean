/- Package rack: motions as plain lists: as plain mathematics. -/
import Derived.Test.YtmbfpekcfeeifaaKStiffs
namespace Go.Proofs.Ytmbfpekcfeeifaa
open Go.RowKit

/-- One place can be reached from another one: as a bool. -/
noncomputable def K.R (M : Nat → Nat → Bool) (x y : Nat) : Bool := @decide (K.Reach M x y) (Classical.propDecidable _)
theorem K.R_iff {M : Nat → Nat → Bool} {x y : Nat} : K.R M x y = true ↔ K.Reach M x y := by
  unfold K.R; exact @decide_eq_true_iff _ (Classical.propDecidable _)
/-- The numbers of the motion around a place. -/
noncomputable def K.tv (M : Nat → Nat → Bool) (p x : Nat) : Int := if K.R M x p = true then 0 else 1
noncomputable def K.tl (M : Nat → Nat → Bool) (N p : Nat) : List Int := (List.range N).map (K.tv M p)
theorem K.tl_len (M : Nat → Nat → Bool) (N p : Nat) : (K.tl M N p).length = N := by unfold K.tl; simp
theorem K.tl_at {M : Nat → Nat → Bool} {N p x : Nat} (h : x < N) : (K.tl M N p)[x]? = some (K.tv M p x) := by unfold K.tl; simp [h]
theorem K.tv_or (M : Nat → Nat → Bool) (p x : Nat) : K.tv M p x = 0 ∨ K.tv M p x = 1 := by unfold K.tv; split <;> simp
theorem K.tv_le {M : Nat → Nat → Bool} {p x y : Nat} (h : M x y = true) : K.tv M p x ≤ K.tv M p y := by
  unfold K.tv
  by_cases e : K.R M y p = true
  · rw [if_pos e, if_pos (K.R_iff.2 (.step h (K.R_iff.1 e)))]; exact Int.le_refl _
  · rw [if_neg e]; split <;> decide

/-- A motion keeps a brace. -/
def K.kp (R C : List Int) (b : Br) : Bool :=
  if b.2.2 = 1 then decide (R.getD b.1.toNat 0 ≤ C.getD b.2.1.toNat 0) else if b.2.2 = 2 then decide (C.getD b.2.1.toNat 0 ≤ R.getD b.1.toNat 0) else decide (R.getD b.1.toNat 0 = C.getD b.2.1.toNat 0)
def K.oob (zs : List Int) : Bool := zs.any fun x => decide (x < -1000000 ∨ 1000000 < x)
def K.same (zs : List Int) : Bool := zs.all fun x => x == zs.getD 0 0
/-- What Verify returns. -/
def K.ver (m n : Int) (bs : List Br) (R C : List Int) : Int :=
  if K.chk m n bs = 0 then (if (R.length : Int) = m ∧ (C.length : Int) = n then (if K.oob (R ++ C) = true then 4 else if K.same (R ++ C) = true then 20 else if bs.all (K.kp R C) = true then 0 else 13) else 3) else K.chk m n bs
/-- The error of Move. -/
noncomputable def K.lse (m n : Int) (bs : List Br) : Int := if K.chk m n bs = 0 then (if K.stf m n bs = true then 14 else 0) else K.chk m n bs

theorem K.oob_ext {zs : List Int} {lo hi : Int} (h1 : lo ∈ zs) (h2 : ∀ x ∈ zs, lo ≤ x) (h3 : hi ∈ zs) (h4 : ∀ x ∈ zs, x ≤ hi) : K.oob zs = (decide (lo < -1000000) || decide (1000000 < hi)) := by
  unfold K.oob
  rw [Bool.eq_iff_iff, List.any_eq_true, Bool.or_eq_true, decide_eq_true_iff, decide_eq_true_iff]
  constructor
  · rintro ⟨x, hx, hd⟩
    have := of_decide_eq_true hd
    have := h2 x hx
    have := h4 x hx
    omega
  · rintro (h | h)
    · exact ⟨lo, h1, decide_eq_true (.inl h)⟩
    · exact ⟨hi, h3, decide_eq_true (.inr h)⟩
theorem K.same_ext {zs : List Int} {lo hi : Int} (h1 : lo ∈ zs) (h2 : ∀ x ∈ zs, lo ≤ x) (h3 : hi ∈ zs) (h4 : ∀ x ∈ zs, x ≤ hi) : K.same zs = (lo == hi) := by
  unfold K.same
  rw [Bool.eq_iff_iff, List.all_eq_true, beq_iff_eq]
  have h0 : zs.getD 0 0 ∈ zs := by
    cases zs with
    | nil => cases h1
    | cons z l => exact List.mem_cons_self ..
  constructor
  · intro h
    have e1 := eq_of_beq (h lo h1)
    have e2 := eq_of_beq (h hi h3)
    omega
  · intro e x hx
    have := h2 x hx; have := h4 x hx; have := h2 _ h0; have := h4 _ h0
    rw [beq_iff_eq]; omega

/-- The groups are one just if all places keep together with the first one. -/
theorem K.gs_one (M : Nat → Nat → Bool) (m N : Nat) : ∀ k, (1 ≤ (K.gs M m N (k + 1)).length) ∧ ((K.gs M m N (k + 1)).length = 1 ↔ ∀ x, x ≤ k → K.T M 0 x = true)
  | 0 => by
    have h : K.gs M m N 1 = [(K.rw M m 0 N, K.cl M m 0 N)] := by
      unfold K.gs
      have : K.grouped M 0 0 = false := rfl
      rw [this]; rfl
    rw [h]
    exact ⟨Nat.le_refl _, fun _ x hx => by have : x = 0 := by omega
                                           subst this; exact K.T_refl, fun _ => rfl⟩
  | k + 1 => by
    obtain ⟨i1, i2⟩ := K.gs_one M m N k
    by_cases hg : K.grouped M (k + 1) (k + 1) = true
    · have e : K.gs M m N (k + 2) = K.gs M m N (k + 1) := by rw [K.gs, if_pos hg]
      rw [e]
      refine ⟨i1, fun h x hx => ?_, fun h => i2.2 fun x hx => h x (by omega)⟩
      have hk := i2.1 h
      by_cases hx' : x ≤ k
      · exact hk x hx'
      · have : x = k + 1 := by omega
        subst this
        unfold K.grouped at hg
        rw [List.any_eq_true] at hg
        obtain ⟨q, hq, hqp⟩ := hg
        exact K.T_trans (hk q (by have := List.mem_range.1 hq; omega)) hqp
    · have e : K.gs M m N (k + 2) = K.gs M m N (k + 1) ++ [(K.rw M m (k + 1) N, K.cl M m (k + 1) N)] := by rw [K.gs, if_neg hg]
      rw [e, List.length_append]
      refine ⟨by omega, fun h => ?_, fun h => ?_⟩
      · exfalso
        have : [(K.rw M m (k + 1) N, K.cl M m (k + 1) N)].length = 1 := rfl
        omega
      · exfalso
        refine hg ?_
        unfold K.grouped
        exact List.any_eq_true.2 ⟨0, List.mem_range.2 (by omega), h (k + 1) (Nat.le_refl _)⟩
theorem K.stf_iff {m n : Nat} {bs : List Br} (h : K.chk m n bs = 0) (h1 : 1 ≤ m + n) : K.stf m n bs = true ↔ ∀ x y, x < m + n → y < m + n → K.Reach (K.leads m bs) x y := by
  unfold K.stf
  rw [if_pos h, decide_eq_true_iff]
  simp only [Int.toNat_natCast]
  unfold K.gsv
  obtain ⟨k, hk⟩ : ∃ k, m + n = k + 1 := ⟨m + n - 1, by omega⟩
  have := (K.gs_one (K.leads m bs) m (m + n) k).2
  rw [hk] at this ⊢
  rw [this]
  constructor
  · intro h x y hx hy
    exact (K.T_iff.1 (h x (by omega))).2.trans (K.T_iff.1 (h y (by omega))).1
  · intro h x hx
    exact K.T_iff.2 ⟨h 0 x (by omega) (by omega), h x 0 (by omega) (by omega)⟩
/-- The arrows of a brace. -/
theorem K.with_up {M : Nat → Nat → Bool} {i j x y : Nat} (h : M x y = true) : K.with M i j x y = true := by
  unfold K.with
  show (if x = i ∧ y = j then true else M x y) = true
  split
  · rfl
  · exact h
theorem K.with_at {M : Nat → Nat → Bool} {i j : Nat} : K.with M i j i j = true := by
  unfold K.with
  show (if i = i ∧ j = j then true else M i j) = true
  rw [if_pos ⟨rfl, rfl⟩]
theorem K.drawn_up {M : Nat → Nat → Bool} {i j x y : Nat} {z : Int} (h : M x y = true) : K.drawn M i j z x y = true := by
  unfold K.drawn
  split
  · exact K.with_up h
  · split
    · exact K.with_up h
    · exact K.with_up (K.with_up h)
theorem K.drawn_row {M : Nat → Nat → Bool} {i j : Nat} {z : Int} (h : z ≠ 2) : K.drawn M i j z i j = true := by
  unfold K.drawn
  rw [if_neg h]
  split
  · exact K.with_at
  · exact K.with_up K.with_at
theorem K.drawn_col {M : Nat → Nat → Bool} {i j : Nat} {z : Int} (h : z ≠ 1) : K.drawn M i j z j i = true := by
  unfold K.drawn
  split
  · exact K.with_at
  · first | exact K.with_at | (rw [if_neg h]; exact K.with_at)
theorem K.leads_has {m : Nat} {bs : List Br} {b : Br} (hb : b ∈ bs) : (b.2.2 ≠ 2 → K.leads m bs b.1.toNat (m + b.2.1.toNat) = true) ∧ (b.2.2 ≠ 1 → K.leads m bs (m + b.2.1.toNat) b.1.toNat = true) := by
  have up : ∀ (l : List Br) (M : Nat → Nat → Bool) (x y : Nat), M x y = true → l.foldl (fun M b => K.drawn M b.1.toNat (m + b.2.1.toNat) b.2.2) M x y = true := fun l => by
    induction l with
    | nil => intro M x y h; exact h
    | cons a l ih => intro M x y h; exact ih _ x y (K.drawn_up h)
  have : ∀ (l : List Br) (M : Nat → Nat → Bool), b ∈ l → (b.2.2 ≠ 2 → l.foldl (fun M b => K.drawn M b.1.toNat (m + b.2.1.toNat) b.2.2) M b.1.toNat (m + b.2.1.toNat) = true) ∧ (b.2.2 ≠ 1 → l.foldl (fun M b => K.drawn M b.1.toNat (m + b.2.1.toNat) b.2.2) M (m + b.2.1.toNat) b.1.toNat = true) := fun l => by
    induction l with
    | nil => intro M h; cases h
    | cons a l ih =>
      intro M h
      rcases List.mem_cons.1 h with rfl | h
      · exact ⟨fun h2 => up l _ _ _ (K.drawn_row h2), fun h1 => up l _ _ _ (K.drawn_col h1)⟩
      · exact ih _ h
  exact this bs _ hb
/-- What Move's lists are good for. -/
def K.Mvd (m n : Int) (bs : List Br) (R C : List Int) : Prop :=
  (K.lse m n bs ≠ 0 → R = [] ∧ C = []) ∧ (K.lse m n bs = 0 → (∀ x ∈ R, x = 0 ∨ x = 1) ∧ (∀ x ∈ C, x = 0 ∨ x = 1) ∧ R.length ≤ 6 ∧ C.length ≤ 6 ∧ K.ver m n bs R C = 0)
theorem K.mv_none {m n : Nat} {bs : List Br} (h : K.chk m n bs = 0) (h1 : 1 ≤ m + n) (hn : ∀ p, p < m + n → (1 : Int) ∉ K.tl (K.leads m bs) (m + n) p) : K.lse m n bs = 14 ∧ K.Mvd m n bs [] [] := by
  have hs : K.stf m n bs = true := (K.stf_iff h h1).2 fun x y hx hy => by
    refine K.R_iff.1 ?_
    cases hr : K.R (K.leads m bs) x y with
    | true => rfl
    | false =>
      exfalso
      refine hn y hy (List.mem_iff_getElem?.2 ⟨x, ?_⟩)
      rw [K.tl_at hx]
      unfold K.tv
      rw [hr]; rfl
  have hl : K.lse m n bs = 14 := by unfold K.lse; rw [if_pos h, if_pos hs]
  exact ⟨hl, fun _ => ⟨rfl, rfl⟩, fun h0 => by rw [hl] at h0; cases h0⟩
theorem K.mv_hit {m n : Nat} {bs : List Br} (h : K.chk m n bs = 0) {p : Nat} (hp : p < m + n) (h1 : (1 : Int) ∈ K.tl (K.leads m bs) (m + n) p) :
    K.lse m n bs = 0 ∧ K.Mvd m n bs ((K.tl (K.leads m bs) (m + n) p).take m) ((K.tl (K.leads m bs) (m + n) p).drop m) := by
  obtain ⟨m', n', e1, e2, hok⟩ := K.chk_ok h
  have e1 : m' = m := by omega
  have e2 : n' = n := by omega
  subst e1; subst e2
  have hs : K.stf m' n' bs = false := by
    cases hst : K.stf m' n' bs with
    | false => rfl
    | true =>
      exfalso
      have ha := (K.stf_iff h (by omega)).1 hst
      obtain ⟨x, hx⟩ := List.mem_iff_getElem?.1 h1
      have hxl : x < m' + n' := by
        have := (List.getElem?_eq_some_iff.1 hx).1
        rwa [K.tl_len] at this
      rw [K.tl_at hxl] at hx
      unfold K.tv at hx
      rw [if_pos (K.R_iff.2 (ha x p hxl hp))] at hx
      cases hx
  have hl : K.lse m' n' bs = 0 := by unfold K.lse; rw [if_pos h, if_neg (by rw [hs]; simp)]
  have hm6 := hok.m6
  have hn6 := hok.n6
  have h01 : ∀ x ∈ K.tl (K.leads m' bs) (m' + n') p, x = 0 ∨ x = 1 := fun x hx => by
    unfold K.tl at hx
    obtain ⟨y, _, rfl⟩ := List.mem_map.1 hx
    exact K.tv_or _ _ _
  refine ⟨hl, fun h0 => absurd hl h0, fun _ => ⟨fun x hx => h01 x (List.mem_of_mem_take hx), fun x hx => h01 x (List.mem_of_mem_drop hx), by rw [List.length_take]; omega, by rw [List.length_drop, K.tl_len]; omega, ?_⟩⟩
  unfold K.ver
  rw [if_pos h, if_pos ⟨by rw [List.length_take, K.tl_len]; omega, by rw [List.length_drop, K.tl_len]; omega⟩, List.take_append_drop]
  have ho : K.oob (K.tl (K.leads m' bs) (m' + n') p) = false := by
    unfold K.oob
    rw [List.any_eq_false]
    intro x hx
    rcases h01 x hx with rfl | rfl <;> decide
  have hsm : K.same (K.tl (K.leads m' bs) (m' + n') p) = false := by
    cases hh : K.same (K.tl (K.leads m' bs) (m' + n') p) with
    | false => rfl
    | true =>
      exfalso
      unfold K.same at hh
      rw [List.all_eq_true] at hh
      have a1 := eq_of_beq (hh 1 h1)
      have hpm : (0 : Int) ∈ K.tl (K.leads m' bs) (m' + n') p := List.mem_iff_getElem?.2 ⟨p, by
        rw [K.tl_at hp]; unfold K.tv; rw [if_pos (K.R_iff.2 (.refl _))]⟩
      have a2 := eq_of_beq (hh 0 hpm)
      omega
  rw [if_neg (by rw [ho]; simp), if_neg (by rw [hsm]; simp), if_pos]
  rw [List.all_eq_true]
  intro b hb
  have hin := hok.inb b hb
  unfold K.InB at hin
  have hr : ((K.tl (K.leads m' bs) (m' + n') p).take m').getD b.1.toNat 0 = K.tv (K.leads m' bs) p b.1.toNat := by
    rw [List.getD_eq_getElem?_getD, List.getElem?_take, if_pos (by omega), K.tl_at (by omega)]; rfl
  have hc : ((K.tl (K.leads m' bs) (m' + n') p).drop m').getD b.2.1.toNat 0 = K.tv (K.leads m' bs) p (m' + b.2.1.toNat) := by
    rw [List.getD_eq_getElem?_getD, List.getElem?_drop, K.tl_at (by omega)]; rfl
  obtain ⟨l1, l2⟩ := K.leads_has (m := m') hb
  unfold K.kp
  rw [hr, hc]
  have hk := hok.kind b hb
  split
  · exact decide_eq_true (K.tv_le (l1 (by omega)))
  · split
    · exact decide_eq_true (K.tv_le (l2 (by omega)))
    · rename_i n1 n2
      have a := K.tv_le (p := p) (l1 n2)
      have b := K.tv_le (p := p) (l2 n1)
      exact decide_eq_true (by omega)
end Go.Proofs.Ytmbfpekcfeeifaa
