/- Package ink: the colours that are ever given: as plain functions. No program is named here. -/
import Derived.Test.YtapndndbibgjoaaIAdd
import Derived.Test.YtapndndbibgjoaaEvRes
namespace Go.Proofs.Ytapndndbibgjoaa
open Go.RowKit

def K.Sub (s t : Nat) : Prop := ∀ c, s.testBit c = true → t.testBit c = true
theorem K.Sub.refl (s : Nat) : K.Sub s s := fun _ h => h
theorem K.Sub.trans {a b c : Nat} (h : K.Sub a b) (k : K.Sub b c) : K.Sub a c := fun x hx => k x (h x hx)
theorem K.Sub.eq {a b : Nat} (h : K.Sub a b) (k : K.Sub b a) : a = b := Nat.eq_of_testBit_eq fun c => by
  rw [Bool.eq_iff_iff]; exact ⟨h c, k c⟩
theorem K.Sub.or {a b c : Nat} (h : K.Sub a c) (k : K.Sub b c) : K.Sub (a ||| b) c := fun x hx => by
  rw [Nat.testBit_or, Bool.or_eq_true] at hx
  rcases hx with hx | hx
  · exact h x hx
  · exact k x hx
theorem K.sub_or_left (a b : Nat) : K.Sub a (a ||| b) := fun x hx => by rw [Nat.testBit_or, hx]; rfl
theorem K.sub_or_right (a b : Nat) : K.Sub b (a ||| b) := fun x hx => by rw [Nat.testBit_or, hx]; simp

/-- What an ink makes of the colours of a set is in a set. -/
def K.Makes (r : List Int) (s t : Nat) : Prop := ∀ c, c < 7 → s.testBit c = true → t.testBit (r.getD c 0).toNat = true

theorem K.addR_sub (r : List Int) (s : Nat) : ∀ k, K.Sub s (K.addR r s k)
  | k => fun _ h => K.addR_bit r h k
theorem K.addR_in {r : List Int} {s t : Nat} (h : K.Sub s t) (hm : K.Makes r s t) : ∀ k, k ≤ 7 → K.Sub (K.addR r s k) t
  | 0, _ => h
  | k + 1, hk => by
    rw [K.addR_succ]
    split
    · rename_i hb
      refine (K.addR_in h hm k (by omega)).or fun x hx => ?_
      rw [Nat.testBit_two_pow] at hx
      have : (r.getD k 0).toNat = x := by simpa using hx
      rw [← this]; exact hm k (by omega) hb
    · exact K.addR_in h hm k (by omega)
theorem K.addR_makes (r : List Int) (s : Nat) : ∀ k c, c < k → s.testBit c = true → (K.addR r s k).testBit (r.getD c 0).toNat = true
  | 0, c, h, _ => by omega
  | k + 1, c, h, hb => by
    rw [K.addR_succ]
    by_cases e : c = k
    · subst e
      rw [if_pos hb, Nat.testBit_or, Nat.testBit_two_pow]; simp
    · have := K.addR_makes r s k c (by omega) hb
      split
      · rw [Nat.testBit_or, this]; rfl
      · exact this

theorem K.addL_seven (r : List Int) {s : Nat} (hs : s < 128) : K.addL r s = K.addR r s 7 := K.addL_eq r (n := 7) hs (Nat.le_refl _)
theorem K.addL_sub (r : List Int) {s : Nat} (hs : s < 128) : K.Sub s (K.addL r s) := by rw [K.addL_seven r hs]; exact K.addR_sub r s 7
theorem K.addL_in {r : List Int} {s t : Nat} (hs : s < 128) (h : K.Sub s t) (hm : K.Makes r s t) : K.Sub (K.addL r s) t := by rw [K.addL_seven r hs]; exact K.addR_in h hm 7 (Nat.le_refl _)
theorem K.addL_makes (r : List Int) {s : Nat} (hs : s < 128) : K.Makes r s (K.addL r s) := fun c hc hb => by rw [K.addL_seven r hs]; exact K.addR_makes r s 7 c hc hb
theorem K.Makes.mono {r : List Int} {s s' t : Nat} (h : K.Makes r s t) (k : K.Sub s' s) : K.Makes r s' t := fun c hc hb => h c hc (k c hb)
theorem K.Makes.weak {r : List Int} {s t t' : Nat} (h : K.Makes r s t) (k : K.Sub t t') : K.Makes r s t' := fun c hc hb => k _ (h c hc hb)

/-- No ink makes another colour. -/
def K.Closed (T : List (List Int)) (s : Nat) : Prop := ∀ r ∈ T, K.Makes r s s

theorem K.grown_sub (T : List (List Int)) (s : Nat) : K.Sub s (K.grown T s) := fun _ h => K.grown_bit h
theorem K.grown_has {T : List (List Int)} {s : Nat} {r : List Int} (hr : r ∈ T) : K.Sub (K.addL r s) (K.grown T s) := by
  have : ∀ (T : List (List Int)) (a : Nat), r ∈ T ∨ K.Sub (K.addL r s) a → K.Sub (K.addL r s) (T.foldl (fun a r => a ||| K.addL r s) a) := fun T => by
    induction T with
    | nil => intro a h; rcases h with h | h
             · cases h
             · exact h
    | cons q T ih =>
      intro a h
      rw [List.foldl_cons]
      refine ih _ ?_
      rcases h with h | h
      · rcases List.mem_cons.1 h with rfl | h
        · exact .inr (K.sub_or_right _ _)
        · exact .inl h
      · exact .inr (h.trans (K.sub_or_left _ _))
  exact this T s (.inl hr)
theorem K.grown_in {T : List (List Int)} {s t : Nat} (h : K.Sub s t) (hm : ∀ r ∈ T, K.Sub (K.addL r s) t) : K.Sub (K.grown T s) t := by
  have : ∀ (T : List (List Int)) (a : Nat), K.Sub a t → (∀ r ∈ T, K.Sub (K.addL r s) t) → K.Sub (T.foldl (fun a r => a ||| K.addL r s) a) t := fun T => by
    induction T with
    | nil => intro a h _; exact h
    | cons q T ih => intro a h hm; rw [List.foldl_cons]; exact ih _ (h.or (hm q (by simp))) (fun r hr => hm r (by simp [hr]))
  exact this T s h hm
theorem K.closed_iff {T : List (List Int)} {s : Nat} (hs : s < 128) : K.grown T s = s ↔ K.Closed T s := by
  constructor
  · intro h r hr
    have h2 := (K.addL_makes r hs).weak (K.grown_has hr (s := s))
    rw [h] at h2
    exact h2
  · intro h
    exact (K.grown_in (K.Sub.refl s) (fun r hr => K.addL_in hs (K.Sub.refl s) (h r hr))).eq (K.grown_sub T s)

/-- All colours that some sequence gives. -/
structure K.Ever (n : Nat) (T : List (List Int)) (g : Nat) : Prop where
  lt : g < 2 ^ n
  bit : g.testBit 0 = true
  closed : K.Closed T g
  least : ∀ C, C.testBit 0 = true → K.Closed T C → K.Sub g C
theorem K.Ever.unique {n : Nat} {T : List (List Int)} {g h : Nat} (a : K.Ever n T g) (b : K.Ever n T h) : g = h := (a.least h b.bit b.closed).eq (b.least g a.bit a.closed)

/-- One after the other. -/
def K.seq (T : List (List Int)) (s : Nat) : Nat := T.foldl (fun a r => K.addL r a) s
theorem K.seq_take_succ {T : List (List Int)} {s k : Nat} (h : k < T.length) : K.seq (T.take (k + 1)) s = K.addL T[k] (K.seq (T.take k) s) := by
  unfold K.seq
  rw [List.take_succ_eq_append_getElem h, List.foldl_append]
  rfl
theorem K.seq_lt {n : Nat} (hn : n ≤ 7) : ∀ {T : List (List Int)} (_ : ∀ r ∈ T, K.Row n r) {s : Nat}, s < 2 ^ n → K.seq T s < 2 ^ n
  | [], _, _, hs => hs
  | r :: T, h, s, hs => K.seq_lt hn (T := T) (fun q hq => h q (by simp [hq])) (K.addL_lt (h r (by simp)) hs hn)
theorem K.seq_sub {n : Nat} (hn : n ≤ 7) : ∀ {T : List (List Int)} (_ : ∀ r ∈ T, K.Row n r) {s : Nat}, s < 2 ^ n → K.Sub s (K.seq T s)
  | [], _, s, _ => K.Sub.refl s
  | r :: T, h, s, hs => (K.addL_sub r (K.lt_128 hs hn)).trans (K.seq_sub hn (T := T) (fun q hq => h q (by simp [hq])) (K.addL_lt (h r (by simp)) hs hn))
theorem K.seq_makes {n : Nat} (hn : n ≤ 7) : ∀ {T : List (List Int)} (_ : ∀ r ∈ T, K.Row n r) {s : Nat}, s < 2 ^ n → ∀ r ∈ T, K.Makes r s (K.seq T s)
  | [], _, _, _, r, hr => by cases hr
  | q :: T, h, s, hs, r, hr => by
    have hq := K.addL_lt (h q (by simp)) hs hn
    have ht : ∀ r ∈ T, K.Row n r := fun q hq => h q (by simp [hq])
    rcases List.mem_cons.1 hr with rfl | hr
    · exact (K.addL_makes r (K.lt_128 hs hn)).weak (K.seq_sub hn ht hq)
    · exact (K.seq_makes hn ht hq r hr).mono (K.addL_sub q (K.lt_128 hs hn))
theorem K.seq_in {n : Nat} (hn : n ≤ 7) : ∀ {T : List (List Int)} (_ : ∀ r ∈ T, K.Row n r) {s C : Nat}, s < 2 ^ n → K.Sub s C → K.Closed T C → K.Sub (K.seq T s) C
  | [], _, _, _, _, h, _ => h
  | r :: T, h, s, C, hs, hsub, hC => by
    have hr := h r (by simp)
    exact K.seq_in hn (T := T) (fun q hq => h q (by simp [hq])) (K.addL_lt hr hs hn) (K.addL_in (K.lt_128 hs hn) hsub ((hC r (by simp)).mono hsub)) (fun q hq => hC q (by simp [hq]))

def K.rounds (T : List (List Int)) : Nat → Nat
  | 0 => 1
  | k + 1 => K.seq T (K.rounds T k)

def K.card (s : Nat) : Nat := (K.cols s).length
theorem K.card_run : Ev.allB (fun s => Ev.allB (fun t => !((s &&& t).beq s) || s.beq t || (K.card s).blt (K.card t)) 128) 128 = true := by kernel_rfl
theorem K.card_max : Ev.allB (fun n => Ev.allB (fun s => (K.card s).ble n) (2 ^ n)) 8 = true := by kernel_rfl
theorem K.card_lt {s t : Nat} (hs : s < 128) (ht : t < 128) (h : K.Sub s t) (hne : s ≠ t) : K.card s < K.card t := by
  have h1 := Ev.allB_get (Ev.allB_get K.card_run s hs) t ht
  have h2 : (s &&& t) = s := Nat.eq_of_testBit_eq fun c => by
    rw [Nat.testBit_and]
    cases hc : s.testBit c with
    | false => rfl
    | true => rw [h c hc]; rfl
  have h3 : (s &&& t).beq s = true := by rw [h2]; exact Nat.beq_refl s
  have h4 : s.beq t = false := by
    cases hb : s.beq t with
    | false => rfl
    | true => exact absurd (Nat.eq_of_beq_eq_true hb) hne
  simp only [h3, h4, Bool.not_true, Bool.false_or] at h1
  simpa [Nat.blt_eq] using h1
theorem K.card_le {s n : Nat} (hn : n ≤ 7) (hs : s < 2 ^ n) : K.card s ≤ n := by
  have := Ev.allB_get (Ev.allB_get K.card_max n (by omega)) s hs
  exact Nat.le_of_ble_eq_true this

theorem K.rounds_lt {n : Nat} (h1 : 1 ≤ n) (hn : n ≤ 7) {T : List (List Int)} (h : ∀ r ∈ T, K.Row n r) : ∀ k, K.rounds T k < 2 ^ n
  | 0 => Nat.one_lt_two_pow (by omega)
  | k + 1 => K.seq_lt hn h (K.rounds_lt h1 hn h k)
theorem K.rounds_fix {n : Nat} (h1 : 1 ≤ n) (hn : n ≤ 7) {T : List (List Int)} (h : ∀ r ∈ T, K.Row n r) : ∀ k, K.seq T (K.rounds T k) = K.rounds T k ∨ k + 1 ≤ K.card (K.rounds T k)
  | 0 => .inr (show 0 + 1 ≤ K.card 1 by decide)
  | k + 1 => by
    rcases K.rounds_fix h1 hn h k with e | e
    · left; show K.seq T (K.seq T (K.rounds T k)) = K.seq T (K.rounds T k); rw [e, e]
    · by_cases e2 : K.seq T (K.rounds T k) = K.rounds T k
      · left; show K.seq T (K.seq T (K.rounds T k)) = K.seq T (K.rounds T k); rw [e2, e2]
      · right
        have l := K.rounds_lt h1 hn h k
        have := K.card_lt (K.lt_128 l hn) (K.lt_128 (K.seq_lt hn h l) hn) (K.seq_sub hn h l) (Ne.symm e2)
        show k + 1 + 1 ≤ K.card (K.seq T (K.rounds T k))
        omega
theorem K.rounds_ever {n : Nat} (h1 : 1 ≤ n) (hn : n ≤ 7) {T : List (List Int)} (h : ∀ r ∈ T, K.Row n r) : K.Ever n T (K.rounds T n) := by
  have l := K.rounds_lt h1 hn h n
  have hfix : K.seq T (K.rounds T n) = K.rounds T n := by
    rcases K.rounds_fix h1 hn h n with e | e
    · exact e
    · have := K.card_le hn l; omega
  have hsub : ∀ k, K.Sub 1 (K.rounds T k) := fun k => by
    induction k with
    | zero => exact K.Sub.refl 1
    | succ k ih => exact ih.trans (K.seq_sub hn h (K.rounds_lt h1 hn h k))
  have hleast : ∀ C, C.testBit 0 = true → K.Closed T C → ∀ k, K.Sub (K.rounds T k) C := fun C h0 hC k => by
    induction k with
    | zero =>
      intro c hc
      cases c with
      | zero => exact h0
      | succ c =>
        have : Nat.testBit 1 (c + 1) = false := Nat.testBit_lt_two_pow (Nat.one_lt_two_pow (by omega))
        rw [show K.rounds T 0 = 1 from rfl, this] at hc; cases hc
    | succ k ih => exact K.seq_in hn h (K.rounds_lt h1 hn h k) ih hC
  refine ⟨l, hsub n 0 rfl, fun r hr => ?_, fun C h0 hC => hleast C h0 hC n⟩
  have := K.seq_makes hn h l r hr
  rwa [hfix] at this
theorem K.one_sub {C : Nat} (h : C.testBit 0 = true) : K.Sub 1 C := fun x hx => by
  cases x with
  | zero => exact h
  | succ x => rw [show Nat.testBit 1 (x + 1) = false from Nat.testBit_lt_two_pow (Nat.one_lt_two_pow (by omega))] at hx; cases hx
theorem K.Sub.le {s t : Nat} (h : K.Sub s t) : s ≤ t := by
  have h2 : (s &&& t) = s := Nat.eq_of_testBit_eq fun c => by
    rw [Nat.testBit_and]
    cases hc : s.testBit c with
    | false => rfl
    | true => rw [h c hc]; rfl
  rw [← h2]; exact Nat.and_le_right
end Go.Proofs.Ytapndndbibgjoaa
