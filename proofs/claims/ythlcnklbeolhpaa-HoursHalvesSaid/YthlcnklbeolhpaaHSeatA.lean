/- The walk of the law HoursSeats. -/
import Derived.Test.YthlcnklbeolhpaaHMoreW
namespace Go.Proofs.Ythlcnklbeolhpaa
open Go.RowKit Ev

/-- The greatest sum of an artist or a machine. -/
def H.lin (T : List (List Int)) : Int := H.top (H.rows T ++ H.cols T)
theorem H.lin_eq (T : List (List Int)) : H.lin T = max (H.top (H.rows T)) (H.top (H.cols T)) := H.top_append _ _
theorem H.mat_lin {E : Nat → Nat → Nat} {m n : Nat} (hm : 1 ≤ m) {x : Int} (hx : 0 ≤ x) : H.lin (H.mat E m n) ≤ x ↔ (∀ i, i < m → H.rs E n i ≤ x) ∧ (∀ d, d < n → H.cs E d m ≤ x) := by
  unfold H.lin
  rw [H.top_le_iff hx, H.mat_rows, H.mat_cols hm]
  simp only [List.mem_append, List.mem_map, List.mem_range]
  constructor
  · intro h
    exact ⟨fun i hi => h _ (Or.inl ⟨i, hi, rfl⟩), fun d hd => h _ (Or.inr ⟨d, hd, rfl⟩)⟩
  · rintro ⟨h1, h2⟩ y (⟨i, hi, e⟩ | ⟨d, hd, e⟩)
    · rw [← e]; exact h1 i hi
    · rw [← e]; exact h2 d hd
theorem H.lin_nonneg (T : List (List Int)) : 0 ≤ H.lin T := H.top_nonneg _
theorem H.ts_le {E : Nat → Nat → Nat} {n : Nat} {x : Int} : ∀ m, (∀ i, i < m → H.rs E n i ≤ x) → H.ts E n m ≤ m * x
  | 0, _ => by simp [H.ts]
  | m + 1, h => by
    have h1 := H.ts_le m (fun i hi => h i (by omega))
    have h2 := h m (by omega)
    rw [H.ts]
    push_cast
    rw [Int.add_mul, Int.one_mul]
    omega
/-- The sums of the machines make the total, too. -/
def H.us (E : Nat → Nat → Nat) (m : Nat) : Nat → Int
  | 0 => 0
  | n + 1 => H.us E m n + H.cs E n m
theorem H.us_succ (E : Nat → Nat → Nat) (m : Nat) : ∀ n, H.us E (m + 1) n = H.us E m n + H.rs E n m
  | 0 => rfl
  | n + 1 => by
    rw [H.us, H.us_succ E m n, H.us, H.rs_succ, H.cs]
    omega
theorem H.us_zero (E : Nat → Nat → Nat) : ∀ n, H.us E 0 n = 0
  | 0 => rfl
  | n + 1 => by rw [H.us, H.us_zero E n]; rfl
theorem H.ts_us (E : Nat → Nat → Nat) (n : Nat) : ∀ m, H.ts E n m = H.us E m n
  | 0 => by rw [H.us_zero]; rfl
  | m + 1 => by rw [H.ts, H.ts_us E n m, H.us_succ]
theorem H.us_le {E : Nat → Nat → Nat} {m : Nat} {x : Int} : ∀ n, (∀ d, d < n → H.cs E d m ≤ x) → H.us E m n ≤ n * x
  | 0, _ => by simp [H.us]
  | n + 1, h => by
    have h1 := H.us_le n (fun i hi => h i (by omega))
    have h2 := h n (by omega)
    rw [H.us]
    push_cast
    rw [Int.add_mul, Int.one_mul]
    omega
theorem H.rs_ts {E : Nat → Nat → Nat} {n : Nat} : ∀ m, (∀ i, i < m → H.rs E n i ≤ H.ts E n m) ∧ 0 ≤ H.ts E n m
  | 0 => ⟨fun i hi => absurd hi (Nat.not_lt_zero _), Int.le_refl _⟩
  | m + 1 => by
    obtain ⟨h1, h2⟩ := H.rs_ts (E := E) (n := n) m
    have h4 : 0 ≤ H.rs E n m := by
      clear h1 h2
      induction n with
      | zero => exact Int.le_refl _
      | succ n ih => rw [H.rs_succ]; omega
    rw [H.ts]
    refine ⟨fun i hi => ?_, by omega⟩
    by_cases e : i = m
    · subst e; omega
    · have := h1 i (by omega); omega
theorem H.cs_nonneg (E : Nat → Nat → Nat) (d : Nat) : ∀ m, 0 ≤ H.cs E d m
  | 0 => Int.le_refl _
  | m + 1 => by have := H.cs_nonneg E d m; rw [H.cs]; omega
theorem H.cs_us {E : Nat → Nat → Nat} {m : Nat} : ∀ n, (∀ d, d < n → H.cs E d m ≤ H.us E m n) ∧ 0 ≤ H.us E m n
  | 0 => ⟨fun i hi => absurd hi (Nat.not_lt_zero _), Int.le_refl _⟩
  | n + 1 => by
    obtain ⟨h1, h2⟩ := H.cs_us (E := E) (m := m) n
    have h4 := H.cs_nonneg E n m
    rw [H.us]
    refine ⟨fun i hi => ?_, by omega⟩
    by_cases e : i = n
    · subst e; omega
    · have := h1 i (by omega); omega
theorem H.sht_lin {E : Nat → Nat → Nat} {m n : Nat} (hm : 1 ≤ m) {s x : Int} (hs : 1 ≤ s) (hx : 0 ≤ x) : H.sht (H.mat E m n) s ≤ x ↔ H.lin (H.mat E m n) ≤ x ∧ H.ts E n m ≤ s * x := by
  rw [H.mat_sht hm hs hx, H.mat_lin hm hx]
  constructor
  · rintro ⟨h1, h2, h3⟩; exact ⟨⟨h1, h2⟩, h3⟩
  · rintro ⟨⟨h1, h2⟩, h3⟩; exact ⟨h1, h2, h3⟩
theorem H.eq_of_le {a b : Int} (ha : 0 ≤ a) (hb : 0 ≤ b) (h : ∀ x, 0 ≤ x → (a ≤ x ↔ b ≤ x)) : a = b := by
  have h1 := (h a ha).1 (Int.le_refl _)
  have h2 := (h b hb).2 (Int.le_refl _)
  omega
/-- With as many seats as artists or machines the seats do not matter; with one it is the total. -/
theorem H.sht_all {E : Nat → Nat → Nat} {m n : Nat} (hm : 1 ≤ m) (hn : 1 ≤ n) : H.sht (H.mat E m n) ((min m n : Nat) : Int) = H.lin (H.mat E m n) := by
  refine H.eq_of_le (H.sht_nonneg _ _) (H.lin_nonneg _) fun x hx => ?_
  rw [H.sht_lin hm (by omega) hx]
  constructor
  · exact fun h => h.1
  · intro h
    refine ⟨h, ?_⟩
    obtain ⟨h1, h2⟩ := (H.mat_lin hm hx).1 h
    by_cases e : m ≤ n
    · rw [Nat.min_eq_left e]; exact H.ts_le m h1
    · rw [Nat.min_eq_right (by omega), H.ts_us]; exact H.us_le n h2
theorem H.sht_one {E : Nat → Nat → Nat} {m n : Nat} (hm : 1 ≤ m) : H.sht (H.mat E m n) 1 = H.ts E n m := by
  refine H.eq_of_le (H.sht_nonneg _ _) (H.rs_ts m).2 fun x hx => ?_
  rw [H.mat_sht hm (by decide) hx, Int.one_mul]
  constructor
  · exact fun h => h.2.2
  · intro h
    have h1 := H.rs_ts (E := E) (n := n) m
    have h2 := H.cs_us (E := E) (m := m) n
    rw [← H.ts_us] at h2
    exact ⟨fun i hi => by have := h1.1 i hi; omega, fun d hd => by have := h2.1 d hd; omega, h⟩
/-- How many seats are enough. -/
theorem H.enough_ok {E : Nat → Nat → Nat} {m n : Nat} (hm : 1 ≤ m) (hm4 : m ≤ 4) (hok : H.Ok (H.mat E m n)) (t : Nat) :
    H.enX (H.mat E m n) t = (if (t : Int) < H.lin (H.mat E m n) then 14 else 0) ∧ ((t : Int) < H.lin (H.mat E m n) → H.enE (H.mat E m n) t = 0) ∧
      (¬ (t : Int) < H.lin (H.mat E m n) → 0 ≤ H.enE (H.mat E m n) t ∧ H.enE (H.mat E m n) t ≤ 6 ∧ (∀ s : Nat, 1 ≤ s → (H.sht (H.mat E m n) s ≤ t ↔ H.enE (H.mat E m n) t ≤ s)) ∧ (H.enE (H.mat E m n) t = 0 ↔ H.tot (H.mat E m n) = 0)) := by
  have hX : H.enX (H.mat E m n) t = if (t : Int) < H.lin (H.mat E m n) then 14 else 0 := by
    unfold H.enX
    rw [if_pos hok.chk, if_neg (by omega), H.lin_eq]
  refine ⟨hX, fun h => ?_, fun h => ?_⟩
  · unfold H.enE
    rw [hX, if_pos h, if_neg (by decide)]
  · have hE : H.enE (H.mat E m n) t = if H.tot (H.mat E m n) = 0 then 0 else H.ceil (H.tot (H.mat E m n)) t := by
      unfold H.enE
      rw [hX, if_neg h, if_pos rfl]
    have htb := hok.tot_bd
    rw [hE]
    by_cases h0 : H.tot (H.mat E m n) = 0
    · rw [if_pos h0]
      refine ⟨Int.le_refl _, by decide, fun s hs => ?_, by simp [h0]⟩
      rw [H.sht_lin hm (by omega) (by omega), ← H.mat_tot, h0]
      have : (0 : Int) ≤ (s : Int) * (t : Int) := Int.mul_nonneg (by omega) (by omega)
      omega
    · rw [if_neg h0]
      have ht1 : (1 : Int) ≤ (t : Int) := H.len_pos hok h0 (by rw [← H.lin_eq]; exact h)
      have hcn := H.ceil_bd htb.1 ht1
      refine ⟨hcn.1, ?_, fun s hs => ?_, ?_⟩
      · have h4 := H.ts_le (E := E) (n := n) (x := (t : Int)) m ((H.mat_lin hm (by omega)).1 (by omega)).1
        refine (H.ceil_le ht1).2 ?_
        rw [H.mat_tot]
        have : (m : Int) * (t : Int) ≤ 6 * (t : Int) := Int.mul_le_mul_of_nonneg_right (by omega) (by omega)
        omega
      · rw [H.sht_lin hm (by omega) (by omega), H.ceil_le ht1, H.mat_tot, Int.mul_comm (s : Int)]
        constructor
        · exact fun h => h.2
        · exact fun h2 => ⟨by omega, h2⟩
      · constructor
        · intro e
          have := (H.ceil_le (t := H.tot (H.mat E m n)) (x := 0) ht1).1 (by omega)
          rw [Int.mul_zero] at this
          omega
        · exact fun e => absurd e h0
end Go.Proofs.Ythlcnklbeolhpaa
