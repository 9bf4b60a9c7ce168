/- HoursHalves: the sums of a work that is multiplied, exchanged or in another order. -/
import Derived.Test.YthlcnklbeolhpaaHSeatA
namespace Go.Proofs.Ythlcnklbeolhpaa
open Go.RowKit Ev

/-- So many times the work. -/
def H.ek (k : Nat) (E : Nat → Nat → Nat) (s d : Nat) : Nat := k * E s d
/-- Artists and machines exchanged. -/
def H.eT (E : Nat → Nat → Nat) (s d : Nat) : Nat := E d s
/-- In another order. -/
def H.eM (E : Nat → Nat → Nat) (m n t : Nat) (s d : Nat) : Nat := E ((s + t) % m) ((d + 1) % n)
theorem H.rs_zero (E : Nat → Nat → Nat) (s : Nat) : H.rs E 0 s = 0 := rfl
theorem H.rs_ek (k : Nat) (E : Nat → Nat → Nat) (s : Nat) : ∀ n, H.rs (H.ek k E) n s = k * H.rs E n s
  | 0 => by rw [H.rs_zero, H.rs_zero, Int.mul_zero]
  | n + 1 => by rw [H.rs_succ, H.rs_succ, H.rs_ek k E s n, H.ek, Int.mul_add]; push_cast; rfl
theorem H.cs_ek (k : Nat) (E : Nat → Nat → Nat) (d : Nat) : ∀ m, H.cs (H.ek k E) d m = k * H.cs E d m
  | 0 => by rw [H.cs, H.cs, Int.mul_zero]
  | m + 1 => by rw [H.cs, H.cs, H.cs_ek k E d m, H.ek, Int.mul_add]; push_cast; rfl
theorem H.ts_ek (k : Nat) (E : Nat → Nat → Nat) (n : Nat) : ∀ m, H.ts (H.ek k E) n m = k * H.ts E n m
  | 0 => by rw [H.ts, H.ts, Int.mul_zero]
  | m + 1 => by rw [H.ts, H.ts, H.ts_ek k E n m, H.rs_ek, Int.mul_add]
theorem H.rs_eT (E : Nat → Nat → Nat) (s : Nat) : ∀ n, H.rs (H.eT E) n s = H.cs E s n
  | 0 => rfl
  | n + 1 => by rw [H.rs_succ, H.cs, H.rs_eT E s n, H.eT]
theorem H.cs_eT (E : Nat → Nat → Nat) (d : Nat) : ∀ m, H.cs (H.eT E) d m = H.rs E m d
  | 0 => rfl
  | m + 1 => by rw [H.rs_succ, H.cs, H.cs_eT E d m, H.eT]
theorem H.ts_eT (E : Nat → Nat → Nat) (n : Nat) : ∀ m, H.ts (H.eT E) n m = H.us E n m
  | 0 => rfl
  | m + 1 => by rw [H.ts, H.us, H.ts_eT E n m, H.rs_eT]
theorem H.rs_eM {E : Nat → Nat → Nat} {m n t s : Nat} (hn : 1 ≤ n ∧ n ≤ 4) : H.rs (H.eM E m n t) n s = H.rs E n ((s + t) % m) := by
  have h : n = 1 ∨ n = 2 ∨ n = 3 ∨ n = 4 := by omega
  rcases h with rfl | rfl | rfl | rfl <;> simp [H.rs_succ, H.rs_zero, H.eM] <;> omega
theorem H.rot_eq {m t s : Nat} : (s + t) % m = (s + t % m) % m := by rw [Nat.add_mod_mod]
theorem H.cs_eM {E : Nat → Nat → Nat} {m n t d : Nat} (hm : 1 ≤ m ∧ m ≤ 4) : H.cs (H.eM E m n t) d m = H.cs E ((d + 1) % n) m := by
  have h : (m = 1 ∧ t % m = 0) ∨ (m = 2 ∧ t % m = 0) ∨ (m = 2 ∧ t % m = 1) ∨ (m = 3 ∧ t % m = 0) ∨ (m = 3 ∧ t % m = 1) ∨ (m = 3 ∧ t % m = 2) ∨ (m = 4 ∧ t % m = 0) ∨ (m = 4 ∧ t % m = 1) ∨ (m = 4 ∧ t % m = 2) ∨ (m = 4 ∧ t % m = 3) := by
    have := Nat.mod_lt t (show 0 < m by omega)
    omega
  have he : ∀ s d, H.eM E m n t s d = E ((s + t % m) % m) ((d + 1) % n) := fun s d => by unfold H.eM; rw [H.rot_eq]
  rcases h with ⟨rfl, h⟩ | ⟨rfl, h⟩ | ⟨rfl, h⟩ | ⟨rfl, h⟩ | ⟨rfl, h⟩ | ⟨rfl, h⟩ | ⟨rfl, h⟩ | ⟨rfl, h⟩ | ⟨rfl, h⟩ | ⟨rfl, h⟩ <;> rw [h] at he <;> simp [H.cs, he] <;> omega
theorem H.ts_eM {E : Nat → Nat → Nat} {m n t : Nat} (hm : 1 ≤ m ∧ m ≤ 4) (hn : 1 ≤ n ∧ n ≤ 4) : H.ts (H.eM E m n t) n m = H.ts E n m := by
  have h : (m = 1 ∧ t % m = 0) ∨ (m = 2 ∧ t % m = 0) ∨ (m = 2 ∧ t % m = 1) ∨ (m = 3 ∧ t % m = 0) ∨ (m = 3 ∧ t % m = 1) ∨ (m = 3 ∧ t % m = 2) ∨ (m = 4 ∧ t % m = 0) ∨ (m = 4 ∧ t % m = 1) ∨ (m = 4 ∧ t % m = 2) ∨ (m = 4 ∧ t % m = 3) := by
    have := Nat.mod_lt t (show 0 < m by omega)
    omega
  have he : ∀ s, H.rs (H.eM E m n t) n s = H.rs E n ((s + t % m) % m) := fun s => by rw [H.rs_eM hn, H.rot_eq]
  rcases h with ⟨rfl, h⟩ | ⟨rfl, h⟩ | ⟨rfl, h⟩ | ⟨rfl, h⟩ | ⟨rfl, h⟩ | ⟨rfl, h⟩ | ⟨rfl, h⟩ | ⟨rfl, h⟩ | ⟨rfl, h⟩ | ⟨rfl, h⟩ <;> rw [h] at he <;> simp [H.ts, he] <;> omega
theorem H.rot_onto {m t i : Nat} (hm : 1 ≤ m ∧ m ≤ 4) (hi : i < m) : ∃ j, j < m ∧ (j + t) % m = i := by
  have h : m = 1 ∨ m = 2 ∨ m = 3 ∨ m = 4 := by omega
  rcases h with rfl | rfl | rfl | rfl
  · exact ⟨0, by omega, by omega⟩
  · exact ⟨(i + 2 - t % 2) % 2, by omega, by omega⟩
  · exact ⟨(i + 3 - t % 3) % 3, by omega, by omega⟩
  · exact ⟨(i + 4 - t % 4) % 4, by omega, by omega⟩
theorem H.sht_refl {E : Nat → Nat → Nat} {m n : Nat} (hm : 1 ≤ m) {s : Int} (hs : 1 ≤ s) : (∀ i, i < m → H.rs E n i ≤ H.sht (H.mat E m n) s) ∧ (∀ d, d < n → H.cs E d m ≤ H.sht (H.mat E m n) s) ∧ H.ts E n m ≤ s * H.sht (H.mat E m n) s :=
  (H.mat_sht hm hs (H.sht_nonneg _ _)).1 (Int.le_refl _)
/-- So many times the work: at most so many times as long, and no shorter. -/
theorem H.sht_ek {E : Nat → Nat → Nat} {m n : Nat} (hm : 1 ≤ m) {s : Int} (hs : 1 ≤ s) {k : Nat} (hk : 1 ≤ k) : H.sht (H.mat (H.ek k E) m n) s ≤ k * H.sht (H.mat E m n) s ∧ H.sht (H.mat E m n) s ≤ H.sht (H.mat (H.ek k E) m n) s := by
  have h0 := H.sht_nonneg (H.mat E m n) s
  have hk0 : (0 : Int) ≤ (k : Int) := by omega
  have hr : ∀ i, 0 ≤ H.rs E n i := fun i => by rw [← H.cs_eT]; exact H.cs_nonneg _ _ _
  have ht : 0 ≤ H.ts E n m := (H.rs_ts m).2
  have hone : ∀ x : Int, 0 ≤ x → x ≤ k * x := fun x hx => by
    have := Int.mul_le_mul_of_nonneg_right (show (1 : Int) ≤ (k : Int) by omega) hx
    omega
  constructor
  · rw [H.mat_sht hm hs (Int.mul_nonneg hk0 h0)]
    obtain ⟨h1, h2, h3⟩ := H.sht_refl (E := E) (n := n) hm hs
    refine ⟨fun i hi => ?_, fun d hd => ?_, ?_⟩
    · rw [H.rs_ek]; exact Int.mul_le_mul_of_nonneg_left (h1 i hi) hk0
    · rw [H.cs_ek]; exact Int.mul_le_mul_of_nonneg_left (h2 d hd) hk0
    · rw [H.ts_ek, Int.mul_left_comm]; exact Int.mul_le_mul_of_nonneg_left h3 hk0
  · rw [H.mat_sht hm hs (H.sht_nonneg _ _)]
    obtain ⟨h1, h2, h3⟩ := H.sht_refl (E := H.ek k E) (n := n) hm hs
    refine ⟨fun i hi => ?_, fun d hd => ?_, ?_⟩
    · have := h1 i hi; rw [H.rs_ek] at this; exact Int.le_trans (hone _ (hr i)) this
    · have := h2 d hd; rw [H.cs_ek] at this; exact Int.le_trans (hone _ (H.cs_nonneg _ _ _)) this
    · rw [H.ts_ek] at h3; exact Int.le_trans (hone _ ht) h3
theorem H.sht_eT {E : Nat → Nat → Nat} {m n : Nat} (hm : 1 ≤ m) (hn : 1 ≤ n) {s : Int} (hs : 1 ≤ s) : H.sht (H.mat (H.eT E) n m) s = H.sht (H.mat E m n) s := by
  refine H.eq_of_le (H.sht_nonneg _ _) (H.sht_nonneg _ _) fun x hx => ?_
  rw [H.mat_sht hn hs hx, H.mat_sht hm hs hx, H.ts_eT, H.ts_us E n m]
  have e1 : ∀ n m, H.us E n m = H.us E n m := fun _ _ => rfl
  simp only [H.rs_eT, H.cs_eT]
  constructor
  · rintro ⟨h1, h2, h3⟩; exact ⟨h2, h1, h3⟩
  · rintro ⟨h1, h2, h3⟩; exact ⟨h2, h1, h3⟩
theorem H.sht_eM {E : Nat → Nat → Nat} {m n : Nat} (t : Nat) (hm : 1 ≤ m ∧ m ≤ 4) (hn : 1 ≤ n ∧ n ≤ 4) {s : Int} (hs : 1 ≤ s) : H.sht (H.mat (H.eM E m n t) m n) s = H.sht (H.mat E m n) s := by
  refine H.eq_of_le (H.sht_nonneg _ _) (H.sht_nonneg _ _) fun x hx => ?_
  rw [H.mat_sht hm.1 hs hx, H.mat_sht hm.1 hs hx, H.ts_eM hm hn]
  simp only [H.rs_eM hn, H.cs_eM hm]
  constructor
  · rintro ⟨h1, h2, h3⟩
    refine ⟨fun i hi => ?_, fun d hd => ?_, h3⟩
    · obtain ⟨j, hj, e⟩ := H.rot_onto (t := t) hm hi
      have := h1 j hj
      rwa [e] at this
    · obtain ⟨j, hj, e⟩ := H.rot_onto (t := 1) hn hd
      have := h2 j hj
      rwa [e] at this
  · rintro ⟨h1, h2, h3⟩
    exact ⟨fun i _ => h1 _ (Nat.mod_lt _ (by omega)), fun d _ => h2 _ (Nat.mod_lt _ (by omega)), h3⟩
end Go.Proofs.Ythlcnklbeolhpaa
