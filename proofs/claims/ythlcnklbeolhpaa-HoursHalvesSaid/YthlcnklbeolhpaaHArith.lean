/- Package hours: what the shortest length is, by all its bounds; works by numbers. No program is named here but for made's plain works. -/
import Derived.Test.YthlcnklbeolhpaaHWith
import Derived.Test.YthlcnklbeolhpaaHRoom
import Derived.Test.YthlcnklbeolhpaaHEnough
namespace Go.Proofs.Ythlcnklbeolhpaa
open Go.RowKit

theorem H.ceil_le {t s x : Int} (hs : 1 ≤ s) : H.ceil t s ≤ x ↔ t ≤ s * x := by
  unfold H.ceil
  constructor
  · intro h
    have h1 := Int.mul_ediv_add_emod (t + s - 1) s
    have h2 := Int.emod_lt_of_pos (t + s - 1) (show 0 < s by omega)
    have h3 : s * ((t + s - 1) / s) ≤ s * x := Int.mul_le_mul_of_nonneg_left h (by omega)
    omega
  · intro h
    have : (t + s - 1) / s < x + 1 := Int.ediv_lt_of_lt_mul (by omega) (by rw [Int.add_mul, Int.one_mul, Int.mul_comm]; omega)
    omega
theorem H.top_le_iff {l : List Int} {x : Int} (hx : 0 ≤ x) : H.top l ≤ x ↔ ∀ y ∈ l, y ≤ x :=
  ⟨fun h _ hy => Int.le_trans (H.le_top hy) h, fun h => H.top_le hx h⟩
/-- The shortest length, by all its bounds. -/
theorem H.sht_le {T : List (List Int)} {s x : Int} (hs : 1 ≤ s) (hx : 0 ≤ x) : H.sht T s ≤ x ↔ (∀ y ∈ H.rows T, y ≤ x) ∧ (∀ y ∈ H.cols T, y ≤ x) ∧ H.tot T ≤ s * x := by
  unfold H.sht
  rw [← H.top_le_iff hx, ← H.top_le_iff hx, ← H.ceil_le hs]
  omega
theorem H.sht_nonneg (T : List (List Int)) (s : Int) : 0 ≤ H.sht T s := by
  have := H.top_nonneg (H.rows T)
  unfold H.sht
  omega

/-! Works by numbers. -/
def H.rs (E : Nat → Nat → Nat) (n s : Nat) : Int := H.sum (H.mrow E n s)
theorem H.rs_succ (E : Nat → Nat → Nat) (n s : Nat) : H.rs E (n + 1) s = H.rs E n s + (E s n : Int) := by
  unfold H.rs
  rw [H.mrow_succ, H.sum_append]
  simp [H.sum]
theorem H.mat_wid {E : Nat → Nat → Nat} {m n : Nat} (hm : 1 ≤ m) : H.wid (H.mat E m n) = n := by
  rw [H.wid_eq (by rw [H.mat_len]; omega), H.mat_row, H.mrow_len]
theorem H.mat_rows (E : Nat → Nat → Nat) (m n : Nat) : H.rows (H.mat E m n) = (List.range m).map (H.rs E n) := by
  unfold H.rows H.mat
  rw [List.map_map]
  rfl
def H.cs (E : Nat → Nat → Nat) (d : Nat) : Nat → Int
  | 0 => 0
  | m + 1 => H.cs E d m + (E m d : Int)
def H.ts (E : Nat → Nat → Nat) (n : Nat) : Nat → Int
  | 0 => 0
  | m + 1 => H.ts E n m + H.rs E n m
theorem H.mat_succ (E : Nat → Nat → Nat) (m n : Nat) : H.mat E (m + 1) n = H.mat E m n ++ [H.mrow E n m] := by
  unfold H.mat
  rw [List.range_succ, List.map_append]
  rfl
theorem H.mrow_at {E : Nat → Nat → Nat} {n s d : Nat} (h : d < n) : (H.mrow E n s).getD d 0 = (E s d : Int) := by simp [H.mrow, h]
theorem H.mat_col {E : Nat → Nat → Nat} {n d : Nat} (h : d < n) : ∀ m, H.col (H.mat E m n) d = H.cs E d m
  | 0 => rfl
  | m + 1 => by
    have := H.mat_col (E := E) h m
    unfold H.col at this ⊢
    rw [H.mat_succ, List.map_append, H.sum_append, this, List.map_singleton, H.mrow_at h, H.cs]
    simp [H.sum]
theorem H.mat_tot (E : Nat → Nat → Nat) (n : Nat) : ∀ m, H.tot (H.mat E m n) = H.ts E n m
  | 0 => rfl
  | m + 1 => by
    have := H.mat_tot E n m
    unfold H.tot at this ⊢
    rw [H.mat_succ, List.map_append, H.sum_append, this, List.map_singleton, H.ts]
    simp [H.sum, H.rs]
theorem H.mat_cols {E : Nat → Nat → Nat} {m n : Nat} (hm : 1 ≤ m) : H.cols (H.mat E m n) = (List.range n).map fun d => H.cs E d m := by
  unfold H.cols
  rw [H.mat_wid hm]
  refine List.map_congr_left fun d hd => ?_
  exact H.mat_col (List.mem_range.1 hd) m
/-- The shortest length of a work by numbers, by all its bounds. -/
theorem H.mat_sht {E : Nat → Nat → Nat} {m n : Nat} (hm : 1 ≤ m) {s x : Int} (hs : 1 ≤ s) (hx : 0 ≤ x) : H.sht (H.mat E m n) s ≤ x ↔ (∀ i, i < m → H.rs E n i ≤ x) ∧ (∀ d, d < n → H.cs E d m ≤ x) ∧ H.ts E n m ≤ s * x := by
  rw [H.sht_le hs hx, H.mat_rows, H.mat_cols hm, H.mat_tot]
  simp only [List.mem_map, List.mem_range]
  constructor
  · rintro ⟨h1, h2, h3⟩
    exact ⟨fun i hi => h1 _ ⟨i, hi, rfl⟩, fun d hd => h2 _ ⟨d, hd, rfl⟩, h3⟩
  · rintro ⟨h1, h2, h3⟩
    exact ⟨fun y ⟨i, hi, e⟩ => by rw [← e]; exact h1 i hi, fun y ⟨d, hd, e⟩ => by rw [← e]; exact h2 d hd, h3⟩
theorem H.rs_bd {E : Nat → Nat → Nat} {b : Nat} (hE : ∀ s d, E s d ≤ b) (s : Nat) : ∀ n, 0 ≤ H.rs E n s ∧ H.rs E n s ≤ (n : Int) * b
  | 0 => ⟨Int.le_refl _, by simp [H.rs, H.mrow, H.sum]⟩
  | n + 1 => by
    have h1 := H.rs_bd hE s n
    have h2 := hE s n
    rw [H.rs_succ]
    push_cast
    rw [Int.add_mul, Int.one_mul]
    omega
theorem H.cs_bd {E : Nat → Nat → Nat} {b : Nat} (hE : ∀ s d, E s d ≤ b) (d : Nat) : ∀ m, 0 ≤ H.cs E d m ∧ H.cs E d m ≤ (m : Int) * b
  | 0 => ⟨Int.le_refl _, by simp [H.cs]⟩
  | m + 1 => by
    have h1 := H.cs_bd hE d m
    have h2 := hE m d
    rw [H.cs]
    push_cast
    rw [Int.add_mul, Int.one_mul]
    omega
theorem H.mat_dim {E : Nat → Nat → Nat} {m n : Nat} (hm : 1 ≤ m) (hm6 : m ≤ 6) (hn : 1 ≤ n) (hn6 : n ≤ 6) (hE : ∀ s d, E s d ≤ 1000) : H.Dim (H.mat E m n) := by
  have hr : ∀ r ∈ H.mat E m n, ∃ s, s < m ∧ r = H.mrow E n s := fun r hr => by
    unfold H.mat at hr
    obtain ⟨s, hs, rfl⟩ := List.mem_map.1 hr
    exact ⟨s, List.mem_range.1 hs, rfl⟩
  refine ⟨by rw [H.mat_len]; exact hm, by rw [H.mat_len]; exact hm6, by rw [H.mat_wid hm]; exact hn, by rw [H.mat_wid hm]; exact hn6, fun r h => ?_, fun r h x hx => ?_⟩
  · obtain ⟨s, _, rfl⟩ := hr r h
    rw [H.mrow_len, H.mat_wid hm]
  · obtain ⟨s, _, rfl⟩ := hr r h
    unfold H.mrow at hx
    obtain ⟨d, _, rfl⟩ := List.mem_map.1 hx
    have := hE s d
    omega
theorem H.mat_ok {E : Nat → Nat → Nat} {m n : Nat} (hm : 1 ≤ m) (hm6 : m ≤ 6) (hn : 1 ≤ n) (hn6 : n ≤ 6) (hE : ∀ s d, E s d ≤ 30) : H.Ok (H.mat E m n) := by
  have h := H.mat_dim (E := E) hm hm6 hn hn6 (fun s d => Nat.le_trans (hE s d) (by decide))
  refine ⟨h.m1, h.m6, h.n1, h.n6, h.row, fun r hr x hx => ?_⟩
  unfold H.mat at hr
  obtain ⟨s, _, rfl⟩ := List.mem_map.1 hr
  unfold H.mrow at hx
  obtain ⟨d, _, rfl⟩ := List.mem_map.1 hx
  have := hE s d
  omega
theorem H.Ok.chks {T : List (List Int)} (h : H.Ok T) {s : Int} (h1 : 1 ≤ s) (h6 : s ≤ 6) : H.chks T s = 0 := by
  unfold H.chks
  rw [if_pos h.chk, if_pos (by unfold H.side; exact decide_eq_true ⟨h1, h6⟩)]
theorem H.Ok.lens {T : List (List Int)} (h : H.Ok T) : T.length ≤ maxLen ∧ ∀ i (h : i < T.length), T[i].length ≤ maxLen := by
  refine ⟨by have := h.m6; unfold maxLen; omega, fun i hi => ?_⟩
  rw [h.row _ (List.getElem_mem hi)]
  have := h.n6
  unfold maxLen
  omega

/-! Some hours more. -/
theorem H.rs_plus (E : Nat → Nat → Nat) (i k r s : Nat) : ∀ n, H.rs (H.plus E i k r) n s = H.rs E n s + if s = i ∧ k < n then (r : Int) else 0
  | 0 => by rw [if_neg (by omega)]; rfl
  | n + 1 => by
    rw [H.rs_succ, H.rs_succ, H.rs_plus E i k r s n]
    unfold H.plus
    by_cases e : s = i ∧ n = k
    · rw [if_pos e, if_neg (by omega), if_pos (by omega)]; push_cast; omega
    · rw [if_neg e]
      by_cases h : s = i ∧ k < n
      · rw [if_pos h, if_pos (by omega)]; omega
      · rw [if_neg h, if_neg (by omega)]; omega
theorem H.cs_plus (E : Nat → Nat → Nat) (i k r d : Nat) : ∀ m, H.cs (H.plus E i k r) d m = H.cs E d m + if d = k ∧ i < m then (r : Int) else 0
  | 0 => by rw [if_neg (by omega)]; rfl
  | m + 1 => by
    rw [H.cs, H.cs, H.cs_plus E i k r d m]
    unfold H.plus
    by_cases e : m = i ∧ d = k
    · rw [if_pos e, if_neg (by omega), if_pos (by omega)]; push_cast; omega
    · rw [if_neg e]
      by_cases h : d = k ∧ i < m
      · rw [if_pos h, if_pos (by omega)]; omega
      · rw [if_neg h, if_neg (by omega)]; omega
theorem H.ts_plus (E : Nat → Nat → Nat) (i k r n : Nat) : ∀ m, H.ts (H.plus E i k r) n m = H.ts E n m + if i < m ∧ k < n then (r : Int) else 0
  | 0 => by rw [if_neg (by omega)]; rfl
  | m + 1 => by
    rw [H.ts, H.ts, H.ts_plus E i k r n m, H.rs_plus]
    by_cases h : i < m ∧ k < n
    · rw [if_pos h, if_neg (by omega), if_pos (by omega)]; omega
    · rw [if_neg h]
      by_cases h2 : m = i ∧ k < n
      · rw [if_pos h2, if_pos (by omega)]; omega
      · rw [if_neg h2, if_neg (by omega)]; omega
/-- Just so many hours can be added. -/
theorem H.plus_sht {E : Nat → Nat → Nat} {m n i k r : Nat} (hm : 1 ≤ m) (hi : i < m) (hk : k < n) {s x : Int} (hs : 1 ≤ s) (hx : 0 ≤ x) :
    H.sht (H.mat (H.plus E i k r) m n) s ≤ x ↔ H.sht (H.mat E m n) s ≤ x ∧ H.rs E n i + r ≤ x ∧ H.cs E k m + r ≤ x ∧ H.ts E n m + r ≤ s * x := by
  rw [H.mat_sht hm hs hx, H.mat_sht hm hs hx]
  constructor
  · rintro ⟨h1, h2, h3⟩
    have a1 := h1 i hi
    have a2 := h2 k hk
    rw [H.rs_plus, if_pos ⟨rfl, hk⟩] at a1
    rw [H.cs_plus, if_pos ⟨rfl, hi⟩] at a2
    rw [H.ts_plus, if_pos ⟨hi, hk⟩] at h3
    refine ⟨⟨fun j hj => ?_, fun d hd => ?_, by omega⟩, a1, a2, h3⟩
    · have := h1 j hj
      rw [H.rs_plus] at this
      split at this <;> omega
    · have := h2 d hd
      rw [H.cs_plus] at this
      split at this <;> omega
  · rintro ⟨⟨h1, h2, h3⟩, h4, h5, h6⟩
    refine ⟨fun j hj => ?_, fun d hd => ?_, ?_⟩
    · rw [H.rs_plus]
      split
      · rename_i h; rw [h.1]; exact h4
      · have := h1 j hj; omega
    · rw [H.cs_plus]
      split
      · rename_i h; rw [h.1]; exact h5
      · have := h2 d hd; omega
    · rw [H.ts_plus, if_pos ⟨hi, hk⟩]; exact h6
theorem H.mat_room {E : Nat → Nat → Nat} {m n i k : Nat} (hi : i < m) (hk : k < n) (s : Int) : H.room (H.mat E m n) s i k = min (min (H.sht (H.mat E m n) s - H.rs E n i) (H.sht (H.mat E m n) s - H.cs E k m)) (s * H.sht (H.mat E m n) s - H.ts E n m) := by
  unfold H.room
  rw [H.getD_row (by rw [H.mat_len]; exact hi), H.mat_row, H.mat_col hk, H.mat_tot]
  rfl
structure H.More (E : Nat → Nat → Nat) (m n i k : Nat) (s : Int) (r : Nat) : Prop where
  room : H.room (H.mat E m n) s i k = r
  r100 : r ≤ 100
  one1 : H.sht (H.mat E m n) s ≤ H.sht (H.mat (H.plus E i k 1) m n) s
  one2 : H.sht (H.mat (H.plus E i k 1) m n) s ≤ H.sht (H.mat E m n) s + 1
  zero : r = 0 ↔ H.sht (H.mat (H.plus E i k 1) m n) s = H.sht (H.mat E m n) s + 1
  all : H.sht (H.mat (H.plus E i k r) m n) s = H.sht (H.mat E m n) s
  next : H.sht (H.mat (H.plus E i k (r + 1)) m n) s = H.sht (H.mat E m n) s + 1
theorem H.more {E : Nat → Nat → Nat} {m n i k : Nat} {s : Int} (hm : 1 ≤ m) (hm4 : m ≤ 4) (hn4 : n ≤ 4) (hi : i < m) (hk : k < n) (hs : 1 ≤ s) (hs5 : s ≤ 5) (hE : ∀ s d, E s d ≤ 12) : ∃ r, H.More E m n i k s r := by
  have hx := H.sht_nonneg (H.mat E m n) s
  have hself := (H.mat_sht (E := E) (n := n) hm hs hx).1 (Int.le_refl _)
  obtain ⟨h1, h2, h3⟩ := hself
  have hr := H.mat_room (E := E) hi hk s
  have hge : ∀ r, H.sht (H.mat E m n) s ≤ H.sht (H.mat (H.plus E i k r) m n) s := fun r => ((H.plus_sht hm hi hk hs (H.sht_nonneg _ _)).1 (Int.le_refl _)).1
  have h5 := h1 i hi
  have h6 := h2 k hk
  have b1 := H.rs_bd hE i n
  have b2 := H.cs_bd hE k m
  have hup : ∀ r : Nat, (r : Int) ≤ H.room (H.mat E m n) s i k + 1 → H.sht (H.mat (H.plus E i k r) m n) s ≤ H.sht (H.mat E m n) s + 1 := fun r hr2 => by
    rw [hr] at hr2
    refine (H.plus_sht hm hi hk hs (by omega)).2 ⟨by omega, by omega, by omega, ?_⟩
    rw [Int.mul_add, Int.mul_one]
    omega
  have hiff : ∀ r : Nat, H.sht (H.mat (H.plus E i k r) m n) s = H.sht (H.mat E m n) s ↔ (r : Int) ≤ H.room (H.mat E m n) s i k := fun r => by
    have hg := hge r
    have hp := H.plus_sht (E := E) (r := r) hm hi hk hs hx
    rw [hr]
    constructor
    · intro e
      obtain ⟨_, q1, q2, q3⟩ := hp.1 (by omega)
      omega
    · intro e
      have := hp.2 ⟨Int.le_refl _, by omega, by omega, by omega⟩
      omega
  have hr0 : 0 ≤ H.room (H.mat E m n) s i k := by rw [hr]; omega
  have hr100 : H.room (H.mat E m n) s i k ≤ 100 := by
    by_cases h48 : H.sht (H.mat E m n) s ≤ 48
    · rw [hr]; omega
    · have hnot : ¬ H.sht (H.mat E m n) s ≤ H.sht (H.mat E m n) s - 1 := by omega
      rw [H.mat_sht hm hs (by omega)] at hnot
      have q1 : ∀ j, j < m → H.rs E n j ≤ H.sht (H.mat E m n) s - 1 := fun j hj => by
        have b := (H.rs_bd hE j n).2
        have : (n : Int) * (12 : Nat) ≤ 4 * (12 : Nat) := Int.mul_le_mul_of_nonneg_right (by omega) (by decide)
        omega
      have q2 : ∀ d, d < n → H.cs E d m ≤ H.sht (H.mat E m n) s - 1 := fun d hd => by
        have b := (H.cs_bd hE d m).2
        have : (m : Int) * (12 : Nat) ≤ 4 * (12 : Nat) := Int.mul_le_mul_of_nonneg_right (by omega) (by decide)
        omega
      have q3 : ¬ H.ts E n m ≤ s * (H.sht (H.mat E m n) s - 1) := fun h => hnot ⟨q1, q2, h⟩
      rw [Int.mul_sub, Int.mul_one] at q3
      rw [hr]
      omega
  obtain ⟨r, er⟩ : ∃ r : Nat, H.room (H.mat E m n) s i k = r := ⟨(H.room (H.mat E m n) s i k).toNat, by omega⟩
  refine ⟨r, er, by omega, hge 1, hup 1 (by omega), ?_, (hiff r).2 (by omega), ?_⟩
  · have h0 := hiff 1
    have g1 := hge 1
    have u1 := hup 1 (by omega)
    constructor
    · intro e
      have : ¬ H.sht (H.mat (H.plus E i k 1) m n) s = H.sht (H.mat E m n) s := fun e2 => by have := h0.1 e2; omega
      omega
    · intro e
      by_cases e0 : r = 0
      · exact e0
      · have := h0.2 (by omega)
        omega
  · have h0 := hiff (r + 1)
    have g1 := hge (r + 1)
    have u1 := hup (r + 1) (by omega)
    have : ¬ H.sht (H.mat (H.plus E i k (r + 1)) m n) s = H.sht (H.mat E m n) s := fun e2 => by have := h0.1 e2; omega
    omega
theorem H.fewer {T : List (List Int)} {s : Int} (hs : 1 < s) : H.sht T s ≤ H.sht T (s - 1) := by
  have h := (H.sht_le (T := T) (s := s - 1) (by omega) (H.sht_nonneg T (s - 1))).1 (Int.le_refl _)
  refine (H.sht_le (by omega) (H.sht_nonneg T (s - 1))).2 ⟨h.1, h.2.1, ?_⟩
  have h0 := H.sht_nonneg T (s - 1)
  have h3 := h.2.2
  rw [Int.sub_mul, Int.one_mul] at h3
  omega
end Go.Proofs.Ythlcnklbeolhpaa
