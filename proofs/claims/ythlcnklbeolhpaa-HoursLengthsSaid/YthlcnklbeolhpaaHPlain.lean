/- Package hours: works as lists of rows, their sums and their greatest bound. No program is named here. -/
import Derived.Test.YthlcnklbeolhpaaBase
namespace Go.Proofs.Ythlcnklbeolhpaa
open Go.RowKit

theorem below_drewN {B : Nat} {w a : World} (h : Below B w a) (n : Nat) : Below B w (a.drewN n) := h.trans ⟨rfl, rfl, rfl, Nat.le_refl _, fun _ _ => rfl⟩
theorem RdI.heap {w W : World} {a : Option Addr} {xs : List Int} (h : RdI w a xs) (hW : W.heap = w.heap) : RdI W a xs := fun k hk => by
  obtain ⟨b, off, e, c⟩ := h k hk
  exact ⟨b, off, e, by rw [World.cell?_of_block (w := w) (by rw [hW])]; exact c⟩

def H.side (x : Int) : Bool := decide (1 ≤ x ∧ x ≤ 6)
def H.inn (x n : Int) : Bool := decide (0 ≤ x ∧ x < n)
/-- The sum of a list. -/
def H.sum : List Int → Int
  | [] => 0
  | x :: l => x + H.sum l
theorem H.sum_append : ∀ (a b : List Int), H.sum (a ++ b) = H.sum a + H.sum b
  | [], b => by simp [H.sum]
  | x :: a, b => by simp only [List.cons_append, H.sum, H.sum_append a b]; omega
theorem H.sum_take {l : List Int} {k : Nat} (h : k < l.length) : H.sum (l.take (k + 1)) = H.sum (l.take k) + l[k] := by
  rw [List.take_succ_eq_append_getElem h, H.sum_append]
  simp [H.sum]
theorem H.sum_bd {b : Int} : ∀ {l : List Int}, (∀ x ∈ l, 0 ≤ x ∧ x ≤ b) → 0 ≤ H.sum l ∧ H.sum l ≤ b * l.length
  | [], _ => by simp [H.sum]
  | x :: l, h => by
    have h1 := h x (List.mem_cons_self ..)
    have h2 := H.sum_bd (l := l) (fun y hy => h y (List.mem_cons_of_mem _ hy))
    have e : b * ((x :: l).length : Int) = b * (l.length : Int) + b := by rw [List.length_cons]; push_cast; rw [Int.mul_add, Int.mul_one]
    rw [e]
    simp only [H.sum]
    omega
/-- The greatest number of a list, or 0. -/
def H.top : List Int → Int
  | [] => 0
  | x :: l => max x (H.top l)
theorem H.top_nonneg : ∀ l : List Int, 0 ≤ H.top l
  | [] => Int.le_refl _
  | x :: l => by have := H.top_nonneg l; simp only [H.top]; omega
theorem H.top_append : ∀ (a b : List Int), H.top (a ++ b) = max (H.top a) (H.top b)
  | [], b => by have := H.top_nonneg b; simp only [List.nil_append, H.top]; omega
  | x :: a, b => by simp only [List.cons_append, H.top, H.top_append a b]; omega
theorem H.top_take {l : List Int} {k : Nat} (h : k < l.length) : H.top (l.take (k + 1)) = max (H.top (l.take k)) l[k] := by
  have := H.top_nonneg (l.take k)
  rw [List.take_succ_eq_append_getElem h, H.top_append]
  simp only [H.top]
  omega
theorem H.top_le {b : Int} (hb : 0 ≤ b) : ∀ {l : List Int}, (∀ x ∈ l, x ≤ b) → H.top l ≤ b
  | [], _ => hb
  | x :: l, h => by
    have h1 := h x (List.mem_cons_self ..)
    have h2 := H.top_le hb (l := l) (fun y hy => h y (List.mem_cons_of_mem _ hy))
    simp only [H.top]
    omega
theorem H.le_top : ∀ {l : List Int} {x : Int}, x ∈ l → x ≤ H.top l
  | y :: l, x, h => by
    simp only [H.top]
    rcases List.mem_cons.1 h with rfl | h
    · omega
    · have := H.le_top h; omega
theorem H.top_mem {l : List Int} (h : ∀ x ∈ l, 0 ≤ x) (h0 : l ≠ []) : H.top l ∈ l := by
  induction l with
  | nil => exact absurd rfl h0
  | cons x l ih =>
    simp only [H.top]
    by_cases e : l = []
    · subst e
      have := h x (List.mem_cons_self ..)
      rw [show max x (H.top []) = x by simp only [H.top]; omega]
      exact List.mem_cons_self ..
    · have hi := ih (fun y hy => h y (List.mem_cons_of_mem _ hy)) e
      by_cases hx : H.top l ≤ x
      · rw [show max x (H.top l) = x by omega]; exact List.mem_cons_self ..
      · rw [show max x (H.top l) = H.top l by omega]; exact List.mem_cons_of_mem _ hi
/-- The number of machines. -/
def H.wid (T : List (List Int)) : Nat := (T.headD []).length
def H.col (T : List (List Int)) (j : Nat) : Int := H.sum (T.map fun r => r.getD j 0)
def H.tot (T : List (List Int)) : Int := H.sum (T.map H.sum)
def H.rows (T : List (List Int)) : List Int := T.map H.sum
def H.cols (T : List (List Int)) : List Int := (List.range (H.wid T)).map (H.col T)
/-- A quotient, rounded up. -/
def H.ceil (t s : Int) : Int := (t + s - 1) / s
/-- The shortest length. -/
def H.sht (T : List (List Int)) (s : Int) : Int := max (max (H.top (H.rows T)) (H.top (H.cols T))) (H.ceil (H.tot T) s)

/-- The error of a work. -/
def H.chk (T : List (List Int)) : Int :=
  if T.length = 0 then 1 else if 6 < T.length then 2 else if H.side (H.wid T) = false then 3
  else if T.all (fun r => r.length == H.wid T) = false then 3 else if T.all (fun r => r.all fun x => decide (0 ≤ x ∧ x ≤ 30)) = false then 4 else 0
def H.chks (T : List (List Int)) (s : Int) : Int := if H.chk T = 0 then (if H.side s = true then 0 else 4) else H.chk T

structure H.Ok (T : List (List Int)) : Prop where
  m1 : 1 ≤ T.length
  m6 : T.length ≤ 6
  n1 : 1 ≤ H.wid T
  n6 : H.wid T ≤ 6
  row : ∀ r ∈ T, r.length = H.wid T
  hrs : ∀ r ∈ T, ∀ x ∈ r, 0 ≤ x ∧ x ≤ 30
theorem H.chk_ok {T : List (List Int)} (h : H.chk T = 0) : H.Ok T := by
  unfold H.chk at h
  split at h
  · cases h
  split at h
  · cases h
  split at h
  · cases h
  split at h
  · cases h
  split at h
  · cases h
  rename_i h1 h2 h3 h4 h5
  have h3' : H.side (H.wid T) = true := by simpa using h3
  have h4' : T.all (fun r => r.length == H.wid T) = true := by simpa using h4
  have h5' : T.all (fun r => r.all fun x => decide (0 ≤ x ∧ x ≤ 30)) = true := by simpa using h5
  unfold H.side at h3'
  have h3'' := of_decide_eq_true h3'
  refine ⟨by omega, by omega, by omega, by omega, fun r hr => ?_, fun r hr x hx => ?_⟩
  · have := List.all_eq_true.1 h4' r hr
    simpa using this
  · have := List.all_eq_true.1 (List.all_eq_true.1 h5' r hr) x hx
    simpa using this
theorem H.Ok.chk {T : List (List Int)} (h : H.Ok T) : H.chk T = 0 := by
  unfold H.chk
  rw [if_neg (by have := h.m1; omega), if_neg (by have := h.m6; omega), if_neg (by unfold H.side; have := h.n1; have := h.n6; simp; omega), if_neg (by simp; intro r hr; exact h.row r hr), if_neg (by simp; intro r hr x hx; exact h.hrs r hr x hx)]
theorem H.chks_ok {T : List (List Int)} {s : Int} (h : H.chks T s = 0) : H.Ok T ∧ 1 ≤ s ∧ s ≤ 6 := by
  unfold H.chks at h
  split at h
  · rename_i h0
    refine ⟨H.chk_ok h0, ?_⟩
    split at h
    · rename_i h1
      unfold H.side at h1
      exact of_decide_eq_true h1
    · cases h
  · rename_i h0; exact absurd h h0

theorem H.Ok.rowsum {T : List (List Int)} (h : H.Ok T) : ∀ r ∈ T, 0 ≤ H.sum r ∧ H.sum r ≤ 180 := fun r hr => by
  have h1 := H.sum_bd (h.hrs r hr)
  have h2 := h.row r hr
  have h3 := h.n6
  omega
theorem H.getD_bd {l : List Int} {b : Int} (hb : 0 ≤ b) (h : ∀ x ∈ l, 0 ≤ x ∧ x ≤ b) (j : Nat) : 0 ≤ l.getD j 0 ∧ l.getD j 0 ≤ b := by
  by_cases e : j < l.length
  · simp only [List.getD, List.getElem?_eq_getElem e, Option.getD_some]
    exact h _ (List.getElem_mem e)
  · rw [List.getD_eq_getElem?_getD, List.getElem?_eq_none (show l.length ≤ j by omega), Option.getD_none]
    omega
theorem H.Ok.colsum {T : List (List Int)} (h : H.Ok T) (j k : Nat) : 0 ≤ H.sum ((T.map fun r => r.getD j 0).take k) ∧ H.sum ((T.map fun r => r.getD j 0).take k) ≤ 180 := by
  have h1 := H.sum_bd (b := 30) (l := (T.map fun r => r.getD j 0).take k) (fun x hx => by
    obtain ⟨r, hr, rfl⟩ := List.mem_map.1 (List.mem_of_mem_take hx)
    exact H.getD_bd (by decide) (h.hrs r hr) j)
  have h2 : ((T.map fun r => r.getD j 0).take k).length ≤ 6 := by have := h.m6; rw [List.length_take, List.length_map]; omega
  omega
theorem H.Ok.totsum {T : List (List Int)} (h : H.Ok T) (k : Nat) : 0 ≤ H.sum ((T.map H.sum).take k) ∧ H.sum ((T.map H.sum).take k) ≤ 1080 := by
  have h1 := H.sum_bd (b := 180) (l := (T.map H.sum).take k) (fun x hx => by
    obtain ⟨r, hr, rfl⟩ := List.mem_map.1 (List.mem_of_mem_take hx)
    exact h.rowsum r hr)
  have h2 : ((T.map H.sum).take k).length ≤ 6 := by have := h.m6; rw [List.length_take, List.length_map]; omega
  omega
theorem H.Ok.col_bd {T : List (List Int)} (h : H.Ok T) (j : Nat) : 0 ≤ H.col T j ∧ H.col T j ≤ 180 := by
  have := h.colsum j T.length
  rwa [List.take_of_length_le (by simp)] at this
theorem H.Ok.tot_bd {T : List (List Int)} (h : H.Ok T) : 0 ≤ H.tot T ∧ H.tot T ≤ 1080 := by
  have := h.totsum T.length
  rwa [List.take_of_length_le (by simp)] at this
theorem H.Ok.rows_bd {T : List (List Int)} (h : H.Ok T) : ∀ x ∈ H.rows T, 0 ≤ x ∧ x ≤ 180 := fun x hx => by
  obtain ⟨r, hr, rfl⟩ := List.mem_map.1 hx
  exact h.rowsum r hr
theorem H.Ok.cols_bd {T : List (List Int)} (h : H.Ok T) : ∀ x ∈ H.cols T, 0 ≤ x ∧ x ≤ 180 := fun x hx => by
  obtain ⟨j, _, rfl⟩ := List.mem_map.1 hx
  exact h.col_bd j
theorem H.ceil_bd {t s : Int} (ht : 0 ≤ t) (hs : 1 ≤ s) : 0 ≤ H.ceil t s ∧ H.ceil t s ≤ t := by
  unfold H.ceil
  refine ⟨Int.ediv_nonneg (by omega) (by omega), ?_⟩
  have h : t + s - 1 < (t + 1) * s := by
    have : t * 1 ≤ t * s := Int.mul_le_mul_of_nonneg_left hs ht
    rw [Int.add_mul, Int.one_mul]
    omega
  have := Int.ediv_lt_of_lt_mul (by omega) h
  omega
theorem H.ceil_eq {t s : Int} (hs : 1 ≤ s) : H.ceil t s = if 0 < t % s then t / s + 1 else t / s := by
  unfold H.ceil
  have h1 := Int.mul_ediv_add_emod t s
  have h2 := Int.emod_nonneg t (show s ≠ 0 by omega)
  have h3 := Int.emod_lt_of_pos t (show 0 < s by omega)
  split
  · rename_i h
    have e : t + s - 1 = (t % s - 1) + s * (t / s + 1) := by rw [Int.mul_add, Int.mul_one]; omega
    rw [e, Int.add_mul_ediv_left _ _ (by omega), Int.ediv_eq_zero_of_lt (by omega) (by omega)]
    omega
  · rename_i h
    have e : t + s - 1 = (s - 1) + s * (t / s) := by omega
    rw [e, Int.add_mul_ediv_left _ _ (by omega), Int.ediv_eq_zero_of_lt (by omega) (by omega)]
    omega
end Go.Proofs.Ythlcnklbeolhpaa
