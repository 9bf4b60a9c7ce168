/- Package ink: the walks of the checks. -/
import Derived.Test.YtapndndbibgjoaaProg
import Derived.Test.YtapndndbibgjoaaBase
import Derived.BigQuiet
import Derived.Deep.QuietTactic
namespace Go.Proofs.Ytapndndbibgjoaa
open Go.RowKit

/-- No number below n. -/
def K.out (n x : Int) : Bool := decide (x < 0 ∨ n ≤ x)
def K.row (n : Int) (r : List Int) : Int := if (r.length : Int) ≠ n then 3 else if r.any (K.out n) = true then 4 else 0
def K.rows (n : Int) : List (List Int) → Int
  | [] => 0
  | r :: T => if K.row n r ≠ 0 then K.row n r else K.rows n T
def K.check (n : Int) (T : List (List Int)) : Int := if n < 2 ∨ 7 < n then 4 else if T.length = 0 then 1 else if 6 < T.length then 2 else K.rows n T
/-- A palette. -/
def K.pal (n : Int) (a : Option Addr) (len c : Nat) : Value := .agg #[.int .i64 n, .slice a len c]

theorem K.rows_drop {n : Int} {T : List (List Int)} {k : Nat} (h : k < T.length) : K.rows n (T.drop k) = if K.row n T[k] ≠ 0 then K.row n T[k] else K.rows n (T.drop (k + 1)) := by
  rw [List.drop_eq_getElem_cons h]; rfl
theorem K.any_drop {p : Int → Bool} {r : List Int} {k : Nat} (h : k < r.length) : (r.drop k).any p = (p r[k] || (r.drop (k + 1)).any p) := by
  rw [List.drop_eq_getElem_cons h]; rfl
theorem K.row_size {n : Int} {r : List Int} (h : ¬ (r.length : Int) = n) : K.row n r = 3 := by unfold K.row; rw [if_pos h]
theorem K.row_out {r : List Int} (h : r.any (K.out r.length) = true) : K.row r.length r = 4 := by unfold K.row; rw [if_neg (by simp), if_pos h]
theorem K.row_good {r : List Int} (h : r.any (K.out r.length) = false) : K.row r.length r = 0 := by unfold K.row; rw [if_neg (by simp), if_neg (by rw [h]; simp)]
theorem K.check_rows {n : Int} {T : List (List Int)} (h1 : ¬ (n < 2 ∨ 7 < n)) (h2 : ¬ T.length = 0) (h3 : ¬ 6 < T.length) : K.check n T = K.rows n T := by
  unfold K.check; rw [if_neg h1, if_neg h2, if_neg h3]

set_option maxHeartbeats 400000 in
theorem within_any (x n : Int) (w : World) : Calls Try.prog 63 #[.int .i64 x, .int .i64 n] w fun e w' => e = .returned (.bool (!K.out n x)) ∧ w' = w := by
  by_cases h1 : x < 0
  · have hr : (!K.out n x) = false := by unfold K.out; simp [h1]
    rw [hr]
    have h2 : ¬ 0 ≤ x := by omega
    clear hr
    go_enter Try.func63, Try.ntmps63
    go_wp2
    go_ret
    exact ⟨rfl, rfl⟩
  · have h0 : 0 ≤ x := by omega
    by_cases h2 : x < n
    · have hr : (!K.out n x) = true := by unfold K.out; simp; omega
      rw [hr]
      clear hr
      go_enter Try.func63, Try.ntmps63
      go_wp2
      go_ret
      exact ⟨rfl, rfl⟩
    · have hr : (!K.out n x) = false := by unfold K.out; simp; omega
      rw [hr]
      clear hr
      go_enter Try.func63, Try.ntmps63
      go_wp2
      go_ret
      exact ⟨rfl, rfl⟩

set_option maxHeartbeats 2000000 in
set_option maxRecDepth 100000 in
theorem inkCheck_any (n : Int) (a : Option Addr) (c : Nat) (T : List (List Int)) (w : World) (hm : T.length ≤ maxLen) (hT : RdM w a T) :
    Calls Try.prog 24 #[K.pal n a T.length c] w fun e w' => e = .returned (.int .i64 (K.check n T)) ∧ Below w.heap.size w w' := by
  have hb0 : Below w.heap.size w (w.alloc (.cells #[.int .i64 n, .slice a T.length c] 24)) := (Below.refl _ _).alloc (Nat.le_refl _) _
  have k0 : (w.alloc (.cells #[.int .i64 n, .slice a T.length c] 24)).cell? ⟨w.heap.size, 0, none⟩ = some (.int .i64 n) := by rw [World.cell?_alloc_at _ _ _ _ rfl]; rfl
  have k1 : (w.alloc (.cells #[.int .i64 n, .slice a T.length c] 24)).cell? ⟨w.heap.size, 1, none⟩ = some (.slice a T.length c) := by rw [World.cell?_alloc_at _ _ _ _ rfl]; rfl
  have HB0 := hid hb0
  have HT := hid (hT.stays hb0)
  clear hb0 hT
  unfold maxLen at hm
  unfold K.pal
  by_cases h1 : n < 2
  · have HR : Hid (K.check n T = 4) := hid (by unfold K.check; rw [if_pos (Or.inl h1)])
    go_enter Try.func24, Try.ntmps24
    go_wp2
    go_ret
    exact ⟨ret_int HR.out.symm, HB0.out⟩
  by_cases h2 : 7 < n
  · have HR : Hid (K.check n T = 4) := hid (by unfold K.check; rw [if_pos (Or.inr h2)])
    go_enter Try.func24, Try.ntmps24
    go_wp2
    go_ret
    exact ⟨ret_int HR.out.symm, HB0.out⟩
  by_cases h3 : T.length = 0
  · have HR : Hid (K.check n T = 1) := hid (by unfold K.check; rw [if_neg (by omega), if_pos h3])
    rw [h3] at k1 HB0 ⊢
    go_enter Try.func24, Try.ntmps24
    go_wp2
    go_ret
    exact ⟨ret_int HR.out.symm, HB0.out⟩
  by_cases h4 : 6 < T.length
  · have HR : Hid (K.check n T = 2) := hid (by unfold K.check; rw [if_neg (by omega), if_neg h3, if_pos h4])
    go_enter Try.func24, Try.ntmps24
    go_wp2
    go_ret
    exact ⟨ret_int HR.out.symm, HB0.out⟩
  have HR := hid (K.check_rows (n := n) (T := T) (by omega) h3 h4)
  go_enter Try.func24, Try.ntmps24
  go_wp2
  generalize w.alloc (.cells #[.int .i64 n, .slice a T.length c] 24) = w1 at *
  go_loop [29] (fun i => ∃ k : Nat, k ≤ T.length ∧ i = .int .i64 k ∧ K.rows n T = K.rows n (T.drop k)) (fun i => T.length - (intOf i).toNat)
  case atStart => exact ⟨0, Nat.zero_le _, rfl, rfl⟩
  case round =>
    obtain ⟨k, hk, rfl, hrow⟩ := hrel
    have HW := hid hrow
    clear hrow
    by_cases hlt : k < T.length
    · obtain ⟨b, off, r, cr, rfl, hc, hr⟩ := HT.out k hlt
      have HS := hid (K.rows_drop (n := n) hlt)
      generalize T[k] = row at *
      have HRR := hid hr
      clear hr
      by_cases hl : (row.length : Int) = n
      · subst hl
        have hnn : ((row.length : Int) != (row.length : Int)) = false := by simp
        go_wp2
        go_loop [40] (fun i => ∃ j : Nat, j ≤ row.length ∧ i = .int .i64 j ∧ row.any (K.out row.length) = (row.drop j).any (K.out row.length)) (fun i => row.length - (intOf i).toNat)
        case atStart => exact ⟨0, Nat.zero_le _, rfl, rfl⟩
        case round =>
          obtain ⟨j, hj, rfl, hany⟩ := hrel
          have HA := hid hany
          clear hany
          by_cases hjl : j < row.length
          · obtain ⟨b', off', rfl, hcx⟩ := HRR.out j hjl
            have HD := hid (K.any_drop (p := K.out row.length) hjl)
            generalize row[j] = x at *
            by_cases hx : K.out row.length x = true
            · have HR2 : Hid (K.check row.length T = 4) := hid (by
                rw [HR.out, HW.out, HS.out, K.row_out (by rw [HA.out, HD.out, hx]; rfl)]
                rfl)
              have HC := hid (within_any x row.length (w1))
              rw [hx] at HC
              clear hx
              go_wp2_with fail
              refine HC.out.mono ?_
              rintro e w2 ⟨rfl, rfl⟩
              go_wp2
              go_ret
              exact ⟨ret_int HR2.out.symm, HB0.out⟩
            · have hx' : K.out row.length x = false := by simpa using hx
              have HC := hid (within_any x row.length (w1))
              rw [hx'] at HC
              have HN : Hid (row.any (K.out row.length) = (row.drop (j + 1)).any (K.out row.length)) := hid (by rw [HA.out, HD.out, hx']; rfl)
              clear hx hx'
              go_wp2_with fail
              refine HC.out.mono ?_
              rintro e w2 ⟨rfl, rfl⟩
              go_wp2
              go_round
              case rel => exact ⟨j + 1, by omega, by go_num, HN.out⟩
              case measure => simp [intOf]; omega
          · have hje : j = row.length := by omega
            subst hje
            have HN : Hid (K.rows row.length T = K.rows row.length (T.drop (k + 1))) := hid (by
              rw [HW.out, HS.out, K.row_good (by rw [HA.out, List.drop_length]; rfl)]
              rfl)
            go_wp2
            go_round
            case rel => exact ⟨k + 1, by omega, by go_num, HN.out⟩
            case measure => simp [intOf]; omega
      · have HR2 : Hid (K.check n T = 3) := hid (by rw [HR.out, HW.out, HS.out, K.row_size hl]; rfl)
        have hne : ((row.length : Int) != n) = true := by simpa using hl
        go_wp2
        go_ret
        exact ⟨ret_int HR2.out.symm, HB0.out⟩
    · have hke : k = T.length := by omega
      subst hke
      have HR2 : Hid (K.check n T = 0) := hid (by rw [HR.out, HW.out, List.drop_length]; rfl)
      go_wp2
      go_ret
      exact ⟨ret_int HR2.out.symm, HB0.out⟩
end Go.Proofs.Ytapndndbibgjoaa
