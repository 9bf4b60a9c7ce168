/- Package hours: the walks of gathered at numbers and at rows, of rowSum, greatest, columnSum and total. -/
import Derived.Test.YthlcnklbeolhpaaHSmall
namespace Go.Proofs.Ythlcnklbeolhpaa
open Go.RowKit

set_option maxHeartbeats 400000 in
set_option maxRecDepth 100000 in
theorem gatheredSum_any (acc : Nat → Int) (a : Option Addr) (c : Nat) (xs : List Int) (w : World) (hm : xs.length ≤ maxLen) (h0 : acc 0 = 0) (hx : RdI w a xs)
    (HF : ∀ k (h : k < xs.length), Calls Try.prog 105 #[.int .i64 (acc k), .int .i64 xs[k]] w fun e w' => e = .returned (.int .i64 (acc (k + 1))) ∧ w = w') :
    Calls Try.prog 104 #[.slice a xs.length c, .func (.func 105) #[] #[]] w fun e w' => e = .returned (.int .i64 (acc xs.length)) ∧ w = w' := by
  unfold maxLen at hm
  have HX := hid hx
  have HC := hid HF
  have H0 := hid h0
  clear hx HF h0
  go_enter Try.func104, Try.ntmps104
  go_wp2
  go_loop [5, 10] (fun s i => ∃ k : Nat, k ≤ xs.length ∧ i = .int .i64 k ∧ s = .int .i64 (acc k)) (fun _ i => xs.length - (intOf i).toNat)
  case atStart => exact ⟨0, Nat.zero_le _, rfl, by rw [H0.out]⟩
  case round =>
    obtain ⟨k, hk, rfl, rfl⟩ := hrel
    by_cases hlt : k < xs.length
    · obtain ⟨b, off, rfl, hc⟩ := HX.out k hlt
      have HF := hid (HC.out k hlt)
      generalize xs[k] = x at *
      have hix : (0 : Int) ≤ (k : Int) ∧ (k : Int) < (xs.length : Int) := by omega
      go_wp2_with fail
      refine HF.out.mono ?_
      rintro e w' ⟨rfl, rfl⟩
      go_wp2
      go_round
      case rel => exact ⟨k + 1, by omega, by go_num, rfl⟩
      case measure => simp [intOf]; omega
    · have hke : k = xs.length := by omega
      subst hke
      go_wp2
      go_ret
      exact ⟨rfl, rfl⟩

set_option maxHeartbeats 400000 in
set_option maxRecDepth 100000 in
theorem gatheredTop_any (acc : Nat → Int) (a : Option Addr) (c : Nat) (xs : List Int) (w : World) (hm : xs.length ≤ maxLen) (h0 : acc 0 = 0) (hx : RdI w a xs)
    (HF : ∀ k (h : k < xs.length), Calls Try.prog 109 #[.int .i64 (acc k), .int .i64 xs[k]] w fun e w' => e = .returned (.int .i64 (acc (k + 1))) ∧ w = w') :
    Calls Try.prog 104 #[.slice a xs.length c, .func (.func 109) #[] #[]] w fun e w' => e = .returned (.int .i64 (acc xs.length)) ∧ w = w' := by
  unfold maxLen at hm
  have HX := hid hx
  have HC := hid HF
  have H0 := hid h0
  clear hx HF h0
  go_enter Try.func104, Try.ntmps104
  go_wp2
  go_loop [5, 10] (fun s i => ∃ k : Nat, k ≤ xs.length ∧ i = .int .i64 k ∧ s = .int .i64 (acc k)) (fun _ i => xs.length - (intOf i).toNat)
  case atStart => exact ⟨0, Nat.zero_le _, rfl, by rw [H0.out]⟩
  case round =>
    obtain ⟨k, hk, rfl, rfl⟩ := hrel
    by_cases hlt : k < xs.length
    · obtain ⟨b, off, rfl, hc⟩ := HX.out k hlt
      have HF := hid (HC.out k hlt)
      generalize xs[k] = x at *
      have hix : (0 : Int) ≤ (k : Int) ∧ (k : Int) < (xs.length : Int) := by omega
      go_wp2_with fail
      refine HF.out.mono ?_
      rintro e w' ⟨rfl, rfl⟩
      go_wp2
      go_round
      case rel => exact ⟨k + 1, by omega, by go_num, rfl⟩
      case measure => simp [intOf]; omega
    · have hke : k = xs.length := by omega
      subst hke
      go_wp2
      go_ret
      exact ⟨rfl, rfl⟩

set_option maxHeartbeats 400000 in
set_option maxRecDepth 100000 in
theorem gatheredTot_any (acc : Nat → Int) (a : Option Addr) (c : Nat) (T : List (List Int)) (w : World) (hm : T.length ≤ maxLen) (h0 : acc 0 = 0) (hx : RdM w a T)
    (HF : ∀ k (h : k < T.length) (r : Option Addr) (c : Nat), RdI w r T[k] → Calls Try.prog 108 #[.int .i64 (acc k), .slice r T[k].length c] w fun e w' => e = .returned (.int .i64 (acc (k + 1))) ∧ w = w') :
    Calls Try.prog 106 #[.slice a T.length c, .func (.func 108) #[] #[]] w fun e w' => e = .returned (.int .i64 (acc T.length)) ∧ w = w' := by
  unfold maxLen at hm
  have HX := hid hx
  have HC := hid HF
  have H0 := hid h0
  clear hx HF h0
  go_enter Try.func106, Try.ntmps106
  go_wp2
  go_loop [5, 10] (fun s i => ∃ k : Nat, k ≤ T.length ∧ i = .int .i64 k ∧ s = .int .i64 (acc k)) (fun _ i => T.length - (intOf i).toNat)
  case atStart => exact ⟨0, Nat.zero_le _, rfl, by rw [H0.out]⟩
  case round =>
    obtain ⟨k, hk, rfl, rfl⟩ := hrel
    by_cases hlt : k < T.length
    · obtain ⟨b, off, r, cr, rfl, hc, hr⟩ := HX.out k hlt
      have HF := hid (HC.out k hlt r cr hr)
      clear hr
      generalize T[k].length = nr at *
      have hix : (0 : Int) ≤ (k : Int) ∧ (k : Int) < (T.length : Int) := by omega
      go_wp2_with fail
      refine HF.out.mono ?_
      rintro e w' ⟨rfl, rfl⟩
      go_wp2
      go_round
      case rel => exact ⟨k + 1, by omega, by go_num, rfl⟩
      case measure => simp [intOf]; omega
    · have hke : k = T.length := by omega
      subst hke
      go_wp2
      go_ret
      exact ⟨rfl, rfl⟩

set_option maxHeartbeats 400000 in
set_option maxRecDepth 100000 in
theorem gatheredCol_any (acc : Nat → Int) (a : Option Addr) (c : Nat) (T : List (List Int)) (w : World) (hm : T.length ≤ maxLen) (h0 : acc 0 = 0) (hx : RdM w a T) (bb : Nat)
    (HF : ∀ k (h : k < T.length) (r : Option Addr) (c : Nat), RdI w r T[k] → Calls Try.prog 107 #[.int .i64 (acc k), .slice r T[k].length c, .pointer (some ⟨bb, 0, none⟩)] w fun e w' => e = .returned (.int .i64 (acc (k + 1))) ∧ w = w') :
    Calls Try.prog 106 #[.slice a T.length c, .func (.func 107) #[] #[.pointer (some ⟨bb, 0, none⟩)]] w fun e w' => e = .returned (.int .i64 (acc T.length)) ∧ w = w' := by
  unfold maxLen at hm
  have HX := hid hx
  have HC := hid HF
  have H0 := hid h0
  clear hx HF h0
  go_enter Try.func106, Try.ntmps106
  go_wp2
  go_loop [5, 10] (fun s i => ∃ k : Nat, k ≤ T.length ∧ i = .int .i64 k ∧ s = .int .i64 (acc k)) (fun _ i => T.length - (intOf i).toNat)
  case atStart => exact ⟨0, Nat.zero_le _, rfl, by rw [H0.out]⟩
  case round =>
    obtain ⟨k, hk, rfl, rfl⟩ := hrel
    by_cases hlt : k < T.length
    · obtain ⟨b, off, r, cr, rfl, hc, hr⟩ := HX.out k hlt
      have HF := hid (HC.out k hlt r cr hr)
      clear hr
      generalize T[k].length = nr at *
      have hix : (0 : Int) ≤ (k : Int) ∧ (k : Int) < (T.length : Int) := by omega
      go_wp2_with fail
      refine HF.out.mono ?_
      rintro e w' ⟨rfl, rfl⟩
      go_wp2
      go_round
      case rel => exact ⟨k + 1, by omega, by go_num, rfl⟩
      case measure => simp [intOf]; omega
    · have hke : k = T.length := by omega
      subst hke
      go_wp2
      go_ret
      exact ⟨rfl, rfl⟩

set_option maxHeartbeats 400000 in
theorem rowSum1_any (s x : Int) (w : World) (h1 : 0 ≤ s ∧ s ≤ 100000) (h2 : 0 ≤ x ∧ x ≤ 100000) :
    Calls Try.prog 105 #[.int .i64 s, .int .i64 x] w fun e w' => e = .returned (.int .i64 (s + x)) ∧ w = w' := by
  go_enter Try.func105, Try.ntmps105
  go_wp2
  go_ret
  exact ⟨rfl, rfl⟩
set_option maxHeartbeats 400000 in
theorem greatest1_any (s x : Int) (w : World) :
    Calls Try.prog 109 #[.int .i64 s, .int .i64 x] w fun e w' => e = .returned (.int .i64 (max s x)) ∧ w = w' := by
  go_enter Try.func109, Try.ntmps109
  go_wp2
  all_goals
    go_ret
    exact ⟨ret_int (by omega), rfl⟩
theorem H.sum_bdk {l : List Int} {b : Int} {n : Nat} (hb : 0 ≤ b) (h : ∀ x ∈ l, 0 ≤ x ∧ x ≤ b) (hl : l.length ≤ n) (k : Nat) : 0 ≤ H.sum (l.take k) ∧ H.sum (l.take k) ≤ b * n := by
  have h1 := H.sum_bd (b := b) (l := l.take k) (fun x hx => h x (List.mem_of_mem_take hx))
  have h2 : b * ((l.take k).length : Int) ≤ b * (n : Int) := Int.mul_le_mul_of_nonneg_left (by rw [List.length_take]; omega) hb
  omega
set_option maxHeartbeats 400000 in
theorem rowSum_any (a : Option Addr) (c : Nat) (xs : List Int) (w : World) (hm : xs.length ≤ 1000) (hb : ∀ x ∈ xs, 0 ≤ x ∧ x ≤ 30) (hx : RdI w a xs) :
    Calls Try.prog 74 #[.slice a xs.length c] w fun e w' => e = .returned (.int .i64 (H.sum xs)) ∧ w = w' := by
  have HG := hid (gatheredSum_any (fun k => H.sum (xs.take k)) a c xs w (by unfold maxLen; omega) rfl hx (fun k h => by
    have h1 := H.sum_bdk (by decide) hb hm k
    have h2 := hb _ (List.getElem_mem h)
    rw [H.sum_take h]
    exact rowSum1_any _ _ w (by omega) (by omega)))
  simp only [List.take_length] at HG
  generalize H.sum xs = r at *
  clear hx hb hm
  go_enter Try.func74, Try.ntmps74
  go_wp2_with fail
  refine HG.out.mono ?_
  rintro e w' ⟨rfl, rfl⟩
  go_wp2
  go_ret
  exact ⟨rfl, rfl⟩
set_option maxHeartbeats 400000 in
theorem greatest_any (a : Option Addr) (c : Nat) (xs : List Int) (w : World) (hm : xs.length ≤ maxLen) (hx : RdI w a xs) :
    Calls Try.prog 77 #[.slice a xs.length c] w fun e w' => e = .returned (.int .i64 (H.top xs)) ∧ w = w' := by
  have HG := hid (gatheredTop_any (fun k => H.top (xs.take k)) a c xs w hm rfl hx (fun k h => by
    rw [H.top_take h]
    exact greatest1_any _ _ w))
  simp only [List.take_length] at HG
  generalize H.top xs = r at *
  clear hx hm
  go_enter Try.func77, Try.ntmps77
  go_wp2_with fail
  refine HG.out.mono ?_
  rintro e w' ⟨rfl, rfl⟩
  go_wp2
  go_ret
  exact ⟨rfl, rfl⟩
set_option maxHeartbeats 400000 in
theorem total1_any (s : Int) (a : Option Addr) (c : Nat) (xs : List Int) (w : World) (h1 : 0 ≤ s ∧ s ≤ 100000) (hm : xs.length ≤ 6) (hb : ∀ x ∈ xs, 0 ≤ x ∧ x ≤ 30) (hx : RdI w a xs) :
    Calls Try.prog 108 #[.int .i64 s, .slice a xs.length c] w fun e w' => e = .returned (.int .i64 (s + H.sum xs)) ∧ w = w' := by
  have HR := hid (rowSum_any a c xs w (by omega) hb hx)
  have hs := H.sum_bd hb
  have hs2 : H.sum xs ≤ 180 := by omega
  generalize H.sum xs = r at *
  generalize xs.length = n at *
  clear hx hb
  go_enter Try.func108, Try.ntmps108
  go_wp2_with fail
  refine HR.out.mono ?_
  rintro e w' ⟨rfl, rfl⟩
  go_wp2
  go_ret
  exact ⟨rfl, rfl⟩
set_option maxHeartbeats 400000 in
theorem total_any (a : Option Addr) (c : Nat) (T : List (List Int)) (w : World) (hok : H.Ok T) (hx : RdM w a T) :
    Calls Try.prog 76 #[.slice a T.length c] w fun e w' => e = .returned (.int .i64 (H.tot T)) ∧ w = w' := by
  have HG := hid (gatheredTot_any (fun k => H.sum ((T.map H.sum).take k)) a c T w (by have := hok.m6; unfold maxLen; omega) rfl hx (fun k h r c hr => by
    have h1 := hok.totsum k
    rw [H.sum_take (l := T.map H.sum) (by simpa using h), List.getElem_map]
    exact total1_any _ r c _ w (by omega) (by rw [hok.row _ (List.getElem_mem h)]; exact hok.n6) (hok.hrs _ (List.getElem_mem h)) hr))
  simp only [List.take_of_length_le (show (T.map H.sum).length ≤ T.length by simp)] at HG
  unfold H.tot
  generalize H.sum (T.map H.sum) = r at *
  clear hx hok
  go_enter Try.func76, Try.ntmps76
  go_wp2_with fail
  refine HG.out.mono ?_
  rintro e w' ⟨rfl, rfl⟩
  go_wp2
  go_ret
  exact ⟨rfl, rfl⟩
set_option maxHeartbeats 400000 in
theorem columnSum1_any (s : Int) (a : Option Addr) (c bb j : Nat) (xs : List Int) (w : World) (h1 : 0 ≤ s ∧ s ≤ 100000) (hj : j < xs.length) (hb : ∀ x ∈ xs, 0 ≤ x ∧ x ≤ 30) (hx : RdI w a xs) (hc : w.cell? ⟨bb, 0, none⟩ = some (.int .i64 j)) :
    Calls Try.prog 107 #[.int .i64 s, .slice a xs.length c, .pointer (some ⟨bb, 0, none⟩)] w fun e w' => e = .returned (.int .i64 (s + xs.getD j 0)) ∧ w = w' := by
  obtain ⟨b, off, rfl, hcell⟩ := hx j hj
  have hxb := hb _ (List.getElem_mem hj)
  have HD : Hid (xs.getD j 0 = xs[j]) := hid (by simp only [List.getD, List.getElem?_eq_getElem hj, Option.getD_some])
  generalize xs[j] = x at *
  have hix : (0 : Int) ≤ (j : Int) ∧ (j : Int) < (xs.length : Int) := by omega
  clear hx hb
  rw [HD.out]
  clear HD
  go_enter Try.func107, Try.ntmps107
  go_wp2
  go_ret
  exact ⟨rfl, rfl⟩
set_option maxHeartbeats 400000 in
theorem columnSum_any (a : Option Addr) (c j : Nat) (T : List (List Int)) (w : World) (hok : H.Ok T) (hj : j < H.wid T) (hx : RdM w a T) :
    Calls Try.prog 75 #[.slice a T.length c, .int .i64 j] w fun e w' => e = .returned (.int .i64 (H.col T j)) ∧ Below w.heap.size w w' := by
  have hb0 : Below w.heap.size w (w.alloc (.cells #[.int .i64 j] 3)) := (Below.refl _ _).alloc (Nat.le_refl _) _
  have k0 : (w.alloc (.cells #[.int .i64 j] 3)).cell? ⟨w.heap.size, 0, none⟩ = some (.int .i64 j) := by rw [World.cell?_alloc_at _ _ _ _ rfl]; rfl
  have HG := hid (gatheredCol_any (fun k => H.sum ((T.map fun r => r.getD j 0).take k)) a c T _ (by have := hok.m6; unfold maxLen; omega) rfl (hx.stays hb0) w.heap.size (fun k h r c hr => by
    have h1 := hok.colsum j k
    have h2 := hok.row _ (List.getElem_mem h)
    rw [H.sum_take (l := T.map fun r => r.getD j 0) (by simpa using h), List.getElem_map]
    exact columnSum1_any _ r c w.heap.size j _ _ (by omega) (by rw [h2]; exact hj) (hok.hrs _ (List.getElem_mem h)) hr k0))
  have HB := hid hb0
  simp only [List.take_of_length_le (show (T.map fun r => r.getD j 0).length ≤ T.length by simp)] at HG
  unfold H.col
  generalize H.sum (T.map fun r => r.getD j 0) = r at *
  clear hx hok hb0 k0 hj
  go_enter Try.func75, Try.ntmps75
  go_wp2_with fail
  refine HG.out.mono ?_
  rintro e w' ⟨rfl, rfl⟩
  go_wp2
  go_ret
  exact ⟨rfl, HB.out⟩
end Go.Proofs.Ythlcnklbeolhpaa
