/- Package repeat: unite, repeatAfter, named, Wide. -/
import Derived.Test.YtiodcgdjphmffaaBPln
import Derived.Deep.RegionHeld3
namespace Go.Proofs.Ytiodcgdjphmffaa
open Go.RowKit

/-- Two places' numbers become one. -/
def B.un (a b x : Nat) : Nat := if x = a ∨ x = b then min a b else x
theorem B.un_le (a b x : Nat) : B.un a b x ≤ x := by unfold B.un; split <;> omega
/-- The numbers, when so many places have been united with those that come a period later. -/
def B.ra (p : Nat) (M : Nat → Nat) : Nat → Nat → Nat
  | 0 => M
  | k + 1 => fun i => B.un (B.ra p M k k) (B.ra p M k (k + p)) (B.ra p M k i)
theorem B.ra_le (p : Nat) (M : Nat → Nat) (i : Nat) : ∀ k, B.ra p M k i ≤ M i
  | 0 => Nat.le_refl _
  | k + 1 => Nat.le_trans (B.un_le _ _ _) (B.ra_le p M i k)
/-- The bytes of the first places, and how many figures there are. -/
def B.nm (M : Nat → Nat) : Nat → List UInt8 × Nat
  | 0 => ([], 0)
  | k + 1 => if M k = k then ((B.nm M k).1 ++ [UInt8.ofNat (97 + (B.nm M k).2)], (B.nm M k).2 + 1) else ((B.nm M k).1 ++ [(B.nm M k).1.getD (M k) 0], (B.nm M k).2)
theorem B.nm_len (M : Nat → Nat) : ∀ k, (B.nm M k).1.length = k
  | 0 => rfl
  | k + 1 => by
    have := B.nm_len M k
    unfold B.nm
    split <;> simp [this]
theorem B.nm_le (M : Nat → Nat) : ∀ k, (B.nm M k).2 ≤ k
  | 0 => Nat.le_refl _
  | k + 1 => by
    have := B.nm_le M k
    unfold B.nm
    split
    · show (B.nm M k).2 + 1 ≤ k + 1; omega
    · show (B.nm M k).2 ≤ k + 1; omega
def B.wide (p q n : Nat) : List UInt8 := (B.nm (B.ra q (B.ra p id (n - p)) (n - q)) n).1

set_option maxHeartbeats 1000000 in
set_option maxRecDepth 100000 in
theorem unite_any (g n a b : Nat) (M : Nat → Nat) (w : World) (hn : n ≤ 1000) (hM : ∀ i, i < n → M i ≤ 1000) (hr : w.rowIs g 3 n (fun i => .int .i64 (M i))) :
    Calls Try.prog 69 #[.slice (some ⟨g, 0, none⟩) n n, .int .i64 a, .int .i64 b] w fun e w' => e = .returned (.tuple #[]) ∧ w'.rowIs g 3 n (fun i => .int .i64 (B.un a b (M i))) ∧ Below g w w' := by
  have HR := hid hr
  have HMX : Hid (∀ i, i < n → M i ≤ 1000) := hid hM
  clear hr hM
  go_enter Try.func69, Try.ntmps69
  go_wp2
  go_loopw [10] (fun y wr => ∃ j : Nat, j ≤ n ∧ y = .int .i64 j ∧ wr.rowIs g 3 n (fun i => .int .i64 (if i < j then B.un a b (M i) else M i : Nat)) ∧ Below g w wr) (fun y _ => n - (intOf y).toNat)
  case atStart => exact ⟨0, Nat.zero_le _, rfl, HR.out.congr (fun i _ => by simp), Below.refl _ _⟩
  case round =>
    obtain ⟨j, hj, rfl, hrow, hbel⟩ := hrel
    have HB := hid hbel; clear hbel
    by_cases hlt : j < n
    · have hcl := hrow.cell hlt
      rw [if_neg (by omega)] at hcl
      have hfz := hrow.frozen j
      have HROW := hid hrow
      have hM1 := HMX.out j hlt
      have hix : (0 : Int) ≤ (j : Int) ∧ (j : Int) < (n : Int) := by omega
      have HMJ : Hid (∃ m, M j = m) := hid ⟨_, rfl⟩
      obtain ⟨m, hm⟩ := HMJ.out
      rw [hm] at hcl hM1
      have HMM := hid hm
      clear hm HMJ hrow
      by_cases hc : m = a ∨ m = b
      · have HST : Hid (∀ i, i < n → (if i = j then Value.int .i64 ((min a b : Nat) : Int) else Value.int .i64 ((if i < j then B.un a b (M i) else M i : Nat) : Int)) = Value.int .i64 ((if i < j + 1 then B.un a b (M i) else M i : Nat) : Int)) := hid (fun i hi => by
          by_cases e : i = j
          · subst e; rw [if_pos rfl, if_pos (by omega), HMM.out]; unfold B.un; rw [if_pos hc]
          · rw [if_neg e]
            by_cases h : i < j
            · rw [if_pos h, if_pos (by omega)]
            · rw [if_neg h, if_neg (by omega)])
        have hmn : ((min a b : Nat) : Int) = min (a : Int) (b : Int) := by omega
        rw [hmn] at HST
        by_cases h1 : m = a
        · have h1' : ((m : Int) == (a : Int)) = true := by simp [h1]
          clear hc h1
          go_wp2
          go_roundw
          case rel => exact ⟨j + 1, by omega, by go_num, (HROW.out.set j _).congr HST.out, HB.out.setCell (p := ⟨g, j, none⟩) (Nat.le_refl _) _⟩
          case measure => simp [intOf]; omega
        · have h1' : ((m : Int) == (a : Int)) = false := by simp; omega
          have h2' : ((m : Int) == (b : Int)) = true := by simp; omega
          clear hc h1
          go_wp2
          go_roundw
          case rel => exact ⟨j + 1, by omega, by go_num, (HROW.out.set j _).congr HST.out, HB.out.setCell (p := ⟨g, j, none⟩) (Nat.le_refl _) _⟩
          case measure => simp [intOf]; omega
      · have HST : Hid (∀ i, i < n → Value.int .i64 ((if i < j then B.un a b (M i) else M i : Nat) : Int) = Value.int .i64 ((if i < j + 1 then B.un a b (M i) else M i : Nat) : Int)) := hid (fun i hi => by
          by_cases e : i = j
          · subst e; rw [if_neg (by omega), if_pos (by omega), HMM.out]; unfold B.un; rw [if_neg hc]
          · by_cases h : i < j
            · rw [if_pos h, if_pos (by omega)]
            · rw [if_neg h, if_neg (by omega)])
        have h1' : ((m : Int) == (a : Int)) = false := by simp; omega
        have h2' : ((m : Int) == (b : Int)) = false := by simp; omega
        clear hc
        go_wp2
        go_roundw
        case rel => exact ⟨j + 1, by omega, by go_num, HROW.out.congr HST.out, HB.out⟩
        case measure => simp [intOf]; omega
    · have hje : j = n := by omega
      subst hje
      have HE := hid (hrow.congr (g := fun i => .int .i64 (B.un a b (M i))) (fun i hi => by simp [hi]))
      clear hrow
      go_wp2
      go_end0
      exact ⟨rfl, HE.out, HB.out⟩

set_option maxHeartbeats 1000000 in
set_option maxRecDepth 100000 in
theorem repeatAfter_any (g n p : Nat) (M : Nat → Nat) (w : World) (hn : n ≤ 1000) (hp : p ≤ n) (hM : ∀ i, i < n → M i ≤ 1000) (hr : w.rowIs g 3 n (fun i => .int .i64 (M i))) :
    Calls Try.prog 54 #[.slice (some ⟨g, 0, none⟩) n n, .int .i64 p] w fun e w' => e = .returned (.tuple #[]) ∧ w'.rowIs g 3 n (fun i => .int .i64 (B.ra p M (n - p) i)) ∧ Below g w w' := by
  have HR := hid hr
  have HMX : Hid (∀ k i, i < n → B.ra p M k i ≤ 1000) := hid (fun k i h => Nat.le_trans (B.ra_le p M i k) (hM i h))
  have CU := hid (fun a b (M' : Nat → Nat) w (h : ∀ i, i < n → M' i ≤ 1000) hr => unite_any g n a b M' w hn h hr)
  have hsub : (n : Int) - (p : Int) = ((n - p : Nat) : Int) := by omega
  clear hr hM
  go_enter Try.func54, Try.ntmps54
  go_wp2
  clear hsub
  obtain ⟨q, hq⟩ : ∃ q, n - p = q := ⟨_, rfl⟩
  have HQ := hid hq
  rw [hq]
  have hqn : q + p = n := by omega
  clear hq
  go_loopw [9] (fun y wr => ∃ j : Nat, j ≤ q ∧ y = .int .i64 j ∧ wr.rowIs g 3 n (fun i => .int .i64 (B.ra p M j i)) ∧ Below g w wr) (fun y _ => q - (intOf y).toNat)
  case atStart => exact ⟨0, Nat.zero_le _, rfl, HR.out, Below.refl _ _⟩
  case round =>
    obtain ⟨j, hj, rfl, hrow, hbel⟩ := hrel
    have HB := hid hbel; clear hbel
    by_cases hlt : j < q
    · have hc1 := hrow.cell (i := j) (by omega)
      have hc2 := hrow.cell (i := j + p) (by omega)
      have hm1 := HMX.out j j (by omega)
      have hm2 := HMX.out j (j + p) (by omega)
      have hix1 : (0 : Int) ≤ (j : Int) ∧ (j : Int) < (n : Int) := by omega
      have hix2 : (0 : Int) ≤ (j : Int) + (p : Int) ∧ (j : Int) + (p : Int) < (n : Int) := by omega
      have hwr : IntKind.i64.wrap ((j : Int) + (p : Int)) = (j : Int) + (p : Int) := IntWalk.i64_in _ ⟨by omega, by omega⟩
      have htn : ((j : Int) + (p : Int)).toNat = j + p := by omega
      have HROW := hid hrow
      have HRA : Hid (∀ i, B.un (B.ra p M j j) (B.ra p M j (j + p)) (B.ra p M j i) = B.ra p M (j + 1) i) := hid (fun i => rfl)
      have HC := hid (CU.out (B.ra p M j j) (B.ra p M j (j + p)) (B.ra p M j))
      have HM2 := hid (HMX.out j)
      clear hrow
      generalize B.ra p M j j = a at *
      generalize B.ra p M j (j + p) = b at *
      go_wp2
      go_region_with (first | (go_at_call 69; (with_reducible refine (HC.out _ HM2.out HROW.out.drew).mono ?_); rintro e w5 ⟨rfl, hr5, hb5⟩; have HR5 := hid hr5; have HB5 := hid hb5; clear hr5 hb5))
      all_goals
        go_wp2
        go_roundw
        case rel => exact ⟨j + 1, by omega, by go_num, HR5.out.congr (fun i _ => by rw [HRA.out]), HB.out.trans ((Below.refl g wr).drew.trans HB5.out)⟩
        case measure => simp [intOf]; omega
    · have hje : j = q := by omega
      subst hje
      have HE := hid hrow
      clear hrow
      go_wp2
      go_end0
      rw [HQ.out]
      exact ⟨rfl, HE.out, HB.out⟩

theorem B.getD_left {l m : List UInt8} {i : Nat} (h : i < l.length) : (l ++ m).getD i 0 = l.getD i 0 := by simp [List.getD, List.getElem?_append_left h]
theorem B.getD_at (l : List UInt8) (x : UInt8) {i : Nat} (h : l.length = i) : (l ++ [x]).getD i 0 = x := by subst h; simp [List.getD]
theorem B.getD_out {l : List UInt8} {i : Nat} (h : l.length ≤ i) : l.getD i 0 = 0 := by simp [List.getD, List.getElem?_eq_none h]
theorem B.nm_new {M : Nat → Nat} {k : Nat} (h : M k = k) : B.nm M (k + 1) = ((B.nm M k).1 ++ [UInt8.ofNat (97 + (B.nm M k).2)], (B.nm M k).2 + 1) := by rw [B.nm, if_pos h]
theorem B.nm_old {M : Nat → Nat} {k : Nat} (h : M k ≠ k) : B.nm M (k + 1) = ((B.nm M k).1 ++ [(B.nm M k).1.getD (M k) 0], (B.nm M k).2) := by rw [B.nm, if_neg h]
/-- The row of bytes so far. -/
def B.nmR (M : Nat → Nat) (k i : Nat) : Int := ((B.nm M k).1.getD i 0).toNat
theorem B.nmR_step {M : Nat → Nat} {k : Nat} {x : UInt8} {c : Nat} (h : B.nm M (k + 1) = ((B.nm M k).1 ++ [x], c)) (i : Nat) : (if i = k then (x.toNat : Int) else B.nmR M k i) = B.nmR M (k + 1) i := by
  have hl := B.nm_len M k
  unfold B.nmR
  rw [h]
  show _ = ((((B.nm M k).1 ++ [x]).getD i 0).toNat : Int)
  by_cases e : i = k
  · subst e
    rw [if_pos rfl, B.getD_at _ _ hl]
  · rw [if_neg e]
    by_cases h2 : i < k
    · rw [B.getD_left (by omega)]
    · rw [B.getD_out (by omega), B.getD_out (by simp; omega)]

set_option maxHeartbeats 1000000 in
set_option maxRecDepth 100000 in
theorem named_any (g n : Nat) (M : Nat → Nat) (w : World) (hn1 : 1 ≤ n) (hn : n ≤ 24) (hM : ∀ i, i < n → M i ≤ i) (hr : w.rowIs g 3 n (fun i => .int .i64 (M i))) :
    Calls Try.prog 55 #[.slice (some ⟨g, 0, none⟩) n n] w fun e w' => e = .returned (.string (B.str (B.nm M n).1)) ∧ Below w.heap.size w w' := by
  have hmk := run_make_row' (P := Try.prog) 48 5 (.int .u8 0) 1 Try.underlying48 (by kernel_rfl) rfl .i64 .i64 n (by omega) (by omega)
  have HR0 := hid ((World.rowIs_made w (.int .u8 0) n 5).congr (g := fun i => .int .u8 (B.nmR M 0 i)) (fun i _ => by simp [B.nmR, B.nm]))
  have HB0 := hid ((Below.refl _ w).alloc (Nat.le_refl _) (.cells (madeCells #[.int .u8 0] n) 5))
  have HMR := hid (hr.alloc (.cells (madeCells #[.int .u8 0] n) 5))
  have HGL := hid hr.lt
  have HMX := hid hM
  have HNL := hid (B.nm_len M)
  have HNC := hid (B.nm_le M)
  clear hr hM
  go_enter Try.func55, Try.ntmps55
  go_wp2
  clear hmk
  generalize hws : w.alloc (.cells (madeCells #[.int .u8 0] n) 5) = ws at *
  go_loopw [4, 12] (fun x y wr => ∃ j : Nat, j ≤ n ∧ y = .int .i64 j ∧ x = .int .u8 ((97 + (B.nm M j).2 : Nat) : Int) ∧ wr.rowIs w.heap.size 5 n (fun i => .int .u8 (B.nmR M j i)) ∧ wr.rowIs g 3 n (fun i => .int .i64 (M i)) ∧ Below w.heap.size w wr) (fun _ y _ => n - (intOf y).toNat)
  case atStart => exact ⟨0, Nat.zero_le _, rfl, rfl, HR0.out, HMR.out, HB0.out⟩
  case round =>
    obtain ⟨j, hj, rfl, rfl, hrow, hmr, hbel⟩ := hrel
    have HB := hid hbel; clear hbel
    by_cases hlt : j < n
    · have hcl := hmr.cell hlt
      have hfz := hrow.frozen j
      have hcb := hrow.cell (i := M j) (by have := HMX.out j hlt; omega)
      have hcj := hrow.cell hlt
      have HROW := hid hrow
      have HMR2 := hid hmr
      have hM1 := HMX.out j hlt
      have hix : (0 : Int) ≤ (j : Int) ∧ (j : Int) < (n : Int) := by omega
      have hcnt := HNC.out j
      clear hrow hmr
      by_cases hc : M j = j
      · have HNEW : Hid (∀ i, i < n → (if i = j then Value.int .u8 ((97 + (B.nm M j).2 : Nat) : Int) else Value.int .u8 (B.nmR M j i)) = Value.int .u8 (B.nmR M (j + 1) i)) := hid (fun i _ => by
          rw [← B.nmR_step (B.nm_new hc) i]
          by_cases e : i = j
          · rw [if_pos e, if_pos e]
            show _ = Value.int .u8 (((97 + (B.nm M j).2) % 256 : Nat) : Int)
            rw [Nat.mod_eq_of_lt (by omega)]
          · rw [if_neg e, if_neg e])
        have HC2 : Hid ((B.nm M (j + 1)).2 = (B.nm M j).2 + 1) := hid (by rw [B.nm, if_pos hc])
        rw [hc] at hcl
        have h1' : ((j : Int) == (j : Int)) = true := by simp
        clear hcb hM1 hc
        generalize (B.nm M j).2 = c at *
        have hcast : ((97 + c : Nat) : Int) = 97 + (c : Int) := by omega
        rw [hcast] at HNEW
        clear hcast
        go_wp2
        go_roundw
        case rel => exact ⟨j + 1, by omega, by go_num, by rw [HC2.out]; first | done | rfl | (congr 1; omega), (HROW.out.set j _).congr HNEW.out, HMR2.out.setOther (by have := HGL.out; show g ≠ w.heap.size; omega) _, HB.out.setCell (p := ⟨w.heap.size, j, none⟩) (Nat.le_refl _) _⟩
        case measure => simp [intOf]; omega
      · have hlj : M j < j := by omega
        have HOLD : Hid (∀ i, i < n → (if i = j then Value.int .u8 (B.nmR M j (M j)) else Value.int .u8 (B.nmR M j i)) = Value.int .u8 (B.nmR M (j + 1) i)) := hid (fun i _ => by
          rw [← B.nmR_step (B.nm_old hc) i]
          by_cases e : i = j
          · rw [if_pos e, if_pos e]; rfl
          · rw [if_neg e, if_neg e])
        have HC2 : Hid ((B.nm M (j + 1)).2 = (B.nm M j).2) := hid (by rw [B.nm, if_neg hc])
        have h1' : ((M j : Int) == (j : Int)) = false := by simp; omega
        have hix2 : (0 : Int) ≤ (M j : Int) ∧ (M j : Int) < (n : Int) := by omega
        clear hc
        generalize (B.nm M j).2 = c at *
        generalize B.nmR M j (M j) = x at *
        generalize M j = m at *
        go_wp2
        go_roundw
        case rel => exact ⟨j + 1, by omega, by go_num, by rw [HC2.out]; first | done | rfl | (congr 1; omega), (HROW.out.set j _).congr HOLD.out, HMR2.out.setOther (by have := HGL.out; show g ≠ w.heap.size; omega) _, HB.out.setCell (p := ⟨w.heap.size, j, none⟩) (Nat.le_refl _) _⟩
        case measure => simp [intOf]; omega
    · have hje : j = n := by omega
      subst hje
      have hcv := B.str_of wr w.heap.size j 5 48 9 5 (B.nm M j).1 Try.prog Try.underlying48 Try.underlying5 Try.underlying9 _ hrow (HNL.out j) (fun i h => by
        show Value.int .u8 (B.nmR M j i) = _
        unfold B.nmR
        rw [List.getD, List.getElem?_eq_getElem h]; rfl)
      clear hrow hmr
      go_wp2
      go_ret
      exact ⟨rfl, HB.out⟩
end Go.Proofs.Ytiodcgdjphmffaa
