/- Package hours: the walk of Bound. -/
import Derived.Test.YthlcnklbeolhpaaHWhy
namespace Go.Proofs.Ythlcnklbeolhpaa
open Go.RowKit

/-- Whether a reason is one of a work's. -/
def H.isR (T : List (List Int)) (x y : Int) : Bool := if x = 0 then H.inn y T.length else if x = 1 then H.inn y (H.wid T) else if x = 2 then H.inn y 1 else false
/-- The bound that Bound returns, and its error. -/
def H.bdE (T : List (List Int)) (s x y : Int) : Int := if H.chks T s = 0 ∧ H.isR T x y = true then H.bnd T s x.toNat y.toNat else 0
def H.bdX (T : List (List Int)) (s x y : Int) : Int := if H.chks T s = 0 then (if H.isR T x y = true then 0 else 5) else H.chks T s
theorem H.isR_ok {T : List (List Int)} {x y : Int} (h : H.isR T x y = true) : ∃ kd ix : Nat, x = (kd : Int) ∧ y = (ix : Int) ∧ H.OkR T kd ix := by
  unfold H.isR H.inn at h
  split at h
  · rename_i e
    have := of_decide_eq_true h
    exact ⟨0, y.toNat, e, by omega, Or.inl ⟨rfl, by omega⟩⟩
  · split at h
    · rename_i e
      have := of_decide_eq_true h
      exact ⟨1, y.toNat, e, by omega, Or.inr (Or.inl ⟨rfl, by omega⟩)⟩
    · split at h
      · rename_i e
        have := of_decide_eq_true h
        exact ⟨2, y.toNat, e, by omega, Or.inr (Or.inr ⟨rfl, by omega⟩)⟩
      · cases h

set_option maxHeartbeats 4000000 in
set_option maxRecDepth 100000 in
theorem bound_any (a : Option Addr) (c : Nat) (T : List (List Int)) (s x y : Int) (w : World) (hm : T.length ≤ maxLen) (hl : ∀ i (h : i < T.length), T[i].length ≤ maxLen) (hx : RdM w a T) :
    Calls Try.prog 23 #[.slice a T.length c, .int .i64 s, .agg #[.int .i64 x, .int .i64 y]] w fun e w' => e = .returned (.tuple #[.int .i64 (H.bdE T s x y), .int .i64 (H.bdX T s x y)]) ∧ Below w.heap.size w w' := by
  have hb0 : Below w.heap.size w (w.alloc (.cells #[.int .i64 x, .int .i64 y] 24)) := (Below.refl _ _).alloc (Nat.le_refl _) _
  have k0 : (w.alloc (.cells #[.int .i64 x, .int .i64 y] 24)).cell? ⟨w.heap.size, 0, none⟩ = some (.int .i64 x) := by rw [World.cell?_alloc_at _ _ _ _ rfl]; rfl
  have k1 : (w.alloc (.cells #[.int .i64 x, .int .i64 y] 24)).cell? ⟨w.heap.size, 1, none⟩ = some (.int .i64 y) := by rw [World.cell?_alloc_at _ _ _ _ rfl]; rfl
  have HB0 := hid hb0
  have hx0 := hx.stays hb0
  generalize hw0 : w.alloc (.cells #[.int .i64 x, .int .i64 y] 24) = w0 at *
  have HW0 := hid hw0
  clear hw0
  have HC := hid (checkSeats_any a c T s w0 hm hl hx0)
  by_cases h : H.chks T s = 0
  case neg =>
    have hne : (H.chks T s != 0) = true := by simpa using h
    have HE : Hid (H.bdE T s x y = 0 ∧ H.bdX T s x y = H.chks T s) := hid ⟨by unfold H.bdE; rw [if_neg (fun e => h e.1)], by unfold H.bdX; rw [if_neg h]⟩
    rw [HE.out.1, HE.out.2]
    clear HE
    generalize H.chks T s = ec at *
    clear h hx hx0 hb0 k0 k1
    go_enter Try.func23, Try.ntmps23
    go_wp2_with fail
    rw [HW0.out]
    refine HC.out.mono ?_
    rintro e w' ⟨rfl, rfl⟩
    go_wp2
    go_ret2
    exact ⟨rfl, HB0.out⟩
  case pos =>
  obtain ⟨hok, hs, _⟩ := H.chks_ok h
  have h6 := hok.m6
  have h1 := hok.m1
  have n6 := hok.n6
  have HCL := hid (fun W (h : Below w0.heap.size w0 W) => show W.cell? ⟨w.heap.size, 0, none⟩ = some (.int .i64 x) ∧ W.cell? ⟨w.heap.size, 1, none⟩ = some (.int .i64 y) from ⟨cell_stays h (Nat.le_refl _) k0, cell_stays h (Nat.le_refl _) k1⟩)
  have HK := hid (fun W (h : Hid (Below w0.heap.size w0 W)) => (kinds_any W).mono (R' := fun e w' => e = .returned H.kv ∧ Hid (Below w0.heap.size w0 w')) (fun e w' hq => ⟨hq.1, hid (h.out.trans (hq.2.mono h.out.size))⟩))
  have HWI := hid (fun p q W => within_any p q W)
  have hd : Hid (Below w0.heap.size w0 w0.drew) := hid (Below.refl _ _).drew
  have HBE := hid (fun kd ix W (hr : H.OkR T kd ix) (hW : Below w0.heap.size w0 W) => boundOf_any a c T s kd ix W hok hs hr (hx0.stays hW))
  unfold H.kv at HK
  have HE : Hid (H.bdE T s x y = (if H.isR T x y = true then H.bnd T s x.toNat y.toNat else 0) ∧ H.bdX T s x y = if H.isR T x y = true then 0 else 5) := hid ⟨by unfold H.bdE; simp [h], by unfold H.bdX; rw [if_pos h]⟩
  rw [HE.out.1, HE.out.2]
  rw [h] at HC
  have HKS3 := hid (fun W (h : Hid (Below w0.heap.size w0 W)) => kinds3_any a c T W (by omega) (hx0.stays h.out))
  have HKS1 := hid (fun W => kinds1_any a T.length c W)
  have HKS5 := hid (fun W => kinds5_any a T.length c W)
  clear HE h hx hb0 hok
  obtain ⟨p0, p1⟩ := HCL.out _ hd.out
  by_cases hx3 : x = 0 ∨ x = 1 ∨ x = 2
  case neg =>
    have HI : Hid (H.isR T x y = false) := hid (by unfold H.isR; rw [if_neg (by omega), if_neg (by omega), if_neg (by omega)])
    rw [HI.out]
    simp only [Bool.false_eq_true, if_false]
    have hi1 : H.inn x 3 = false := decide_eq_false (by omega)
    clear hx3 HI
    go_enter Try.func23, Try.ntmps23
    go_wp2_with fail
    rw [HW0.out]
    refine HC.out.mono ?_
    rintro e w' ⟨rfl, rfl⟩
    go_wp2
    refine wp_region_held_drew (S := fun W => W.cell? ⟨w.heap.size, 0, none⟩ = some (.int .i64 x) ∧ W.cell? ⟨w.heap.size, 1, none⟩ = some (.int .i64 y)) (by kernel_rfl) (by exact ⟨p0, p1⟩) (fun hHeld => ?_)
    refine wpAnyH_take (i := 0) (v := .pointer (some ⟨w.heap.size, 0, none⟩)) rfl (by kernel_rfl) (by kernel_rfl) (by kernel_rfl) (fun _ _ _ h => h) (Or.inl ⟨by rfl, fun w hSw => by obtain ⟨s1, s2⟩ := hSw; go_simp⟩) hHeld ?_
    try simp only [List.getElem_toArray, List.getElem_cons_zero, Act.put, List.setIfInBounds_toArray, List.set_cons_zero, List.set_cons_succ]
    refine wpAnyH_take (i := 1) (v := .int .i64 x) rfl (by kernel_rfl) (by kernel_rfl) (by kernel_rfl) (fun _ _ _ h => h) (Or.inl ⟨by rfl, fun w hSw => by obtain ⟨s1, s2⟩ := hSw; go_simp⟩) hHeld ?_
    try simp only [List.getElem_toArray, List.getElem_cons_succ, List.getElem_cons_zero, Act.put, List.setIfInBounds_toArray, List.set_cons_zero, List.set_cons_succ]
    refine wpAnyH_ready (rs := [2]) (by kernel_rfl) (by simp) ?_
    refine AllReadyH.cons rfl (fun K hK => ?_) AllReadyH.nil
    have HKK := hid hK
    clear hK
    go_simp
    refine (HK.out _ hd).mono ?_
    rintro e w10 ⟨rfl, hb10⟩
    go_wp2_with fail
    refine HKK.out _ _ (HCL.out _ hb10.out) (fun hHeld => ?_)
    clear HKK K
    try simp only [List.getElem_toArray, List.getElem_cons_succ, List.getElem_cons_zero, Act.put, List.setIfInBounds_toArray, List.set_cons_zero, List.set_cons_succ]
    refine wpAnyH_take (i := 3) (v := .int .i64 3) rfl (by kernel_rfl) (by kernel_rfl) (by kernel_rfl) (fun _ _ _ h => h) (Or.inl ⟨by rfl, fun w hSw => by go_simp⟩) hHeld ?_
    try simp only [List.getElem_toArray, List.getElem_cons_succ, List.getElem_cons_zero, Act.put, List.setIfInBounds_toArray, List.set_cons_zero, List.set_cons_succ]
    refine wpAnyH_ready (rs := [4]) (by kernel_rfl) (by simp) ?_
    refine AllReadyH.cons rfl (fun K hK => ?_) AllReadyH.nil
    have HKK := hid hK
    clear hK
    go_simp
    refine (HWI.out _ _ _).mono ?_
    rintro e w11 ⟨rfl, rfl⟩
    go_wp2_with fail
    refine HKK.out _ _ (HCL.out _ hb10.out) (fun hHeld => ?_)
    clear HKK K
    try simp only [List.getElem_toArray, List.getElem_cons_succ, List.getElem_cons_zero, Act.put, List.setIfInBounds_toArray, List.set_cons_zero, List.set_cons_succ]
    refine wpAnyH_take (i := 5) (v := .bool true) rfl (by kernel_rfl) (by kernel_rfl) (by kernel_rfl) (fun _ _ _ h => h) (Or.inl ⟨by rfl, fun w hSw => by go_simp⟩) hHeld ?_
    try simp only [List.getElem_toArray, List.getElem_cons_succ, List.getElem_cons_zero, Act.put, List.setIfInBounds_toArray, List.set_cons_zero, List.set_cons_succ]
    refine wpAnyH_take (i := 6) (v := .bool true) rfl (by kernel_rfl) (by kernel_rfl) (by kernel_rfl) (fun _ _ _ h => h) (Or.inl ⟨by rfl, fun w hSw => by go_simp⟩) hHeld ?_
    try simp only [List.getElem_toArray, List.getElem_cons_succ, List.getElem_cons_zero, Act.put, List.setIfInBounds_toArray, List.set_cons_zero, List.set_cons_succ]
    refine wpAnyH_take (i := 7) (v := undef) rfl (by kernel_rfl) (by kernel_rfl) (by kernel_rfl) (fun _ _ _ h => h) (Or.inr ⟨by rfl, rfl⟩) hHeld ?_
    try simp only [List.getElem_toArray, List.getElem_cons_succ, List.getElem_cons_zero, Act.put, List.setIfInBounds_toArray, List.set_cons_zero, List.set_cons_succ]
    refine wpAnyH_take (i := 8) (v := undef) rfl (by kernel_rfl) (by kernel_rfl) (by kernel_rfl) (fun _ _ _ h => h) (Or.inr ⟨by rfl, rfl⟩) hHeld ?_
    try simp only [List.getElem_toArray, List.getElem_cons_succ, List.getElem_cons_zero, Act.put, List.setIfInBounds_toArray, List.set_cons_zero, List.set_cons_succ]
    refine wpAnyH_take (i := 9) (v := undef) rfl (by kernel_rfl) (by kernel_rfl) (by kernel_rfl) (fun _ _ _ h => h) (Or.inr ⟨by rfl, rfl⟩) hHeld ?_
    try simp only [List.getElem_toArray, List.getElem_cons_succ, List.getElem_cons_zero, Act.put, List.setIfInBounds_toArray, List.set_cons_zero, List.set_cons_succ]
    refine wpAnyH_take (i := 10) (v := undef) rfl (by kernel_rfl) (by kernel_rfl) (by kernel_rfl) (fun _ _ _ h => h) (Or.inr ⟨by rfl, rfl⟩) hHeld ?_
    try simp only [List.getElem_toArray, List.getElem_cons_succ, List.getElem_cons_zero, Act.put, List.setIfInBounds_toArray, List.set_cons_zero, List.set_cons_succ]
    refine wpAnyH_take (i := 11) (v := undef) rfl (by kernel_rfl) (by kernel_rfl) (by kernel_rfl) (fun _ _ _ h => h) (Or.inr ⟨by rfl, rfl⟩) hHeld ?_
    try simp only [List.getElem_toArray, List.getElem_cons_succ, List.getElem_cons_zero, Act.put, List.setIfInBounds_toArray, List.set_cons_zero, List.set_cons_succ]
    refine wpAnyH_take (i := 12) (v := undef) rfl (by kernel_rfl) (by kernel_rfl) (by kernel_rfl) (fun _ _ _ h => h) (Or.inr ⟨by rfl, rfl⟩) hHeld ?_
    try simp only [List.getElem_toArray, List.getElem_cons_succ, List.getElem_cons_zero, Act.put, List.setIfInBounds_toArray, List.set_cons_zero, List.set_cons_succ]
    refine wpAnyH_take (i := 13) (v := undef) rfl (by kernel_rfl) (by kernel_rfl) (by kernel_rfl) (fun _ _ _ h => h) (Or.inr ⟨by rfl, rfl⟩) hHeld ?_
    try simp only [List.getElem_toArray, List.getElem_cons_succ, List.getElem_cons_zero, Act.put, List.setIfInBounds_toArray, List.set_cons_zero, List.set_cons_succ]
    refine wpAnyH_take (i := 14) (v := undef) rfl (by kernel_rfl) (by kernel_rfl) (by kernel_rfl) (fun _ _ _ h => h) (Or.inr ⟨by rfl, rfl⟩) hHeld ?_
    try simp only [List.getElem_toArray, List.getElem_cons_succ, List.getElem_cons_zero, Act.put, List.setIfInBounds_toArray, List.set_cons_zero, List.set_cons_succ]
    refine wpAnyH_take (i := 15) (v := undef) rfl (by kernel_rfl) (by kernel_rfl) (by kernel_rfl) (fun _ _ _ h => h) (Or.inr ⟨by rfl, rfl⟩) hHeld ?_
    try simp only [List.getElem_toArray, List.getElem_cons_succ, List.getElem_cons_zero, Act.put, List.setIfInBounds_toArray, List.set_cons_zero, List.set_cons_succ]
    refine wpAnyH_take (i := 16) (v := undef) rfl (by kernel_rfl) (by kernel_rfl) (by kernel_rfl) (fun _ _ _ h => h) (Or.inr ⟨by rfl, rfl⟩) hHeld ?_
    try simp only [List.getElem_toArray, List.getElem_cons_succ, List.getElem_cons_zero, Act.put, List.setIfInBounds_toArray, List.set_cons_zero, List.set_cons_succ]
    refine wpAnyH_take (i := 17) (v := undef) rfl (by kernel_rfl) (by kernel_rfl) (by kernel_rfl) (fun _ _ _ h => h) (Or.inr ⟨by rfl, rfl⟩) hHeld ?_
    try simp only [List.getElem_toArray, List.getElem_cons_succ, List.getElem_cons_zero, Act.put, List.setIfInBounds_toArray, List.set_cons_zero, List.set_cons_succ]
    refine wpAnyH_take (i := 18) (v := .bool true) rfl (by kernel_rfl) (by kernel_rfl) (by kernel_rfl) (fun _ _ _ h => h) (Or.inl ⟨by rfl, fun w hSw => by go_simp⟩) hHeld ?_
    try simp only [List.getElem_toArray, List.getElem_cons_succ, List.getElem_cons_zero, Act.put, List.setIfInBounds_toArray, List.set_cons_zero, List.set_cons_succ]
    refine wpAnyH_done (by kernel_rfl) ?_ _
    go_wp2
    go_ret2
    exact ⟨rfl, HB0.out.trans (hb10.out.mono HB0.out.size)⟩
  case pos =>
  rcases hx3 with rfl | rfl | rfl
  · have ik := indexK0
    have fk := fieldK00
    unfold H.kv at ik
    have hi1 : H.inn 0 3 = true := rfl
    have HI : Hid (H.isR T 0 y = H.inn y T.length) := hid rfl
    rw [HI.out]
    have HRK := hid (fun (h : H.inn y T.length = true) => H.isR_ok (T := T) (x := 0) (y := y) (by rw [HI.out]; exact h))
    clear HI
    cases hi2 : H.inn y T.length with
    | false =>
      simp only [Bool.false_eq_true, if_false]
      clear HRK
      go_enter Try.func23, Try.ntmps23
      go_wp2_with fail
      rw [HW0.out]
      refine HC.out.mono ?_
      rintro e w' ⟨rfl, rfl⟩
      go_wp2
      go_region_held3 (fun W => W.cell? ⟨w.heap.size, 0, none⟩ = some (.int .i64 0) ∧ W.cell? ⟨w.heap.size, 1, none⟩ = some (.int .i64 y)) (first | exact HCL.out _ (Hid.out (by assumption)) | go_keep) (first | (go_at_call 63; (with_reducible refine (HK.out _ (by assumption)).mono ?_); rintro e w10 ⟨rfl, hb10⟩) | (go_at_call 62; (with_reducible refine (HWI.out _ _ _).mono ?_); rintro e w11 ⟨rfl, rfl⟩) | (go_at_call 89; (with_reducible refine (HKS1.out _).mono ?_); rintro e w12 ⟨rfl, rfl⟩))
      all_goals
        go_wp2
        go_ret2
        exact ⟨rfl, HB0.out.trans (Below.mono (Hid.out (by assumption)) HB0.out.size)⟩
    | true =>
      simp only [if_true]
      obtain ⟨kd, ix, ek, rfl, hrk⟩ := HRK.out hi2
      have ek' : kd = 0 := by omega
      subst ek'
      have HBE2 := hid (fun W (hW : Hid (Below w0.heap.size w0 W)) => HBE.out 0 ix W hrk hW.out)
      simp only [Int.toNat_natCast, Int.toNat_zero] at HBE2 ⊢
      clear HRK HBE hrk ek
      generalize H.bnd T s 0 ix = q at *
      go_enter Try.func23, Try.ntmps23
      go_wp2_with fail
      rw [HW0.out]
      refine HC.out.mono ?_
      rintro e w' ⟨rfl, rfl⟩
      go_wp2
      go_region_held3 (fun W => W.cell? ⟨w.heap.size, 0, none⟩ = some (.int .i64 0) ∧ W.cell? ⟨w.heap.size, 1, none⟩ = some (.int .i64 ix)) (first | exact HCL.out _ (Hid.out (by assumption)) | go_keep) (first | (go_at_call 63; (with_reducible refine (HK.out _ (by assumption)).mono ?_); rintro e w10 ⟨rfl, hb10⟩) | (go_at_call 62; (with_reducible refine (HWI.out _ _ _).mono ?_); rintro e w11 ⟨rfl, rfl⟩) | (go_at_call 89; (with_reducible refine (HKS1.out _).mono ?_); rintro e w12 ⟨rfl, rfl⟩))
      all_goals
        obtain ⟨e0, e1⟩ := HCL.out _ (Hid.out (by assumption))
        go_wp2_with fail
        refine (HBE2.out _ (by assumption)).mono ?_
        rintro e w13 ⟨rfl, hb⟩
        have HB13 := hid (HB0.out.trans (Below.mono (Below.trans (Hid.out (by assumption)) (hb.mono (Below.size (Hid.out (by assumption))))) HB0.out.size))
        clear hb
        go_wp2
        go_ret2
        exact ⟨rfl, HB13.out⟩
  · have ik := indexK1
    have fk := fieldK10
    unfold H.kv at ik
    have hi1 : H.inn 1 3 = true := rfl
    have HI : Hid (H.isR T 1 y = H.inn y (H.wid T)) := hid rfl
    rw [HI.out]
    have HRK := hid (fun (h : H.inn y (H.wid T) = true) => H.isR_ok (T := T) (x := 1) (y := y) (by rw [HI.out]; exact h))
    clear HI
    cases hi2 : H.inn y (H.wid T) with
    | false =>
      simp only [Bool.false_eq_true, if_false]
      clear HRK
      go_enter Try.func23, Try.ntmps23
      go_wp2_with fail
      rw [HW0.out]
      refine HC.out.mono ?_
      rintro e w' ⟨rfl, rfl⟩
      go_wp2
      go_region_held3 (fun W => W.cell? ⟨w.heap.size, 0, none⟩ = some (.int .i64 1) ∧ W.cell? ⟨w.heap.size, 1, none⟩ = some (.int .i64 y)) (first | exact HCL.out _ (Hid.out (by assumption)) | go_keep) (first | (go_at_call 63; (with_reducible refine (HK.out _ (by assumption)).mono ?_); rintro e w10 ⟨rfl, hb10⟩) | (go_at_call 62; (with_reducible refine (HWI.out _ _ _).mono ?_); rintro e w11 ⟨rfl, rfl⟩) | (go_at_call 91; (with_reducible refine (HKS3.out _ (by assumption)).mono ?_); rintro e w12 ⟨rfl, rfl⟩))
      all_goals
        go_wp2
        go_ret2
        exact ⟨rfl, HB0.out.trans (Below.mono (Hid.out (by assumption)) HB0.out.size)⟩
    | true =>
      simp only [if_true]
      obtain ⟨kd, ix, ek, rfl, hrk⟩ := HRK.out hi2
      have ek' : kd = 1 := by omega
      subst ek'
      have HBE2 := hid (fun W (hW : Hid (Below w0.heap.size w0 W)) => HBE.out 1 ix W hrk hW.out)
      simp only [Int.toNat_natCast, Int.toNat_one] at HBE2 ⊢
      clear HRK HBE hrk ek
      generalize H.bnd T s 1 ix = q at *
      go_enter Try.func23, Try.ntmps23
      go_wp2_with fail
      rw [HW0.out]
      refine HC.out.mono ?_
      rintro e w' ⟨rfl, rfl⟩
      go_wp2
      go_region_held3 (fun W => W.cell? ⟨w.heap.size, 0, none⟩ = some (.int .i64 1) ∧ W.cell? ⟨w.heap.size, 1, none⟩ = some (.int .i64 ix)) (first | exact HCL.out _ (Hid.out (by assumption)) | go_keep) (first | (go_at_call 63; (with_reducible refine (HK.out _ (by assumption)).mono ?_); rintro e w10 ⟨rfl, hb10⟩) | (go_at_call 62; (with_reducible refine (HWI.out _ _ _).mono ?_); rintro e w11 ⟨rfl, rfl⟩) | (go_at_call 91; (with_reducible refine (HKS3.out _ (by assumption)).mono ?_); rintro e w12 ⟨rfl, rfl⟩))
      all_goals
        obtain ⟨e0, e1⟩ := HCL.out _ (Hid.out (by assumption))
        go_wp2_with fail
        refine (HBE2.out _ (by assumption)).mono ?_
        rintro e w13 ⟨rfl, hb⟩
        have HB13 := hid (HB0.out.trans (Below.mono (Below.trans (Hid.out (by assumption)) (hb.mono (Below.size (Hid.out (by assumption))))) HB0.out.size))
        clear hb
        go_wp2
        go_ret2
        exact ⟨rfl, HB13.out⟩
  · have ik := indexK2
    have fk := fieldK20
    unfold H.kv at ik
    have hi1 : H.inn 2 3 = true := rfl
    have HI : Hid (H.isR T 2 y = H.inn y 1) := hid rfl
    rw [HI.out]
    have HRK := hid (fun (h : H.inn y 1 = true) => H.isR_ok (T := T) (x := 2) (y := y) (by rw [HI.out]; exact h))
    clear HI
    cases hi2 : H.inn y 1 with
    | false =>
      simp only [Bool.false_eq_true, if_false]
      clear HRK
      go_enter Try.func23, Try.ntmps23
      go_wp2_with fail
      rw [HW0.out]
      refine HC.out.mono ?_
      rintro e w' ⟨rfl, rfl⟩
      go_wp2
      go_region_held3 (fun W => W.cell? ⟨w.heap.size, 0, none⟩ = some (.int .i64 2) ∧ W.cell? ⟨w.heap.size, 1, none⟩ = some (.int .i64 y)) (first | exact HCL.out _ (Hid.out (by assumption)) | go_keep) (first | (go_at_call 63; (with_reducible refine (HK.out _ (by assumption)).mono ?_); rintro e w10 ⟨rfl, hb10⟩) | (go_at_call 62; (with_reducible refine (HWI.out _ _ _).mono ?_); rintro e w11 ⟨rfl, rfl⟩) | (go_at_call 93; (with_reducible refine (HKS5.out _).mono ?_); rintro e w12 ⟨rfl, rfl⟩))
      all_goals
        go_wp2
        go_ret2
        exact ⟨rfl, HB0.out.trans (Below.mono (Hid.out (by assumption)) HB0.out.size)⟩
    | true =>
      simp only [if_true]
      obtain ⟨kd, ix, ek, rfl, hrk⟩ := HRK.out hi2
      have ek' : kd = 2 := by omega
      subst ek'
      have HBE2 := hid (fun W (hW : Hid (Below w0.heap.size w0 W)) => HBE.out 2 ix W hrk hW.out)
      simp only [Int.toNat_natCast, show (2 : Int).toNat = 2 from rfl] at HBE2 ⊢
      clear HRK HBE hrk ek
      generalize H.bnd T s 2 ix = q at *
      go_enter Try.func23, Try.ntmps23
      go_wp2_with fail
      rw [HW0.out]
      refine HC.out.mono ?_
      rintro e w' ⟨rfl, rfl⟩
      go_wp2
      go_region_held3 (fun W => W.cell? ⟨w.heap.size, 0, none⟩ = some (.int .i64 2) ∧ W.cell? ⟨w.heap.size, 1, none⟩ = some (.int .i64 ix)) (first | exact HCL.out _ (Hid.out (by assumption)) | go_keep) (first | (go_at_call 63; (with_reducible refine (HK.out _ (by assumption)).mono ?_); rintro e w10 ⟨rfl, hb10⟩) | (go_at_call 62; (with_reducible refine (HWI.out _ _ _).mono ?_); rintro e w11 ⟨rfl, rfl⟩) | (go_at_call 93; (with_reducible refine (HKS5.out _).mono ?_); rintro e w12 ⟨rfl, rfl⟩))
      all_goals
        obtain ⟨e0, e1⟩ := HCL.out _ (Hid.out (by assumption))
        go_wp2_with fail
        refine (HBE2.out _ (by assumption)).mono ?_
        rintro e w13 ⟨rfl, hb⟩
        have HB13 := hid (HB0.out.trans (Below.mono (Below.trans (Hid.out (by assumption)) (hb.mono (Below.size (Hid.out (by assumption))))) HB0.out.size))
        clear hb
        go_wp2
        go_ret2
        exact ⟨rfl, HB13.out⟩
end Go.Proofs.Ythlcnklbeolhpaa
