/- Package rack: the walk of turnsAround. -/
import Derived.Test.YtmbfpekcfeeifaaKMvm
import Derived.Lib.SliceRun
import Derived.BigRegion
import Derived.RegionTactic
namespace Go.Proofs.Ytmbfpekcfeeifaa
open Go.RowKit

theorem reaches_R (g m n : Nat) (sl : Value) (M : Nat → Nat → Bool) (x y : Nat) (w : World) (hx : x < 12) (hM : K.Bnd M) (hA : ArrAt w g m n sl M) :
    Calls Try.prog 80 #[.pointer (some ⟨g, 0, none⟩), .int .i64 x, .int .i64 y] w fun e w' => e = .returned (.bool (K.R M x y)) ∧ Below w.heap.size w w' := by
  refine (reaches_any g m n sl M x y w hx hM hA).mono ?_
  rintro e w' ⟨r, rfl, hr, hb⟩
  refine ⟨ret_bool ?_, hb⟩
  rw [Bool.eq_iff_iff, K.R_iff]; exact hr
/-- The numbers of the first j places are there. -/
noncomputable def K.pt (M : Nat → Nat → Bool) (p j x : Nat) : Value := .int .i64 (if x < j then K.tv M p x else 0)
theorem K.pt_keep {M : Nat → Nat → Bool} {p j : Nat} (h : K.R M j p = true) : K.pt M p j = K.pt M p (j + 1) := by
  funext x
  unfold K.pt
  by_cases e : x = j
  · subst e
    rw [if_neg (Nat.lt_irrefl _), if_pos (Nat.lt_succ_self _)]
    unfold K.tv
    rw [if_pos h]
  · by_cases e2 : x < j
    · rw [if_pos e2, if_pos (by omega)]
    · rw [if_neg e2, if_neg (by omega)]
theorem K.pt_set {M : Nat → Nat → Bool} {p j : Nat} (h : K.R M j p = false) (x : Nat) : (if x = j then Value.int .i64 1 else K.pt M p j x) = K.pt M p (j + 1) x := by
  unfold K.pt
  by_cases e : x = j
  · subst e
    rw [if_pos rfl, if_pos (Nat.lt_succ_self _)]
    unfold K.tv
    rw [h]; rfl
  · rw [if_neg e]
    by_cases e2 : x < j
    · rw [if_pos e2, if_pos (by omega)]
    · rw [if_neg e2, if_neg (by omega)]
/-- The motion around a place, returned. -/
def K.Trn (N : Nat) (M : Nat → Nat → Bool) (p : Nat) (w : World) (e : Ending) (w' : World) : Prop :=
  ∃ g, e = .returned (.slice (some ⟨g, 0, none⟩) N N) ∧ w'.rowIs g 3 N (fun x => .int .i64 (K.tv M p x)) ∧ Below w.heap.size w w'

set_option maxHeartbeats 4000000 in
set_option maxRecDepth 100000 in
theorem turns_any (m n : Nat) (a : Option Addr) (c : Nat) (bs : List Br) (p : Nat) (w : World) (hm : bs.length ≤ maxLen) (hR : RdB w a bs) (h1 : m ≤ 6) (h2 : n ≤ 6) (hv : ∀ b ∈ bs, K.InB m n b) :
    Calls Try.prog 62 #[K.rk m n a bs.length c, .int .i64 p] w (K.Trn (m + n) (K.leads m bs) p w) := by
  have hb0 : Below w.heap.size w (w.alloc (.cells #[.int .i64 (m : Int), .int .i64 (n : Int), .slice a bs.length c] 24)) := (Below.refl _ _).alloc (Nat.le_refl _) _
  have HB0 := hid hb0
  have HAO := hid (arrowsOf_any m n a c bs _ hm (hR.stays hb0) h1 h2 hv)
  have HM := hid (K.leads_bnd h1 h2 hv)
  have HMK := hid (run_make_row' (P := Try.prog) 40 3 (.int .i64 0) 8 Try.underlying40 (by kernel_rfl) rfl .i64 .i64 (m + n) (by omega) (by omega))
  clear hb0 hR hv
  unfold K.rk at HAO ⊢
  go_enter Try.func62, Try.ntmps62
  go_wp2_with fail
  generalize hw1 : w.alloc (.cells #[.int .i64 (m : Int), .int .i64 (n : Int), .slice a bs.length c] 24) = w1 at *
  clear hw1
  refine HAO.out.mono ?_
  rintro e w2 ⟨g, rfl, hg, hA, hb⟩
  have HB2 := hid (HB0.out.trans (hb.mono HB0.out.size))
  generalize K.leads m bs = M at *
  generalize Value.slice a bs.length c = sl at *
  have HP3 := hid (places_any g m n sl M w2 hA h1 h2)
  have HA := hid hA
  clear hA hb hg HAO HB0
  have hmk := HMK.out
  go_wp2_with fail
  refine HP3.out.mono ?_
  rintro e w3 ⟨rfl, q, rfl⟩
  have HA3 : Hid (ArrAt (w2.drewN q) g m n sl M) := hid (HA.out.of_block rfl)
  have HB3 := hid (below_drewN HB2.out q)
  generalize w2.drewN q = w3 at *
  clear HP3 HA HB2 w2
  have HN12 := hid (show m + n ≤ 12 by omega)
  generalize m + n = N at *
  go_wp2
  have HRW : Hid ((w3.alloc (.cells (madeCells #[.int .i64 0] N) 3)).rowIs w3.heap.size 3 N (K.pt M p 0)) := hid ((World.rowIs_made w3 (.int .i64 0) N 3).congr (fun q _ => by unfold K.pt; simp))
  have HB4 := hid (HB3.out.alloc HB3.out.size (.cells (madeCells #[.int .i64 0] N) 3))
  have HA4 := hid (HA3.out.alloc (.cells (madeCells #[.int .i64 0] N) 3))
  have HG4 : Hid (g < w3.heap.size ∧ w.heap.size ≤ w3.heap.size) := hid ⟨HA3.out.lt, HB3.out.size⟩
  generalize w3.alloc (.cells (madeCells #[.int .i64 0] N) 3) = w4 at *
  generalize w3.heap.size = gb at *
  clear hmk HMK HB3 HA3 w3
  go_loopw [18] (fun i wr => ∃ j : Nat, j ≤ N ∧ i = .int .i64 j ∧ wr.rowIs gb 3 N (K.pt M p j) ∧ ArrAt wr g m n sl M ∧ Below w.heap.size w wr) (fun i _ => N - (intOf i).toNat)
  case atStart => exact ⟨0, Nat.zero_le _, rfl, HRW.out, HA4.out, HB4.out⟩
  case round =>
    clear HRW HA4 HB4
    obtain ⟨j, hj, rfl, hrw, har, hbl⟩ := hrel
    have HRW := hid hrw
    have HAR := hid har
    have HBL := hid hbl
    clear hrw har hbl
    have h12 := HN12.out
    by_cases hlt : j < N
    · have HRR := hid (reaches_R g m n sl M j p wr (by have := HN12.out; omega) HM.out HAR.out)
      cases hT : K.R M j p with
      | true =>
        rw [hT] at HRR
        have HK := hid (K.pt_keep hT)
        clear hT
        go_wp2_with fail
        refine HRR.out.mono ?_
        rintro e w5 ⟨rfl, hb⟩
        have HR5 := hid (HRW.out.of_block (hb.block gb HRW.out.lt))
        have HA5 := hid (HAR.out.of_block (hb.block g HAR.out.lt))
        have HB5 := hid (HBL.out.trans (hb.mono HBL.out.size))
        clear hb
        go_wp2
        go_roundw
        case rel => exact ⟨j + 1, by omega, by go_num, by rw [← HK.out]; exact HR5.out, HA5.out, HB5.out⟩
        case measure => simp [intOf]; omega
      | false =>
        rw [hT] at HRR
        have HK := hid (K.pt_set hT)
        clear hT
        go_wp2_with fail
        refine HRR.out.mono ?_
        rintro e w5 ⟨rfl, hb⟩
        have hr5 := HRW.out.of_block (hb.block gb HRW.out.lt)
        have HR5 := hid ((hr5.set j (.int .i64 1)).congr fun x _ => HK.out x)
        have y1 := hr5.cell hlt
        have f1 := hr5.frozen j
        have ii : (0 : Int) ≤ (j : Int) ∧ (j : Int) < (N : Int) := by omega
        have HA5 : Hid (ArrAt (w5.setCell ⟨gb, j, none⟩ (.int .i64 1)) g m n sl M) := hid ((HAR.out.of_block (hb.block g HAR.out.lt)).of_block (Below.heap_setCell _ _ _ _ (by have := HG4.out.1; show g ≠ gb; omega)))
        have HB5 := hid ((HBL.out.trans (hb.mono HBL.out.size)).setCell (p := ⟨gb, j, none⟩) HG4.out.2 (.int .i64 1))
        clear hb hr5
        go_wp2
        go_roundw
        case rel => exact ⟨j + 1, by omega, by go_num, HR5.out, HA5.out, HB5.out⟩
        case measure => simp [intOf]; omega
    · have hje : j = N := by omega
      subst hje
      have HRF : Hid (wr.rowIs gb 3 j (fun x => .int .i64 (K.tv M p x))) := hid (HRW.out.congr fun x hx => by unfold K.pt; rw [if_pos hx])
      go_wp2
      go_ret
      exact ⟨gb, rfl, HRF.out, HBL.out⟩
end Go.Proofs.Ytmbfpekcfeeifaa
