/- Package rack: the walks of keeps and Verify. -/
import Derived.Test.YtmbfpekcfeeifaaKMove
namespace Go.Proofs.Ytmbfpekcfeeifaa
open Go.RowKit

theorem K.kp_at {R C : List Int} {i j : Nat} {z : Int} (hi : i < R.length) (hj : j < C.length) : K.kp R C ((i : Int), (j : Int), z) = if z = 1 then decide (R[i] ≤ C[j]) else if z = 2 then decide (C[j] ≤ R[i]) else decide (R[i] = C[j]) := by
  unfold K.kp
  simp [List.getD_eq_getElem?_getD, hi, hj]

set_option maxHeartbeats 2000000 in
set_option maxRecDepth 100000 in
theorem keeps_any (a1 : Option Addr) (c1 : Nat) (a2 : Option Addr) (c2 : Nat) (R C : List Int) (i j : Nat) (z : Int) (w : World) (hi : i < R.length) (hj : j < C.length) (h1 : RdI w a1 R) (h2 : RdI w a2 C) :
    Calls Try.prog 68 #[.agg #[.slice a1 R.length c1, .slice a2 C.length c2], .agg #[.int .i64 (i : Int), .int .i64 (j : Int), .int .i64 z]] w fun e w' => e = .returned (.bool (K.kp R C ((i : Int), (j : Int), z))) ∧ Below w.heap.size w w' := by
  rw [K.kp_at hi hj]
  have hb1 : Below w.heap.size w (w.alloc (.cells #[.slice a1 R.length c1, .slice a2 C.length c2] 50)) := (Below.refl _ _).alloc (Nat.le_refl _) _
  have hb2 := hb1.alloc (o := .cells #[.int .i64 (i : Int), .int .i64 (j : Int), .int .i64 z] 63) (by simp)
  obtain ⟨b1, o1, rfl, q1⟩ := h1.stays2 hb2 i hi
  obtain ⟨b2, o2, rfl, q2⟩ := h2.stays2 hb2 j hj
  have HB := hid hb2
  have ii : (0 : Int) ≤ (i : Int) ∧ (i : Int) < (R.length : Int) := by omega
  have jj : (0 : Int) ≤ (j : Int) ∧ (j : Int) < (C.length : Int) := by omega
  have hhi : i < R.length := hi
  have hhj : j < C.length := hj
  have hrg : ∃ r, R[i] = r := ⟨_, rfl⟩
  have hsg : ∃ r, C[j] = r := ⟨_, rfl⟩
  obtain ⟨r, hr⟩ := hrg
  obtain ⟨s, hs⟩ := hsg
  rw [hr] at q1 ⊢
  rw [hs] at q2 ⊢
  clear h1 h2 hb1 hb2 hr hs
  by_cases z1 : z = 1
  · subst z1
    rw [if_pos rfl]
    go_enter Try.func68, Try.ntmps68
    go_wp2
    go_quiet (fail)
    have HBN := hid (below_drewN HB.out nq)
    go_wp2
    go_ret
    exact ⟨rfl, HBN.out⟩
  · by_cases z2 : z = 2
    · subst z2
      rw [if_neg z1, if_pos rfl]
      go_enter Try.func68, Try.ntmps68
      go_wp2
      go_quiet (fail)
      have HBN := hid (below_drewN HB.out nq)
      go_wp2
      go_ret
      exact ⟨rfl, HBN.out⟩
    · rw [if_neg z1, if_neg z2]
      have d1 : (z == 1) = false := by simpa using z1
      have d2 : (z == 2) = false := by simpa using z2
      go_enter Try.func68, Try.ntmps68
      go_wp2
      go_quiet (fail)
      have HBN := hid (below_drewN HB.out nq)
      go_wp2
      go_ret
      exact ⟨ret_bool (by rw [Bool.eq_iff_iff]; simp), HBN.out⟩
end Go.Proofs.Ytmbfpekcfeeifaa
