/- Package hours: the walks of isSide, within, shared. -/
import Derived.Test.YthlcnklbeolhpaaHPlain
import Derived.Test.YthlcnklbeolhpaaRows
import Derived.BigQuiet
namespace Go.Proofs.Ythlcnklbeolhpaa
open Go.RowKit

theorem isSide_any (x : Int) (w : World) : Calls Try.prog 65 #[.int .i64 x] w fun e w' => e = .returned (.bool (H.side x)) ∧ w = w' := by
  by_cases h1 : 1 ≤ x
  · by_cases h2 : x ≤ 6
    · have HR : Hid (H.side x = true) := hid (decide_eq_true ⟨h1, h2⟩)
      go_enter Try.func65, Try.ntmps65
      go_wp2
      go_ret
      exact ⟨ret_bool HR.out.symm, rfl⟩
    · have HR : Hid (H.side x = false) := hid (decide_eq_false (by omega))
      go_enter Try.func65, Try.ntmps65
      go_wp2
      go_ret
      exact ⟨ret_bool HR.out.symm, rfl⟩
  · have HR : Hid (H.side x = false) := hid (decide_eq_false (by omega))
    go_enter Try.func65, Try.ntmps65
    go_wp2
    go_ret
    exact ⟨ret_bool HR.out.symm, rfl⟩
theorem within_any (x n : Int) (w : World) : Calls Try.prog 62 #[.int .i64 x, .int .i64 n] w fun e w' => e = .returned (.bool (H.inn x n)) ∧ w = w' := by
  by_cases h1 : 0 ≤ x
  · by_cases h2 : x < n
    · have HR : Hid (H.inn x n = true) := hid (decide_eq_true ⟨h1, h2⟩)
      go_enter Try.func62, Try.ntmps62
      go_wp2
      go_ret
      exact ⟨ret_bool HR.out.symm, rfl⟩
    · have HR : Hid (H.inn x n = false) := hid (decide_eq_false (by omega))
      go_enter Try.func62, Try.ntmps62
      go_wp2
      go_ret
      exact ⟨ret_bool HR.out.symm, rfl⟩
  · have HR : Hid (H.inn x n = false) := hid (decide_eq_false (by omega))
    go_enter Try.func62, Try.ntmps62
    go_wp2
    go_ret
    exact ⟨ret_bool HR.out.symm, rfl⟩
set_option maxHeartbeats 400000 in
theorem shared_any (t s : Int) (w : World) (ht : 0 ≤ t) (ht2 : t ≤ 100000) (hs : 1 ≤ s) :
    Calls Try.prog 78 #[.int .i64 t, .int .i64 s] w fun e w' => e = .returned (.int .i64 (H.ceil t s)) ∧ w = w' := by
  have hc := H.ceil_eq (t := t) hs
  have hq := Int.ediv_nonneg ht (show 0 ≤ s by omega)
  have hq2 : t / s ≤ t := Int.ediv_le_self _ ht
  have e1 : t.tdiv s = t / s := Int.tdiv_eq_ediv_of_nonneg ht
  have e2 : t.tmod s = t % s := Int.tmod_eq_emod_of_nonneg ht
  have hr1 := Int.emod_nonneg t (show s ≠ 0 by omega)
  have hs0 : ¬ s = 0 := by omega
  have hr2 : IntKind.i64.wrap (t.tdiv s) = t / s := by rw [e1]; exact IntWalk.i64_in _ (by omega)
  by_cases h : 0 < t % s
  · have HC : Hid (H.ceil t s = t / s + 1) := hid (by rw [hc, if_pos h])
    clear hc
    generalize t / s = q at *
    generalize t % s = r at *
    go_enter Try.func78, Try.ntmps78
    go_wp2
    go_ret
    exact ⟨ret_int HC.out.symm, rfl⟩
  · have HC : Hid (H.ceil t s = t / s) := hid (by rw [hc, if_neg h])
    clear hc
    generalize t / s = q at *
    generalize t % s = r at *
    go_enter Try.func78, Try.ntmps78
    go_wp2
    go_ret
    exact ⟨ret_int HC.out.symm, rfl⟩
end Go.Proofs.Ythlcnklbeolhpaa
