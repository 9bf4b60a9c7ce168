/- The walks of the small functions that loop over numbers. -/
import Derived.Test.YtlpdlnefgjmgmaaProg
import Derived.Test.YtlpdlnefgjmgmaaBase
import Derived.Test.YtlpdlnefgjmgmaaPure
import Derived.BigQuiet
import Derived.Deep.QuietTactic
namespace Go.Proofs.Ytlpdlnefgjmgmaa
open Go.RowKit

set_option maxHeartbeats 400000 in
theorem shared_any (a b : Nat) (w : World) (ha : a ≤ 1000) (hb : b ≤ 1000) :
    Calls Try.prog 48 #[.int .i64 a, .int .i64 b] w fun e w' => e = .returned (.int .i64 (Nat.gcd a b : Nat)) ∧ Below w.heap.size w w' := by
  go_enter Try.func48, Try.ntmps48
  go_wp2
  go_loopw [0, 1] (fun x y wr => ∃ c d : Nat, x = .int .i64 c ∧ y = .int .i64 d ∧ c ≤ 1000 ∧ d ≤ 1000 ∧ Nat.gcd c d = Nat.gcd a b ∧ Below w.heap.size w wr) (fun _ y _ => (intOf y).toNat)
  case atStart => exact ⟨a, b, rfl, rfl, ha, hb, rfl, Below.refl _ _⟩
  case round =>
    obtain ⟨c, d, rfl, rfl, hc, hd, hg, hbel⟩ := hrel
    have HG := hid hg; clear hg
    have HB := hid hbel; clear hbel
    by_cases h0 : d = 0
    · have hz : ((d : Int) != 0) = false := by simp; omega
      have hG2 : Hid (c = Nat.gcd a b) := by have := HG.out; subst h0; simpa [Hid] using this
      clear h0
      go_wp2
      go_ret
      exact ⟨ret_int (by rw [← hG2.out]), HB.out⟩
    · have hz : ((d : Int) != 0) = true := by simp; omega
      have hz2 : ¬ (d : Int) = 0 := by omega
      have hz3 : (1 : Int) ≤ d := by omega
      have hm : c % d < d := Nat.mod_lt _ (by omega)
      have HN : Hid ((c : Int) % d = ((c % d : Nat) : Int)) := hid (by simp)
      have HG2 : Hid (Nat.gcd d (c % d) = Nat.gcd a b) := hid (by rw [← HG.out, Nat.gcd_comm, ← Nat.gcd_rec, Nat.gcd_comm])
      clear h0
      go_wp2
      go_quiet (fail)
      go_wp2
      go_roundw
      case rel => exact ⟨d, c % d, rfl, by rw [HN.out], hd, by omega, HG2.out, below_drewN HB.out _⟩
      case measure => simp [intOf]; omega

end Go.Proofs.Ytlpdlnefgjmgmaa
