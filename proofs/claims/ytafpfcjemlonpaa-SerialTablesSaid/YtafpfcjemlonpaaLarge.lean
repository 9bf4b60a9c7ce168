/- The walk of the function that looks at a table's size. -/
import Derived.Test.YtafpfcjemlonpaaProg
import Derived.Test.YtafpfcjemlonpaaBase
namespace Go.Proofs.Ytafpfcjemlonpaa
open Go.RowKit

/-- It returns a bool, and the world is as it was. -/
def SomeBool (w : World) (e : Ending) (w' : World) : Prop := ∃ b, e = .returned (.bool b) ∧ w = w'

set_option maxHeartbeats 400000 in
theorem large_any (a : Option Addr) (c : Nat) (T : List (List Int)) (w : World) (hT : RdM w a T) :
    Calls Try.prog 20 #[.slice a T.length c] w (SomeBool w) := by
  by_cases h20 : 20 < T.length
  · clear hT
    go_enter Try.func20, Try.ntmps20
    go_wp2
    go_ret
    exact ⟨true, rfl, rfl⟩
  · have HT := hid hT; clear hT
    go_enter Try.func20, Try.ntmps20
    go_wp2
    go_loop [3] (fun i => ∃ k : Nat, k ≤ T.length ∧ i = .int .i64 k) (fun i => T.length - (intOf i).toNat)
    case atStart => exact ⟨0, Nat.zero_le _, rfl⟩
    case round =>
      obtain ⟨k, hk, rfl⟩ := hrel
      by_cases hlt : k < T.length
      · obtain ⟨b, off, r, c', rfl, hc, _⟩ := HT.out k hlt
        have hix : (0 : Int) ≤ (k : Int) ∧ (k : Int) < (T.length : Int) := by omega
        generalize T[k].length = L at *
        by_cases hL : 20 < L
        · go_wp2
          go_ret
          exact ⟨true, rfl, rfl⟩
        · go_wp2
          go_round
          case rel => exact ⟨k + 1, by omega, by go_num⟩
          case measure => simp [intOf]; omega
      · go_wp2
        go_ret
        exact ⟨false, rfl, rfl⟩

end Go.Proofs.Ytafpfcjemlonpaa
