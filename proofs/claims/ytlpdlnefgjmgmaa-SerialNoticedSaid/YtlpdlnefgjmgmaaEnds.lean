/- The walk of ends, which goes through digits. -/
import Derived.Test.YtlpdlnefgjmgmaaBase
import Derived.Test.YtlpdlnefgjmgmaaProg
import Derived.BigQuiet
import Derived.Deep.QuietTactic
namespace Go.Proofs.Ytlpdlnefgjmgmaa
open Go.RowKit

set_option maxHeartbeats 400000 in
theorem ends_any (a ad : Option Addr) (c cd : Nat) (T : List (List Int)) (xs : List Int) (w : World) (hm : xs.length ≤ maxLen) (hT : RdM w a T) (hq : Sq T) (h0 : 0 < T.length) (hx : RdI w ad xs) (hd : Dg T.length xs) :
    Calls Try.prog 14 #[.slice a T.length c, .slice ad xs.length cd] w fun e w' => e = .returned (.int .i64 (P.after T xs : Nat)) ∧ w = w' := by
  unfold maxLen at hm
  go_enter Try.func14, Try.ntmps14
  go_wp2
  go_loop [5, 10] (fun t i => ∃ k : Nat, k ≤ xs.length ∧ i = .int .i64 k ∧ t = .int .i64 (P.after T (xs.take k) : Nat)) (fun _ i => xs.length - (intOf i).toNat)
  case atStart => exact ⟨0, Nat.zero_le _, rfl, rfl⟩
  case round =>
    obtain ⟨k, hk, rfl, rfl⟩ := hrel
    by_cases hlt : k < xs.length
    · obtain ⟨b, off, rfl, hc⟩ := hx k hlt
      have hs := P.after_take T xs k hlt
      have hb := hq.after_lt h0 _ (hd.take k)
      have hdk := hd k hlt
      generalize P.after T (xs.take k) = s at *
      generalize xs[k] = x at *
      obtain ⟨d, rfl⟩ := Int.eq_ofNat_of_zero_le hdk.1
      have hd' : d < T.length := by omega
      rw [Int.toNat_natCast] at hs
      obtain ⟨b1, off1, b', off', c', rfl, hrow, hcell⟩ := hT.row hq hb
      have hc2 := hcell d hd'
      clear hcell
      have HS := hid hs; clear hs
      have HT := hid hT; clear hT hdk
      go_wp2
      go_round
      case rel => exact ⟨k + 1, by omega, by go_num, by rw [HS.out]⟩
      case measure => simp [intOf]; omega
    · have hk' : k = xs.length := by omega
      subst hk'
      rw [List.take_length]
      go_wp2
      go_ret
      exact ⟨rfl, rfl⟩

end Go.Proofs.Ytlpdlnefgjmgmaa
