/- Package tuschelaw05: the walks of numbers and groups on equal lists. -/
import Derived.Test.YtmbfpekcfeeifaaKGiven
import Derived.BigQuiet
namespace Go.Proofs.Ytmbfpekcfeeifaa
open Go.RowKit

theorem RdI.heap {w W : World} {a : Option Addr} {xs : List Int} (h : RdI w a xs) (hW : W.heap = w.heap) : RdI W a xs := fun k hk => by
  obtain ⟨b, off, e, c⟩ := h k hk
  exact ⟨b, off, e, by rw [World.cell?_of_block (w := w) (by rw [hW])]; exact c⟩
set_option maxHeartbeats 1000000 in
theorem numbers_eq (a b : Option Addr) (ca cb : Nat) (xs : List Int) (w : World) (hm : xs.length ≤ maxLen) (ha : RdI w a xs) (hb : RdI w b xs) :
    Calls Try.prog 24 #[.slice a xs.length ca, .slice b xs.length cb] w fun e w' => e = .returned (.bool true) ∧ ∃ n, w' = w.drewN n := by
  unfold maxLen at hm
  have HA := hid ha
  have HB := hid hb
  clear ha hb
  have hne : ((xs.length : Int) != (xs.length : Int)) = false := by simp
  go_enter Try.func24, Try.ntmps24
  go_wp2
  go_loopw [5] (fun i wr => ∃ k : Nat, k ≤ xs.length ∧ i = .int .i64 k ∧ ∃ n, wr = w.drewN n) (fun i _ => xs.length - (intOf i).toNat)
  case atStart => exact ⟨0, Nat.zero_le _, rfl, 0, rfl⟩
  case round =>
    obtain ⟨k, hk, rfl, q, rfl⟩ := hrel
    by_cases hlt : k < xs.length
    · obtain ⟨b1, o1, rfl, c1⟩ := HA.out k hlt
      obtain ⟨b2, o2, rfl, c2⟩ := HB.out k hlt
      generalize xs[k] = x at *
      have hx : (x != x) = false := by simp
      have h1 : (0 : Int) ≤ (k : Int) ∧ (k : Int) < (xs.length : Int) := by omega
      go_wp2
      go_quiet (fail)
      go_wp2
      go_roundw
      case rel => exact ⟨k + 1, by omega, by go_num, _, rfl⟩
      case measure => simp [intOf]; omega
    · go_wp2
      go_ret
      exact ⟨rfl, q, rfl⟩
theorem quiet_more {P : Program} {f : FuncId} {args : Array Value} {w : World} {q n : Nat} {v : Value}
    (h : Calls P f args (w.drewN (q + n)) fun e w' => e = .returned v ∧ ∃ m, w' = (w.drewN (q + n)).drewN m) : Calls P f args (w.drewN (q + n)) fun e w'' => e = .returned v ∧ ∃ m, w'' = w.drewN (q + m) :=
  h.mono fun _ _ ⟨he, m, hm⟩ => ⟨he, n + m, by rw [hm, World.drewN_drewN, Nat.add_assoc]⟩
set_option maxHeartbeats 4000000 in
set_option maxRecDepth 100000 in
theorem groups_eq (a b : Option Addr) (ca cb : Nat) (gs : List (List Int × List Int)) (w : World) (hm : gs.length ≤ maxLen) (hl : ∀ k (h : k < gs.length), gs[k].1.length ≤ maxLen ∧ gs[k].2.length ≤ maxLen) (ha : RdG w a gs) (hb : RdG w b gs) :
    Calls Try.prog 23 #[.slice a gs.length ca, .slice b gs.length cb] w fun e w' => e = .returned (.bool true) ∧ ∃ n, w' = w.drewN n := by
  unfold maxLen at hm
  have HA := hid ha
  have HB := hid hb
  have HL := hid hl
  clear ha hb hl
  have hne : ((gs.length : Int) != (gs.length : Int)) = false := by simp
  go_enter Try.func23, Try.ntmps23
  go_wp2
  go_loopw [5] (fun i wr => ∃ k : Nat, k ≤ gs.length ∧ i = .int .i64 k ∧ ∃ n, wr = w.drewN n) (fun i _ => gs.length - (intOf i).toNat)
  case atStart => exact ⟨0, Nat.zero_le _, rfl, 0, rfl⟩
  case round =>
    obtain ⟨k, hk, rfl, q, rfl⟩ := hrel
    by_cases hlt : k < gs.length
    · obtain ⟨b1, o1, r1, s1, r2, s2, rfl, c1, c2, i1, i2⟩ := HA.out k hlt
      obtain ⟨b2, o2, r3, s3, r4, s4, rfl, c3, c4, i3, i4⟩ := HB.out k hlt
      obtain ⟨l1, l2⟩ := HL.out k hlt
      have HN1 := hid (fun (W : World) (hW : W.heap = w.heap) => numbers_eq r1 r3 s1 s3 gs[k].1 W l1 (i1.heap hW) (i3.heap hW))
      have HN2 := hid (fun (W : World) (hW : W.heap = w.heap) => numbers_eq r2 r4 s2 s4 gs[k].2 W l2 (i2.heap hW) (i4.heap hW))
      clear i1 i2 i3 i4 l1 l2
      generalize gs[k].1.length = n1 at *
      generalize gs[k].2.length = n2 at *
      have h1 : (0 : Int) ≤ (k : Int) ∧ (k : Int) < (gs.length : Int) := by omega
      go_wp2
      go_quiet (first | (go_at_call_of 24 r1; exact quiet_more (HN1.out _ rfl)) | (go_at_call_of 24 r2; exact quiet_more (HN2.out _ rfl)))
      go_wp2
      go_roundw
      case rel => exact ⟨k + 1, by omega, by go_num, _, rfl⟩
      case measure => simp [intOf]; omega
    · go_wp2
      go_ret
      exact ⟨rfl, q, rfl⟩
end Go.Proofs.Ytmbfpekcfeeifaa
