/- Package tuschelaw09: the walks of numbers and lists on equal lists. -/
import Derived.Test.YthnklabdjaiplaaDoorMChk
import Derived.BigQuiet
namespace Go.Proofs.YthnklabdjaiplaaDoor
open Go.RowKit

theorem RdI.heap {w W : World} {a : Option Addr} {xs : List Int} (h : RdI w a xs) (hW : W.heap = w.heap) : RdI W a xs := fun k hk => by
  obtain ⟨b, off, e, c⟩ := h k hk
  exact ⟨b, off, e, by rw [World.cell?_of_block (w := w) (by rw [hW])]; exact c⟩
set_option maxHeartbeats 1000000 in
theorem numbers_eq (a b : Option Addr) (ca cb : Nat) (xs : List Int) (w : World) (hm : xs.length ≤ maxLen) (ha : RdI w a xs) (hb : RdI w b xs) :
    Calls Tryd.prog 24 #[.slice a xs.length ca, .slice b xs.length cb] w fun e w' => e = .returned (.bool true) ∧ ∃ n, w' = w.drewN n := by
  unfold maxLen at hm
  have HA := hid ha
  have HB := hid hb
  clear ha hb
  have hne : ((xs.length : Int) != (xs.length : Int)) = false := by simp
  go_enter Tryd.func24, Tryd.ntmps24
  go_wp2
  go_loopw [5] (fun i wr => ∃ k : Nat, k ≤ xs.length ∧ i = .int .i64 k ∧ ∃ n, wr = w.drewN n) (fun i _ => xs.length - (intOf i).toNat)
  case atStart => exact ⟨0, Nat.zero_le _, rfl, 0, rfl⟩
  case round =>
    obtain ⟨k, hk, rfl, q, rfl⟩ := hrel
    by_cases hlt : k < xs.length
    · obtain ⟨b1, o1, rfl, c1⟩ := HA.out k hlt
      obtain ⟨b2, o2, rfl, c2⟩ := HB.out k hlt
      generalize xs[k] = x at *
      have hx : (x != x) = false := by simp
      have h1 : (0 : Int) ≤ (k : Int) ∧ (k : Int) < (xs.length : Int) := by omega
      go_wp2
      go_quiet (fail)
      go_wp2
      go_roundw
      case rel => exact ⟨k + 1, by omega, by go_num, _, rfl⟩
      case measure => simp [intOf]; omega
    · go_wp2
      go_ret
      exact ⟨rfl, q, rfl⟩
theorem quiet_more {P : Program} {f : FuncId} {args : Array Value} {w : World} {q n : Nat} {v : Value}
    (h : Calls P f args (w.drewN (q + n)) fun e w' => e = .returned v ∧ ∃ m, w' = (w.drewN (q + n)).drewN m) : Calls P f args (w.drewN (q + n)) fun e w'' => e = .returned v ∧ ∃ m, w'' = w.drewN (q + m) :=
  h.mono fun _ _ ⟨he, m, hm⟩ => ⟨he, n + m, by rw [hm, World.drewN_drewN, Nat.add_assoc]⟩

set_option maxHeartbeats 1000000 in
theorem lists_eq (a b : Option Addr) (ca cb : Nat) (T : List (List Int)) (w : World) (hm : T.length ≤ maxLen) (hl : ∀ k, k < T.length → (T.getD k []).length ≤ maxLen) (ha : RdM w a T) (hb : RdM w b T) :
    Calls Tryd.prog 37 #[.slice a T.length ca, .slice b T.length cb] w fun e w' => e = .returned (.bool true) ∧ ∃ n, w' = w.drewN n := by
  unfold maxLen at hm
  have HA := hid ha
  have HB := hid hb
  have HL := hid hl
  clear ha hb hl
  have hne : ((T.length : Int) != (T.length : Int)) = false := by simp
  go_enter Tryd.func37, Tryd.ntmps37
  go_wp2
  go_loopw [5] (fun i wr => ∃ k : Nat, k ≤ T.length ∧ i = .int .i64 k ∧ ∃ n, wr = w.drewN n) (fun i _ => T.length - (intOf i).toNat)
  case atStart => exact ⟨0, Nat.zero_le _, rfl, 0, rfl⟩
  case round =>
    obtain ⟨k, hk, rfl, q, rfl⟩ := hrel
    by_cases hlt : k < T.length
    · obtain ⟨b1, o1, r1, s1, rfl, c1, i1⟩ := M.row HA.out hlt
      obtain ⟨b2, o2, r2, s2, rfl, c2, i2⟩ := M.row HB.out hlt
      have HN1 := hid (fun (W : World) (hW : W.heap = w.heap) => numbers_eq r1 r2 s1 s2 (T.getD k []) W (HL.out k hlt) (i1.heap hW) (i2.heap hW))
      clear i1 i2
      generalize (T.getD k []).length = n1 at *
      have h1 : (0 : Int) ≤ (k : Int) ∧ (k : Int) < (T.length : Int) := by omega
      go_wp2
      go_quiet (first | (go_at_call 24; exact quiet_more (HN1.out _ rfl)))
      go_wp2
      go_roundw
      case rel => exact ⟨k + 1, by omega, by go_num, _, rfl⟩
      case measure => simp [intOf]; omega
    · go_wp2
      go_ret
      exact ⟨rfl, q, rfl⟩

set_option maxHeartbeats 400000 in
theorem list_any (a : Option Addr) (n c : Nat) (w : World) : Calls Tryd.prog 42 #[.slice a n c] w fun e w' => e = .returned (.slice a n c) ∧ w = w' := by
  go_enter Tryd.func42, Tryd.ntmps42
  go_wp2
  go_ret
  exact ⟨rfl, rfl⟩
end Go.Proofs.YthnklabdjaiplaaDoor
