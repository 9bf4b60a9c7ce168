/- Package mark: the walks of countUp and advance. -/
import Derived.Test.YthnklabdjaiplaaDoorProg
import Derived.Test.YthnklabdjaiplaaDoorMComb
import Derived.WalkKit
import Derived.BigRegion
import Derived.Deep.RegionHeld3
import Derived.Deep.OwnRows
namespace Go.Proofs.YthnklabdjaiplaaDoor
open Go.RowKit

/-- A list as cells. -/
def M.ic (l : List Nat) (i : Nat) : Value := .int .i64 (l.getD i 0 : Nat)
/-- Cells counted up from an index on. -/
def M.cu (f : Nat → Value) (off n x : Nat) (i : Nat) : Value := if off ≤ i ∧ i < off + n then .int .i64 ((x + (i - off) : Nat) : Int) else f i

theorem grownTrans {a b c : World} {r : Option Nat} (h : a.grownBy b r) (k : b.grownBy c r) : a.grownBy c r :=
  ⟨k.os.trans h.os, k.tape.trans h.tape, k.output.trans h.output, Nat.le_trans h.size k.size, fun i hi hr => (k.block i (Nat.lt_of_lt_of_le hi h.size) hr).trans (h.block i hi hr)⟩
theorem grownRefl (a : World) (r : Option Nat) : a.grownBy a r := ⟨rfl, rfl, rfl, Nat.le_refl _, fun _ _ _ => rfl⟩
theorem grownSet (w : World) (b o : Nat) (v : Value) : w.grownBy (w.setCell ⟨b, o, none⟩ v) (some b) :=
  ⟨rfl, rfl, rfl, by simp [World.setCell], fun k _ hk => Below.heap_setCell _ _ _ k (fun e => hk (by rw [e]))⟩
theorem grownDrew {a b : World} {r : Option Nat} (h : a.grownBy b r) : a.grownBy b.drew r := ⟨h.os, h.tape, h.output, h.size, h.block⟩

set_option maxHeartbeats 1000000 in
theorem countUp_any (c off n cap N x : Nat) (f : Nat → Value) (w : World) (hr : w.rowIs c 3 N f) (hN : off + n ≤ N) (hn : n ≤ 100) (hx : x ≤ 100) :
    Calls Tryd.prog 87 #[.slice (some ⟨c, off, none⟩) n cap, .int .i64 (x : Nat)] w fun e w' => e = .returned (.tuple #[]) ∧ w'.rowIs c 3 N (M.cu f off n x) ∧ w.grownBy w' (some c) := by
  have HR := hid hr
  clear hr
  go_enter Tryd.func87, Tryd.ntmps87
  go_wp2
  go_loopw [7] (fun i wr => ∃ k : Nat, k ≤ n ∧ i = .int .i64 k ∧ wr.rowIs c 3 N (M.cu f off k x) ∧ w.grownBy wr (some c)) (fun i _ => n - (intOf i).toNat)
  case atStart => exact ⟨0, Nat.zero_le _, rfl, HR.out.congr (fun i _ => by unfold M.cu; rw [if_neg (by omega)]), grownRefl _ _⟩
  case round =>
    obtain ⟨k, hk, rfl, hr1, hg⟩ := hrel
    have HR1 := hid hr1
    have HG := hid hg
    by_cases hlt : k < n
    · have t1 := hr1.cell (i := off + k) (by omega)
      have t2 := hr1.frozen (off + k)
      have HN := hid ((hr1.set (off + k) (.int .i64 ((x : Int) + (k : Int)))).congr (g := M.cu f off (k + 1) x) (fun i hi => by
        unfold M.cu
        by_cases e : i = off + k
        · rw [if_pos e, if_pos (by omega)]
          congr 1
          omega
        · rw [if_neg e]
          by_cases h2 : off ≤ i ∧ i < off + k
          · rw [if_pos h2, if_pos (by omega)]
          · rw [if_neg h2, if_neg (by omega)]))
      have HG2 := hid (grownTrans hg (grownSet wr c (off + k) (.int .i64 ((x : Int) + (k : Int)))))
      clear hr1 hg
      generalize M.cu f off k x (off + k) = v0 at *
      go_wp2
      go_roundw
      case rel => exact ⟨k + 1, by omega, by go_num, HN.out, HG2.out⟩
      case measure => simp [intOf]; omega
    · have hke : k = n := by omega
      subst hke
      go_wp2
      go_end0
      exact ⟨rfl, HR1.out, HG.out⟩

theorem M.ic_adv {l : List Nat} {i : Nat} (hi : i < l.length) (j : Nat) (hj : j < l.length) : M.cu (M.ic l) i (l.length - i) (l.getD i 0 + 1) j = M.ic (l.take i ++ M.up (l.getD i 0 + 1) (l.length - i)) j := by
  unfold M.cu M.ic
  by_cases h : i ≤ j
  · rw [if_pos (by omega)]
    congr 2
    rw [List.getD_eq_getElem?_getD (l := l.take i ++ _), List.getElem?_append_right (by rw [List.length_take]; omega), List.length_take, Nat.min_eq_left (by omega)]
    unfold M.up
    rw [List.getElem?_map, List.getElem?_range (by omega)]
    rfl
  · rw [if_neg (by omega)]
    congr 2
    rw [List.getD_eq_getElem?_getD, List.getD_eq_getElem?_getD, List.getElem?_append_left (by rw [List.length_take]; omega), List.getElem?_take_of_lt (by omega)]

set_option maxHeartbeats 2000000 in
theorem advance_any (c cap n : Nat) (l : List Nat) (w : World) (hr : w.rowIs c 3 l.length (M.ic l)) (hl : 1 ≤ l.length) (h10 : l.length ≤ 10) (hn : n ≤ 10) (hln : l.length ≤ n) (hb : ∀ i, i < l.length → l.getD i 0 ≤ 10) (hcap : l.length ≤ cap) (_ : cap ≤ 1000) :
    Calls Tryd.prog 88 #[.slice (some ⟨c, 0, none⟩) l.length cap, .int .i64 (n : Nat)] w fun e w' => e = .returned (.bool (M.adv n l).isSome) ∧ w'.rowIs c 3 l.length (M.ic ((M.adv n l).getD l)) ∧ w.grownBy w' (some c) := by
  have HR := hid hr
  clear hr
  go_enter Tryd.func88, Tryd.ntmps88
  go_wp2
  go_loop [5, 6] (fun g i => ∃ j : Nat, j ≤ l.length ∧ i = .int .i64 ((j : Int) - 1) ∧ g = .int .i64 ((n : Int) - 1 - ((l.length : Int) - (j : Int))) ∧ M.adv n l = M.bump n l j) (fun _ i => (intOf i + 1).toNat)
  case atStart => exact ⟨l.length, Nat.le_refl _, by go_num, by go_num, rfl⟩
  case round =>
    obtain ⟨j, hj, rfl, rfl, ha⟩ := hrel
    have HA := hid ha
    clear ha
    cases j with
    | zero =>
      have HE : Hid (M.adv n l = none) := hid (by rw [HA.out]; rfl)
      go_wp2
      go_ret
      rw [HE.out]
      exact ⟨rfl, HR.out, grownRefl _ _⟩
    | succ i =>
      have t1 : w.cell? ⟨c, i, none⟩ = some (.int .i64 (l.getD i 0 : Nat)) := HR.out.cell (show i < l.length by omega)
      have hbi := hb i (by omega)
      have e1 : (((i + 1 : Nat) : Int) - 1) = (i : Int) := by omega
      have e2 : ((n : Int) - 1 - ((l.length : Int) - ((i + 1 : Nat) : Int))) = (n : Int) - (l.length : Int) + (i : Int) := by omega
      rw [e1, e2]
      have hix : (0 : Int) ≤ (i : Int) ∧ (i : Int) < (l.length : Int) := by omega
      by_cases hlt : l.getD i 0 + l.length < n + i
      · have HE : Hid (M.adv n l = some (l.take i ++ M.up (l.getD i 0 + 1) (l.length - i))) := hid (by rw [HA.out, M.bump, if_pos hlt])
        have HCU := hid (fun (w' : World) (h : w'.rowIs c 3 l.length (M.ic l)) => countUp_any c i (l.length - i) (cap - i) l.length (l.getD i 0 + 1) (M.ic l) w' h (by omega) (by omega) (by omega))
        have HIC := hid (fun (w' : World) (h : w'.rowIs c 3 l.length (M.cu (M.ic l) i (l.length - i) (l.getD i 0 + 1))) => h.congr (M.ic_adv (show i < l.length by omega)))
        have hlt' : (l.getD i 0 : Int) < (n : Int) - (l.length : Int) + (i : Int) := by omega
        have e3 : ((l.getD i 0 + 1 : Nat) : Int) = (l.getD i 0 : Int) + 1 := by omega
        rw [e3] at HCU
        generalize l.getD i 0 = x at *
        clear hlt HA
        have hwx : IntKind.i64.wrap ((x : Int) + 1) = (x : Int) + 1 := IntWalk.i64_in _ ⟨by omega, by omega⟩
        have hc1 : ¬ cap - i = 0 := by omega
        have hc2 : ¬ cap = i := by omega
        have hc3 : ¬ cap ≤ i := by omega
        go_wp2_with fail
        go_region_with (first | (go_at_call 87; (with_reducible first | refine (HCU.out _ HR.out).mono ?_ | refine (HCU.out _ HR.out.drew).mono ?_); rintro e w5 ⟨rfl, hr5, hg5⟩; have HR5 := hid (HIC.out _ hr5); have HG5 := hid hg5; clear hr5 hg5))
        all_goals
          go_wp2
          go_ret
          rw [HE.out]
          exact ⟨rfl, HR5.out, (by first | exact HG5.out | exact grownTrans (grownDrew (grownRefl w _)) HG5.out)⟩
      · have HE : Hid (M.adv n l = M.bump n l i) := hid (by rw [HA.out, M.bump, if_neg hlt])
        have hlt' : ¬ (l.getD i 0 : Int) < (n : Int) - (l.length : Int) + (i : Int) := by omega
        generalize l.getD i 0 = x at *
        clear hlt HA
        go_wp2
        go_round
        case rel => exact ⟨i, by omega, by go_num, by go_num, HE.out⟩
        case measure => simp [intOf]
end Go.Proofs.YthnklabdjaiplaaDoor
