/- Package repeat: periodsOf: what its function value yields. -/
import Derived.Test.YtiodcgdjphmffaaBPer
import Derived.RangeFuncBox
import Derived.RangeFuncLeaves
import Derived.RangeFuncFrom
import Derived.Shelf.Abstract
import Derived.OwnWalkIn
import Derived.TacticsInMore
import Derived.LoopNIn
import Derived.LoopIn
import Derived.Maps.AppendAt
namespace Go.Proofs.Ytiodcgdjphmffaa
open Go.RowKit Go.Shelf
attribute [local go_sem] Oper.semAt_some

/-- A number that can be a period. -/
abbrev B.Pos := { x : Int // 1 ≤ x ∧ x ≤ 1000 }
/-- One cell is kept. -/
def B.Kc (b : Nat) (A C : World) : Prop := C.cell? ⟨b, 0, none⟩ = A.cell? ⟨b, 0, none⟩
theorem B.Kc_t {b : Nat} {A C D : World} (h : B.Kc b A C) (k : B.Kc b C D) : B.Kc b A D := Eq.trans k h
theorem B.Kc_b {b : Nat} {w : World} (hb : b < w.heap.size) (W : World) (l : Nat) (o o' : Obj) (hl : w.heap.size ≤ l) (_ : W.heap[l]? = some o) (_ : o.isCells = false) (_ : o.isWalk = false) : B.Kc b W (W.putObj l o') :=
  World.cell?_of_block (World.putObj_heap_other (by show b ≠ l; omega))
theorem B.Kc_below {b : Nat} {A C : World} {n : Nat} (h : Below n A C) (hb : b < n) : B.Kc b A C := h.cell (p := ⟨b, 0, none⟩) hb
theorem B.Kc_set {b g : Nat} (A : World) (o : Nat) (v : Value) (h : b ≠ g) : B.Kc b A (A.setCell ⟨g, o, none⟩ v) := World.cell?_of_block (Below.heap_setCell _ _ _ _ h)

set_option maxRecDepth 100000 in
set_option maxHeartbeats 1000000 in
theorem periodsOf1_in (n : Nat) (hn : 1 ≤ n) (l Bn : Nat) (s : ByteArray) (hm : s.size ≤ 1000) (J Jx : List B.Pos → World → Prop)
    (hY : ∀ pre x W, J pre W → pre.length < s.size → YieldAt Fence.wide (n - 1) Try.prog l #[.int .i64 x.1] W fun e W' =>
      (e = .returned (.bool true) ∧ J (pre ++ [x]) W' ∧ B.Kc Bn W W') ∨ (e = .returned (.bool false) ∧ Jx (pre ++ [x]) W'))
    (W : World) (hBn : W.cell? ⟨Bn, 0, none⟩ = some (.string s)) (h0 : J [] W) :
    CallsIn Fence.wide n Try.prog 65 #[.func (.yield l) #[] #[], .pointer (some ⟨Bn, 0, none⟩)] W fun e W' => (∃ v, e = .returned v) ∧
      ((∃ ys : List B.Pos, ys.map (·.1) = B.sel (B.per s.data.toList) s.size ∧ J ys W') ∨ (∃ pre : List B.Pos, (∃ k, k < s.size ∧ B.per s.data.toList (k + 1) = true ∧ pre.map (·.1) = B.sel (B.per s.data.toList) (k + 1)) ∧ Jx pre W')) := by
  have HH := hid (fun k => B.sel_hit (f := B.per s.data.toList) (k := k))
  have HN := hid (fun k => B.sel_miss (f := B.per s.data.toList) (k := k))
  have HL := hid (B.sel_len (B.per s.data.toList))
  have HP := hid (fun k w (h : k ≤ s.size) => isPeriod_any s k w h)
  refine callsIn_of_wp Try.func65 rfl trivial ?_ rfl
  simp only [Try.ntmps65, List.size_toArray, List.length_cons, List.length_nil, Nat.reduceAdd, Nat.reduceSub, Array.replicate_succ, Array.replicate_zero, List.push_toArray, List.append_toArray, List.nil_append, List.cons_append]
  gi_wp2
  gi_loopw [3] (fun p wr => ∃ k : Nat, k ≤ s.size ∧ p = .int .i64 ((k : Int) + 1) ∧ (∃ pre : List B.Pos, pre.map (·.1) = B.sel (B.per s.data.toList) k ∧ J pre wr) ∧ wr.cell? ⟨Bn, 0, none⟩ = some (.string s)) (fun p wr => s.size + 1 - (intOf p).toNat)
  case atStart => exact ⟨0, Nat.zero_le _, rfl, ⟨[], rfl, h0⟩, hBn⟩
  case round =>
    obtain ⟨k, hk, rfl, ⟨pre, hpre, hJs⟩, hc⟩ := hrel
    have HPR := hid hpre
    have HJ := hid hJs
    have hlp : pre.length = (B.sel (B.per s.data.toList) k).length := by rw [← hpre, List.length_map]
    clear hJs hpre
    by_cases hlt2 : k < s.size
    · have hP1 := hid (fun w => HP.out (k + 1) w (by omega))
      have hwk : ((k + 1 : Nat) : Int) = (k : Int) + 1 := by omega
      rw [hwk] at hP1
      have HH1 := hid (HH.out k)
      have HN1 := hid (HN.out k)
      have hlen := HL.out k
      cases hp : B.per s.data.toList (k + 1) with
      | true =>
        have HE := hid (HH1.out hp)
        rw [hwk] at HE
        rw [hp] at hP1
        have HPP := hid hp
        obtain ⟨fn, tmps, assign, body, hy, hR⟩ := hY pre ⟨(k : Int) + 1, by omega, by omega⟩ wr HJ.out (by omega)
        have HPX : Hid ((pre ++ [(⟨(k : Int) + 1, by omega, by omega⟩ : B.Pos)]).map (·.1) = B.sel (B.per s.data.toList) (k + 1)) := hid (by rw [HE.out, List.map_append, HPR.out]; rfl)
        generalize pre ++ [(⟨(k : Int) + 1, by omega, by omega⟩ : B.Pos)] = pre2 at *
        clear HPR hlp
        clear hp hwk hlen HH1 HN1
        gi_wp2_with (refine ⟨trivial, ?_⟩; gi_at_call 66; refine (callsIn_wide.2 (hP1.out _)).mono ?_; rintro e w' ⟨rfl, rfl⟩)
        refine hR.mono ?_
        rintro e W3 (⟨rfl, hJ3, hk3⟩ | ⟨rfl, hJx3⟩)
        · have hc3 : W3.cell? ⟨Bn, 0, none⟩ = some (.string s) := Eq.trans hk3 hc
          have HJ3 := hid hJ3
          clear hJ3 hk3
          gi_wp2
          go_roundw
          case rel => exact ⟨k + 1, by omega, by go_num, ⟨pre2, HPX.out, HJ3.out⟩, hc3⟩
          case measure => simp [intOf]; omega
        · have HJ3 := hid hJx3
          clear hJx3
          gi_wp2
          refine bodyPost_ret (results_none rfl _ _ _) rfl ?_
          exact ⟨⟨_, rfl⟩, .inr ⟨pre2, ⟨k, hlt2, HPP.out, HPX.out⟩, HJ3.out⟩⟩
      | false =>
        have HE := hid (HN1.out hp)
        rw [hp] at hP1
        clear hp hwk hlen HH1 HN1
        gi_wp2_with (refine ⟨trivial, ?_⟩; gi_at_call 66; refine (callsIn_wide.2 (hP1.out _)).mono ?_; rintro e w' ⟨rfl, rfl⟩)
        refine ⟨fun _ h => (by cases h), ?_⟩
        gi_wp2
        go_roundw
        case rel => exact ⟨k + 1, by omega, by go_num, ⟨pre, by rw [HE.out]; exact HPR.out, HJ.out⟩, hc⟩
        case measure => simp [intOf]; omega
    · have hke : k = s.size := by omega
      subst hke
      gi_wp2
      go_end0
      exact ⟨⟨_, rfl⟩, .inl ⟨pre, HPR.out, HJ.out⟩⟩

set_option maxHeartbeats 1000000 in
theorem periodsOf_in (n : Nat) (s : ByteArray) (w : World) :
    CallsIn Fence.wide n Try.prog 47 #[.string s] w fun e w' => e = .returned (.func (.func 65) #[] #[.pointer (some ⟨w.heap.size, 0, none⟩)]) ∧ w' = w.alloc (.cells #[.string s] 9) := by
  refine callsIn_of_wp Try.func47 rfl trivial ?_ rfl
  simp only [Try.ntmps47, List.size_toArray, List.length_cons, List.length_nil, Nat.reduceAdd, Nat.reduceSub, Array.replicate_succ, Array.replicate_zero, List.push_toArray, List.append_toArray, List.nil_append, List.cons_append]
  gi_wp2
  go_ret
  exact ⟨rfl, rfl⟩

theorem periodsOf_stops (n : Nat) (hn : 1 ≤ n) (Bn : Nat) (s : ByteArray) (hm : s.size ≤ 1000) (w : World) (hBn : Bn < w.heap.size) (hc : w.cell? ⟨Bn, 0, none⟩ = some (.string s)) :
    SeqStopsK Fence.wide n Try.prog 65 #[.pointer (some ⟨Bn, 0, none⟩)] (fun x : B.Pos => #[Value.int .i64 x.1]) (B.Kc Bn) (fun ys => ys.map (·.1) = B.sel (B.per s.data.toList) s.size) (fun pre => ∃ k, k < s.size ∧ B.per s.data.toList (k + 1) = true ∧ pre.map (·.1) = B.sel (B.per s.data.toList) (k + 1)) s.size w := fun l J Jx W hW _ _ hY h0 =>
  periodsOf1_in n hn l Bn s hm J Jx hY W ((hW.cell (p := ⟨Bn, 0, none⟩) hBn).trans hc) h0
end Go.Proofs.Ytiodcgdjphmffaa
