/- Package tuschelaw07: the walk of given: steps for the reference. -/
import Derived.Test.YthlcnklbeolhpaaHLgt
import Derived.Test.YthlcnklbeolhpaaHRow
namespace Go.Proofs.Ythlcnklbeolhpaa
open Go.RowKit

/-- The first k steps, in a slice of one's own. -/
def H.GV (w wr : World) (L : List Stp) (k : Nat) (v : Value) : Prop := ∃ cs : List Value, wr.ownsRow w.heap.size 106 2 v k cs ∧
  ∀ j (h : j < L.length), j < k → ∃ r c, cs[j * 2]? = some (.int .i64 L[j].1) ∧ cs[j * 2 + 1]? = some (.slice r L[j].2.length c) ∧ RdI w r L[j].2
theorem H.GV.start (w wr : World) (L : List Stp) : H.GV w wr L 0 (.slice none 0 0) := ⟨[], World.ownsRow_nil _ _ _ _, fun _ _ h => absurd h (Nat.not_lt_zero _)⟩
theorem H.gv_more {w w2 : World} {L : List Stp} {k : Nat} {v : Value} {cs : List Value} {r : Option Addr} {c : Nat} (hk : k < L.length) (hl : cs.length = k * 2)
    (hall : ∀ j (h : j < L.length), j < k → ∃ r c, cs[j * 2]? = some (.int .i64 L[j].1) ∧ cs[j * 2 + 1]? = some (.slice r L[j].2.length c) ∧ RdI w r L[j].2) (hr : RdI w r L[k].2)
    (ho : w2.ownsRow w.heap.size 106 2 v (k + 1) (cs ++ [.int .i64 L[k].1, .slice r L[k].2.length c])) : H.GV w w2 L (k + 1) v := by
  refine ⟨_, ho, fun j h hj => ?_⟩
  by_cases e : j = k
  · subst e
    refine ⟨r, c, ?_, ?_, hr⟩
    · rw [List.getElem?_append_right (by omega), hl, Nat.sub_self]; rfl
    · rw [List.getElem?_append_right (by omega), hl, Nat.add_sub_cancel_left]; rfl
  · obtain ⟨r', c', h1, h2, h3⟩ := hall j h (by omega)
    refine ⟨r', c', ?_, ?_, h3⟩
    · rw [List.getElem?_append_left (by omega)]; exact h1
    · rw [List.getElem?_append_left (by omega)]; exact h2
theorem H.GV.rd {w wr : World} {L : List Stp} {v : Value} (h : H.GV w wr L L.length v) (hb : Below w.heap.size w wr) : ∃ a c, v = .slice a L.length c ∧ RdS wr a L := by
  obtain ⟨cs, ho, hall⟩ := h
  rcases ho.2 with ⟨rfl, h0⟩ | ⟨g, cap, cur, rfl, _⟩
  · exact ⟨none, 0, by rw [h0], fun k hk => by omega⟩
  · refine ⟨_, cap, rfl, fun k hk => ?_⟩
    obtain ⟨r, c, h1, h2, h3⟩ := hall k hk hk
    refine ⟨g, 0, r, c, rfl, ?_, ?_, h3.stays hb⟩
    · rw [Nat.zero_add, World.ownsRow.cellAt ho (k * 2) (by omega)]; exact h1
    · rw [Nat.zero_add, World.ownsRow.cellAt ho (k * 2 + 1) (by omega)]; exact h2

set_option maxHeartbeats 1000000 in
set_option maxRecDepth 100000 in
theorem given_any (a : Option Addr) (c : Nat) (L : List Stp) (w : World) (hl : L.length ≤ 300) (hx : RdS w a L) :
    Calls Try.prog 30 #[.slice a L.length c] w fun e w' => ∃ a2 c2, e = .returned (.slice a2 L.length c2) ∧ RdS w' a2 L ∧ Below w.heap.size w w' := by
  obtain ⟨i0, hi, hz0, hz1, hz2⟩ := info_parts (show (Try.prog.info? 106).map (fun i => (i.zero, i.size, i.bytes)) = some (some (.agg #[.int .i64 0, .slice none 0 0]), 2, 32) by kernel_rfl)
  have HX := hid hx
  clear hx
  go_enter Try.func30, Try.ntmps30
  go_wp2
  go_loopw [3, 4] (fun v i wr => ∃ k : Nat, k ≤ L.length ∧ i = .int .i64 k ∧ H.GV w wr L k v ∧ Below w.heap.size w wr) (fun _ i _ => L.length - (intOf i).toNat)
  case atStart => exact ⟨0, Nat.zero_le _, rfl, H.GV.start _ _ _, Below.refl _ _⟩
  case round =>
    obtain ⟨k, hk, rfl, hG, hb⟩ := hrel
    have HG := hid hG
    have HB := hid hb
    by_cases hlt : k < L.length
    · obtain ⟨cs, ho, hall⟩ := hG
      obtain ⟨b, off, r, rc, rfl, q1w, q2w, hrw⟩ := HX.out k hlt
      have q1 := cell_stays hb (Nat.le_refl _) q1w
      have q2 := cell_stays hb (Nat.le_refl _) q2w
      have HO := hid ho
      have hcl := ho.1
      have HMO := hid (fun v w2 (h : World.ownsRow w2 w.heap.size 106 2 v (k + 1) (cs ++ [.int .i64 L[k].1, .slice r L[k].2.length rc])) => H.gv_more hlt hcl hall hrw h)
      have hix : (0 : Int) ≤ (k : Int) ∧ (k : Int) < (L.length : Int) := by omega
      have HM1 : Hid (k + 1 ≤ maxLen) := hid (by unfold maxLen; omega)
      have HM2 : Hid ((k + 1) * 32 ≤ 140737488355328) := hid (by omega)
      clear hb ho hall q1w q2w hrw hcl
      generalize L[k].1 = x at *
      generalize L[k].2.length = y at *
      go_wp2_with (at_builtin; refine wpList_append_own _ rfl _ _ 49 rfl w.heap.size 106 i0 (.agg #[.int .i64 0, .slice none 0 0]) 2 32 Try.underlying49 hi hz0 hz1 hz2 rfl (by decide) _ _ _ rfl (World.ownsRow.alloc HO.out _) ⟨wr.heap.size, 0, none⟩ 1 1 [.int .i64 x, .slice r y rc] rfl rfl ?c1 ?c2 HM1.out HM2.out ?c5 ?_)
      case c1 =>
        intro i u hi2
        match i, hi2 with
        | 0, hi2 => simp at hi2; subst hi2; rw [Addr.add_lit, World.cell?_alloc_at _ _ _ _ rfl]; rfl
        | 1, hi2 => simp at hi2; subst hi2; rw [Addr.add_lit, World.cell?_alloc_at _ _ _ _ rfl]; rfl
      case c2 => intro u hu; simp at hu; rcases hu with rfl | rfl <;> rfl
      case c5 => exact Nat.le_trans HB.out.size (by simp)
      intro v' w9 hown hgrow _
      have HG9 := hid (HMO.out _ _ hown)
      have HB9 := hid (Below.grown (HB.out.alloc HB.out.size (.cells #[.int .i64 x, .slice r y rc] 106)) hgrow (by simp; have := HB.out.size; omega) (fun q hq => (World.ownsRow.lt HO.out q hq).1))
      clear hown hgrow HMO
      go_wp2
      go_roundw
      case rel => exact ⟨k + 1, by omega, by go_num, HG9.out, HB9.out⟩
      case measure => simp [intOf]; omega
    · obtain rfl : L.length = k := by omega
      obtain ⟨a9, c9, rfl, hrd⟩ := HG.out.rd HB.out
      have HRD := hid hrd
      clear hG hb hrd
      go_wp2
      go_ret
      exact ⟨a9, c9, rfl, HRD.out, HB.out⟩
end Go.Proofs.Ythlcnklbeolhpaa
