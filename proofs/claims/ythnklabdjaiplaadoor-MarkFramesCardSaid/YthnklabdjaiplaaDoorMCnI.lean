/- Package mark: the walk of slices.Concat at two slices of numbers. -/
import Derived.Test.YthnklabdjaiplaaDoorMShf
import Derived.LoopTactic
import Derived.Shelf.Spec.SlicesGrow
namespace Go.Proofs.YthnklabdjaiplaaDoor
open Go.Shelf Go.RowKit

shelf_lay_g Lays8.n4 Nm8 4 at Tryd 92 as Tryd.growI

theorem RdI.stays2 {w w' : World} {a : Option Addr} {xs : List Int} (h : RdI w a xs) (hb : Below w.heap.size w w') : RdI w' a xs := fun k hk => by
  obtain ⟨b, off, e, q⟩ := h k hk
  exact ⟨b, off, e, cell_stays hb (Nat.le_refl _) q⟩
theorem RdI.cellsI {w : World} {b off : Nat} {xs : List Int} (h : RdI w (some ⟨b, off, none⟩) xs) : ∀ (j : Nat) (u : Value), (xs.map (Value.int .i64))[j]? = some u → w.cell? (Addr.add ⟨b, off, none⟩ j) = some u := by
  intro j u hj
  have hjn : j < xs.length := by
    have := (List.getElem?_eq_some_iff.1 hj).1
    simpa using this
  obtain ⟨b', off', he, hc⟩ := h j hjn
  simp only [Option.some.injEq, Addr.mk.injEq, and_true] at he
  obtain ⟨rfl, rfl⟩ := he
  rw [Addr.add_lit, hc]
  simpa [hjn] using hj
theorem heap_oneI (w : World) (o : Obj) : (w.alloc o).heap[w.heap.size]? = some o := by show (w.heap.push _)[w.heap.size]? = _; exact Array.getElem?_push_size
theorem growNilI (n : Nat) (hn : n ≤ 1000) (w : World) :
    Calls Tryd.prog 92 #[.slice none 0 0, .int .i64 n] w fun e w' => ∃ v, e = .returned v ∧ w'.ownsRow w.heap.size 3 1 v 0 [] ∧ Below w.heap.size w w' := by
  by_cases h0 : n = 0
  · subst h0
    have h := Any8.slices_Grow_room Tryd.growI none 0 0 0 w (by omega) (by omega) (by omega) (by omega)
    change Calls Tryd.prog 92 _ _ _ at h
    refine h.mono ?_
    rintro e w' ⟨rfl, rfl⟩
    exact ⟨_, rfl, World.ownsRow_nil _ _ _ _, Below.refl _ _⟩
  · obtain ⟨i0, hi, hz0, hz1, hz2⟩ := info_parts (show (Tryd.prog.info? 3).map (fun i => (i.zero, i.size, i.bytes)) = some (some (.int .i64 0), 1, 8) by kernel_rfl)
    have h := Any8.slices_Grow_grow Tryd.growI i0 (.int .i64 0) hi hz0 (by rw [hz1]; decide) none 0 0 n [] w (by omega) (by omega) (by rw [hz2]; omega) (by omega) (by simp) (fun _ => rfl) (fun a h => by cases h)
    change Calls Tryd.prog 92 _ _ _ at h
    refine h.mono ?_
    rintro e w' ⟨rfl, rfl⟩
    have hG1 := grownCap_ge w (0 + n) 0 3
    have hG2 := grownCap_le_maxLen w (0 + n) 0 3 (by unfold maxLen; omega)
    refine ⟨_, rfl, ⟨by simp, Or.inr ⟨w.heap.size, _, #[] ++ Builtin.zeroCells (Value.int .i64 0).cells (0 + n - 0) ++ Builtin.zeroCells (Value.int .i64 0).cells (grownCap w (0 + n) 0 3 - (0 + n)), rfl, Nat.le_refl _, ?_, Nat.zero_le _, hG2, ?_, by simp⟩⟩, (Below.refl _ _).drew.alloc (Nat.le_refl _) _⟩
    · exact heap_oneI w.drew _
    · have e1 : (Value.int .i64 0).cells.size = 1 := rfl
      have e2 : ∀ k, (Builtin.zeroCells (Value.int .i64 0).cells k).size = k * 1 := fun k => by simp [Builtin.zeroCells, e1]
      show Array.size _ = grownCap w (0 + n) 0 3 * 1
      rw [Array.size_append, Array.size_append, e2, e2]
      have e0 : (#[] : Array Value).size = 0 := rfl
      rw [e0]
      omega

set_option maxHeartbeats 4000000 in
set_option maxRecDepth 100000 in
theorem concatI_any (p o b1 o1 c1 b2 o2 c2 cp : Nat) (xs ys : List Int) (w : World) (hx12 : xs.length ≤ 40) (hy12 : ys.length ≤ 40)
    (hp1 : w.cell? ⟨p, o, none⟩ = some (.slice (some ⟨b1, o1, none⟩) xs.length c1)) (hp2 : w.cell? ⟨p, o + 1, none⟩ = some (.slice (some ⟨b2, o2, none⟩) ys.length c2))
    (hx : RdI w (some ⟨b1, o1, none⟩) xs) (hy : RdI w (some ⟨b2, o2, none⟩) ys) :
    Calls Tryd.prog 82 #[.slice (some ⟨p, o, none⟩) 2 cp] w fun e w' => ∃ v, e = .returned v ∧ RowI w' w.heap.size v (xs ++ ys) ∧ Below w.heap.size w w' := by
  have HP1 := hid hp1
  have HP2 := hid hp2
  have HX := hid hx
  have HY := hid hy
  have hlen : (xs ++ ys).length = xs.length + ys.length := List.length_append
  clear hp1 hp2 hx hy
  obtain ⟨i0, hi, hz0, hz1, hz2⟩ := info_parts (show (Tryd.prog.info? 3).map (fun i => (i.zero, i.size, i.bytes)) = some (some (.int .i64 0), 1, 8) by kernel_rfl)
  go_enter Tryd.func82, Tryd.ntmps82
  go_wp2
  go_loop [3, 11] (fun s i => i = .int .i64 0 ∧ s = .int .i64 0 ∨ i = .int .i64 1 ∧ s = .int .i64 (xs.length : Nat) ∨ i = .int .i64 2 ∧ s = .int .i64 ((xs.length + ys.length : Nat) : Int)) (fun _ i => 2 - (intOf i).toNat)
  case atStart => exact Or.inl ⟨rfl, rfl⟩
  case round =>
    rcases hrel with ⟨rfl, rfl⟩ | ⟨rfl, rfl⟩ | ⟨rfl, rfl⟩
    · have hp1 := HP1.out
      have hn : ¬ ((xs.length : Int) < 0) := by omega
      go_wp2
      go_round
      case rel => exact Or.inr (Or.inl ⟨rfl, by go_num⟩)
      case measure => simp [intOf]
    · have hp2 := HP2.out
      have hn : ¬ ((xs.length : Int) + (ys.length : Int) < 0) := by omega
      go_wp2
      go_round
      case rel => exact Or.inr (Or.inr ⟨rfl, by go_num⟩)
      case measure => simp [intOf]
    · have HG := hid (growNilI (xs.length + ys.length) (by omega) w)
      go_wp2_with fail
      refine HG.out.mono ?_
      rintro e w1 ⟨v0, rfl, hown, hb⟩
      have HO := hid hown
      have HB := hid hb
      clear hown hb HG
      go_wp2
      go_loopw [6, 27] (fun v i wr => Below w.heap.size w wr ∧ (i = .int .i64 0 ∧ wr.ownsRow w.heap.size 3 1 v 0 [] ∨ i = .int .i64 1 ∧ wr.ownsRow w.heap.size 3 1 v xs.length (xs.map (Value.int .i64)) ∨ i = .int .i64 2 ∧ wr.ownsRow w.heap.size 3 1 v (xs.length + ys.length) (xs.map (Value.int .i64) ++ ys.map (Value.int .i64)))) (fun _ i _ => 2 - (intOf i).toNat)
      case atStart => exact ⟨HB.out, Or.inl ⟨rfl, HO.out⟩⟩
      case round =>
        clear HO HB
        obtain ⟨hb, hrel⟩ := hrel
        have HB := hid hb
        rcases hrel with ⟨rfl, hown⟩ | ⟨rfl, hown⟩ | ⟨rfl, hown⟩
        · have HO := hid hown
          have hp1 := cell_stays hb (Nat.le_refl _) HP1.out
          have HXR := hid (HX.out.stays2 hb)
          clear hown hb
          go_wp2_with (at_builtin; refine wpList_append_own _ rfl _ _ 25 rfl w.heap.size 3 i0 (.int .i64 0) 1 8 Tryd.underlying25 hi hz0 hz1 hz2 rfl (by decide) _ _ _ rfl HO.out ⟨b1, o1, none⟩ xs.length c1 (xs.map (Value.int .i64)) rfl (by simp) ?c1 (fun u hu => by obtain ⟨x, _, rfl⟩ := List.mem_map.1 hu; rfl) ?c3 ?c4 ?c5 ?_)
          case c1 => exact HXR.out.cellsI
          case c3 => unfold maxLen; omega
          case c4 => omega
          case c5 => exact HB.out.size
          intro v' w3 hown' hgrow _
          have HB4 := hid (HB.out.grown hgrow (by first | exact HB.out.size | (have := HB.out.size; omega)) (fun q hq => (World.ownsRow.lt HO.out q hq).1))
          have HO3 := hid hown'
          clear hown' hgrow
          go_wp2
          go_roundw
          case rel => exact ⟨HB4.out, Or.inr (Or.inl ⟨rfl, by simpa using HO3.out⟩)⟩
          case measure => simp [intOf]
        · have HO := hid hown
          have hp2 := cell_stays hb (Nat.le_refl _) HP2.out
          have HYR := hid (HY.out.stays2 hb)
          clear hown hb
          go_wp2_with (at_builtin; refine wpList_append_own _ rfl _ _ 25 rfl w.heap.size 3 i0 (.int .i64 0) 1 8 Tryd.underlying25 hi hz0 hz1 hz2 rfl (by decide) _ _ _ rfl HO.out ⟨b2, o2, none⟩ ys.length c2 (ys.map (Value.int .i64)) rfl (by simp) ?c1 (fun u hu => by obtain ⟨x, _, rfl⟩ := List.mem_map.1 hu; rfl) ?c3 ?c4 ?c5 ?_)
          case c1 => exact HYR.out.cellsI
          case c3 => unfold maxLen; omega
          case c4 => omega
          case c5 => exact HB.out.size
          intro v' w3 hown' hgrow _
          have HB4 := hid (HB.out.grown hgrow (by first | exact HB.out.size | (have := HB.out.size; omega)) (fun q hq => (World.ownsRow.lt HO.out q hq).1))
          have HO3 := hid hown'
          clear hown' hgrow
          go_wp2
          go_roundw
          case rel => exact ⟨HB4.out, Or.inr (Or.inr ⟨rfl, by simpa using HO3.out⟩)⟩
          case measure => simp [intOf]
        · rw [← hlen, ← List.map_append] at hown
          have HR : Hid (RowI wr w.heap.size u6 (xs ++ ys)) := hid hown
          clear hown hb
          go_wp2
          go_ret
          exact ⟨_, rfl, HR.out, HB.out⟩
end Go.Proofs.YthnklabdjaiplaaDoor
