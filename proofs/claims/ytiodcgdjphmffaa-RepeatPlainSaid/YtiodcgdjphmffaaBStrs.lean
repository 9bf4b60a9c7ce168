/- Package repeat: slices of strings: what they read as, rows of the call's own, slices.Concat at two of them. -/
import Derived.Test.YtiodcgdjphmffaaBRow
import Derived.Shelf.Spec.SlicesGrow
import Derived.Shelf.Lay
import Derived.Ground.Names8Prog
namespace Go.Proofs.Ytiodcgdjphmffaa
open Go.Shelf Go.RowKit

/-- The slice with this address reads as these strings. -/
def RdS (w : World) (a : Option Addr) (xs : List ByteArray) : Prop :=
  ∀ k (h : k < xs.length), ∃ b off, a = some ⟨b, off, none⟩ ∧ w.cell? ⟨b, off + k, none⟩ = some (.string xs[k])
theorem RdS.stays {w w' : World} {a : Option Addr} {xs : List ByteArray} (h : RdS w a xs) (hb : Below w.heap.size w w') : RdS w' a xs := fun k hk => by
  obtain ⟨b, off, ha, hc⟩ := h k hk
  exact ⟨b, off, ha, cell_stays hb (Nat.le_refl _) hc⟩
/-- A row of strings of one's own. -/
def RowS (w : World) (lo : Nat) (v : Value) (xs : List ByteArray) : Prop := w.ownsRow lo 9 1 v xs.length (xs.map (Value.string))
theorem RowS.rd {w : World} {lo : Nat} {v : Value} {xs : List ByteArray} (h : RowS w lo v xs) : ∃ a cap, v = .slice a xs.length cap ∧ RdS w a xs := by
  rcases h.2 with ⟨rfl, h2⟩ | ⟨g, cap, cur, rfl, _⟩
  · exact ⟨none, 0, by rw [h2], fun k hk => by omega⟩
  · refine ⟨_, cap, rfl, fun k hk => ⟨g, 0, rfl, ?_⟩⟩
    have := World.ownsRow.cellAt h k (by omega)
    rw [Nat.zero_add, this]
    simp [hk]
theorem RowS.rdS {w : World} {lo n c : Nat} {a : Option Addr} {xs : List ByteArray} (h : RowS w lo (.slice a n c) xs) : RdS w a xs := by
  obtain ⟨x, y, e, q⟩ := h.rd
  simp only [Value.slice.injEq] at e
  obtain ⟨rfl, _, _⟩ := e
  exact q
theorem RowS.kept {w w' : World} {lo : Nat} {v : Value} {xs : List ByteArray} {row : Option Nat} (h : RowS w lo v xs) (hg : w.grownBy w' row) (hne : v.ownBlock = none ∨ v.ownBlock ≠ row) : RowS w' lo v xs := World.ownsRow.kept h hg hne
theorem RowS.stays {w w' : World} {lo : Nat} {v : Value} {xs : List ByteArray} (h : RowS w lo v xs) (hb : Below w.heap.size w w') : RowS w' lo v xs := h.kept (grown_below hb) (Classical.em _)
theorem RowS.mono {w : World} {lo lo' : Nat} {v : Value} {xs : List ByteArray} (h : RowS w lo v xs) (hb : lo' ≤ lo) : RowS w lo' v xs :=
  ⟨h.1, h.2.imp id fun ⟨g, cap, cur, e, hg, r⟩ => ⟨g, cap, cur, e, Nat.le_trans hb hg, r⟩⟩
theorem RowS.nil (w : World) (lo : Nat) : RowS w lo (.slice none 0 0) [] := World.ownsRow_nil _ _ _ _
theorem RowS.off {w : World} {lo : Nat} {v : Value} {xs : List ByteArray} (h : RowS w lo v xs) {g : Nat} (hg : g < lo) (o : Nat) (u : Value) : RowS (w.setCell ⟨g, o, none⟩ u) lo v xs :=
  h.kept (grown_set _ _ _) (by
    cases hq : v.ownBlock with
    | none => exact .inl rfl
    | some q =>
      refine .inr fun e => ?_
      have := (World.ownsRow.lt h q hq).1
      have := Option.some.inj e
      omega)
/-- A string appended. -/
theorem RowS.push {w' : World} {lo : Nat} {v' : Value} {xs : List ByteArray} {x : ByteArray} (h : w'.ownsRow lo 9 1 v' (xs.length + 1) (xs.map (Value.string) ++ [.string x])) : RowS w' lo v' (xs ++ [x]) := by
  unfold RowS
  rw [List.length_append, List.map_append]
  exact h


shelf_lay_g Lays8.n4 Nm8 4 at Try 76 as Try.growS

theorem RdS.stays2 {w w' : World} {a : Option Addr} {xs : List ByteArray} (h : RdS w a xs) (hb : Below w.heap.size w w') : RdS w' a xs := fun k hk => by
  obtain ⟨b, off, e, q⟩ := h k hk
  exact ⟨b, off, e, cell_stays hb (Nat.le_refl _) q⟩
theorem RdS.cellsS {w : World} {b off : Nat} {xs : List ByteArray} (h : RdS w (some ⟨b, off, none⟩) xs) : ∀ (j : Nat) (u : Value), (xs.map Value.string)[j]? = some u → w.cell? (Addr.add ⟨b, off, none⟩ j) = some u := by
  intro j u hj
  have hjn : j < xs.length := by
    have := (List.getElem?_eq_some_iff.1 hj).1
    simpa using this
  obtain ⟨b', off', he, hc⟩ := h j hjn
  simp only [Option.some.injEq, Addr.mk.injEq, and_true] at he
  obtain ⟨rfl, rfl⟩ := he
  rw [Addr.add_lit, hc]
  simpa [hjn] using hj
theorem heap_oneS (w : World) (o : Obj) : (w.alloc o).heap[w.heap.size]? = some o := by show (w.heap.push _)[w.heap.size]? = _; exact Array.getElem?_push_size
theorem growNilS (n : Nat) (hn : n ≤ 1000) (w : World) :
    Calls Try.prog 76 #[.slice none 0 0, .int .i64 n] w fun e w' => ∃ v, e = .returned v ∧ w'.ownsRow w.heap.size 9 1 v 0 [] ∧ Below w.heap.size w w' := by
  by_cases h0 : n = 0
  · subst h0
    have h := Any8.slices_Grow_room Try.growS none 0 0 0 w (by omega) (by omega) (by omega) (by omega)
    change Calls Try.prog 76 _ _ _ at h
    refine h.mono ?_
    rintro e w' ⟨rfl, rfl⟩
    exact ⟨_, rfl, World.ownsRow_nil _ _ _ _, Below.refl _ _⟩
  · obtain ⟨i0, hi, hz0, hz1, hz2⟩ := info_parts (show (Try.prog.info? 9).map (fun i => (i.zero, i.size, i.bytes)) = some (some (.string ⟨#[]⟩), 1, 16) by kernel_rfl)
    have h := Any8.slices_Grow_grow Try.growS i0 (.string ⟨#[]⟩) hi hz0 (by rw [hz1]; decide) none 0 0 n [] w (by omega) (by omega) (by rw [hz2]; omega) (by omega) (by simp) (fun _ => rfl) (fun a h => by cases h)
    change Calls Try.prog 76 _ _ _ at h
    refine h.mono ?_
    rintro e w' ⟨rfl, rfl⟩
    have hG1 := grownCap_ge w (0 + n) 0 9
    have hG2 := grownCap_le_maxLen w (0 + n) 0 9 (by unfold maxLen; omega)
    refine ⟨_, rfl, ⟨by simp, Or.inr ⟨w.heap.size, _, #[] ++ Builtin.zeroCells (Value.string ⟨#[]⟩).cells (0 + n - 0) ++ Builtin.zeroCells (Value.string ⟨#[]⟩).cells (grownCap w (0 + n) 0 9 - (0 + n)), rfl, Nat.le_refl _, ?_, Nat.zero_le _, hG2, ?_, by simp⟩⟩, (Below.refl _ _).drew.alloc (Nat.le_refl _) _⟩
    · exact heap_oneS w.drew _
    · have e1 : (Value.string ⟨#[]⟩).cells.size = 1 := rfl
      have e2 : ∀ k, (Builtin.zeroCells (Value.string ⟨#[]⟩).cells k).size = k * 1 := fun k => by simp [Builtin.zeroCells, e1]
      show Array.size _ = grownCap w (0 + n) 0 9 * 1
      rw [Array.size_append, Array.size_append, e2, e2]
      have e0 : (#[] : Array Value).size = 0 := rfl
      rw [e0]
      omega

set_option maxHeartbeats 4000000 in
set_option maxRecDepth 100000 in
theorem concatS_any (p o b1 o1 c1 b2 o2 c2 cp : Nat) (xs ys : List ByteArray) (w : World) (hx12 : xs.length ≤ 40) (hy12 : ys.length ≤ 40)
    (hp1 : w.cell? ⟨p, o, none⟩ = some (.slice (some ⟨b1, o1, none⟩) xs.length c1)) (hp2 : w.cell? ⟨p, o + 1, none⟩ = some (.slice (some ⟨b2, o2, none⟩) ys.length c2))
    (hx : RdS w (some ⟨b1, o1, none⟩) xs) (hy : RdS w (some ⟨b2, o2, none⟩) ys) :
    Calls Try.prog 71 #[.slice (some ⟨p, o, none⟩) 2 cp] w fun e w' => ∃ v, e = .returned v ∧ RowS w' w.heap.size v (xs ++ ys) ∧ Below w.heap.size w w' := by
  have HP1 := hid hp1
  have HP2 := hid hp2
  have HX := hid hx
  have HY := hid hy
  have hlen : (xs ++ ys).length = xs.length + ys.length := List.length_append
  clear hp1 hp2 hx hy
  obtain ⟨i0, hi, hz0, hz1, hz2⟩ := info_parts (show (Try.prog.info? 9).map (fun i => (i.zero, i.size, i.bytes)) = some (some (.string ⟨#[]⟩), 1, 16) by kernel_rfl)
  go_enter Try.func71, Try.ntmps71
  go_wp2
  go_loop [3, 11] (fun s i => i = .int .i64 0 ∧ s = .int .i64 0 ∨ i = .int .i64 1 ∧ s = .int .i64 (xs.length : Nat) ∨ i = .int .i64 2 ∧ s = .int .i64 ((xs.length + ys.length : Nat) : Int)) (fun _ i => 2 - (intOf i).toNat)
  case atStart => exact Or.inl ⟨rfl, rfl⟩
  case round =>
    rcases hrel with ⟨rfl, rfl⟩ | ⟨rfl, rfl⟩ | ⟨rfl, rfl⟩
    · have hp1 := HP1.out
      have hn : ¬ ((xs.length : Int) < 0) := by omega
      go_wp2
      go_round
      case rel => exact Or.inr (Or.inl ⟨rfl, by go_num⟩)
      case measure => simp [intOf]
    · have hp2 := HP2.out
      have hn : ¬ ((xs.length : Int) + (ys.length : Int) < 0) := by omega
      go_wp2
      go_round
      case rel => exact Or.inr (Or.inr ⟨rfl, by go_num⟩)
      case measure => simp [intOf]
    · have HG := hid (growNilS (xs.length + ys.length) (by omega) w)
      go_wp2_with fail
      refine HG.out.mono ?_
      rintro e w1 ⟨v0, rfl, hown, hb⟩
      have HO := hid hown
      have HB := hid hb
      clear hown hb HG
      go_wp2
      go_loopw [6, 27] (fun v i wr => Below w.heap.size w wr ∧ (i = .int .i64 0 ∧ wr.ownsRow w.heap.size 9 1 v 0 [] ∨ i = .int .i64 1 ∧ wr.ownsRow w.heap.size 9 1 v xs.length (xs.map Value.string) ∨ i = .int .i64 2 ∧ wr.ownsRow w.heap.size 9 1 v (xs.length + ys.length) (xs.map Value.string ++ ys.map Value.string))) (fun _ i _ => 2 - (intOf i).toNat)
      case atStart => exact ⟨HB.out, Or.inl ⟨rfl, HO.out⟩⟩
      case round =>
        clear HO HB
        obtain ⟨hb, hrel⟩ := hrel
        have HB := hid hb
        rcases hrel with ⟨rfl, hown⟩ | ⟨rfl, hown⟩ | ⟨rfl, hown⟩
        · have HO := hid hown
          have hp1 := cell_stays hb (Nat.le_refl _) HP1.out
          have HXR := hid (HX.out.stays2 hb)
          clear hown hb
          go_wp2_with (at_builtin; refine wpList_append_own _ rfl _ _ 41 rfl w.heap.size 9 i0 (.string ⟨#[]⟩) 1 16 Try.underlying41 hi hz0 hz1 hz2 rfl (by decide) _ _ _ rfl HO.out ⟨b1, o1, none⟩ xs.length c1 (xs.map Value.string) rfl (by simp) ?c1 (fun u hu => by obtain ⟨x, _, rfl⟩ := List.mem_map.1 hu; rfl) ?c3 ?c4 ?c5 ?_)
          case c1 => exact HXR.out.cellsS
          case c3 => unfold maxLen; omega
          case c4 => omega
          case c5 => exact HB.out.size
          intro v' w3 hown' hgrow _
          have HB4 := hid (HB.out.grown hgrow (by first | exact HB.out.size | (have := HB.out.size; omega)) (fun q hq => (World.ownsRow.lt HO.out q hq).1))
          have HO3 := hid hown'
          clear hown' hgrow
          go_wp2
          go_roundw
          case rel => exact ⟨HB4.out, Or.inr (Or.inl ⟨rfl, by simpa using HO3.out⟩)⟩
          case measure => simp [intOf]
        · have HO := hid hown
          have hp2 := cell_stays hb (Nat.le_refl _) HP2.out
          have HYR := hid (HY.out.stays2 hb)
          clear hown hb
          go_wp2_with (at_builtin; refine wpList_append_own _ rfl _ _ 41 rfl w.heap.size 9 i0 (.string ⟨#[]⟩) 1 16 Try.underlying41 hi hz0 hz1 hz2 rfl (by decide) _ _ _ rfl HO.out ⟨b2, o2, none⟩ ys.length c2 (ys.map Value.string) rfl (by simp) ?c1 (fun u hu => by obtain ⟨x, _, rfl⟩ := List.mem_map.1 hu; rfl) ?c3 ?c4 ?c5 ?_)
          case c1 => exact HYR.out.cellsS
          case c3 => unfold maxLen; omega
          case c4 => omega
          case c5 => exact HB.out.size
          intro v' w3 hown' hgrow _
          have HB4 := hid (HB.out.grown hgrow (by first | exact HB.out.size | (have := HB.out.size; omega)) (fun q hq => (World.ownsRow.lt HO.out q hq).1))
          have HO3 := hid hown'
          clear hown' hgrow
          go_wp2
          go_roundw
          case rel => exact ⟨HB4.out, Or.inr (Or.inr ⟨rfl, by simpa using HO3.out⟩)⟩
          case measure => simp [intOf]
        · rw [← hlen, ← List.map_append] at hown
          have HR : Hid (RowS wr w.heap.size u6 (xs ++ ys)) := hid hown
          clear hown hb
          go_wp2
          go_ret
          exact ⟨_, rfl, HR.out, HB.out⟩
end Go.Proofs.Ytiodcgdjphmffaa
