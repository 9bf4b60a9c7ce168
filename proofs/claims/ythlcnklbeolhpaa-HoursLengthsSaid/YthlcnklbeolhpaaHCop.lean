/- Package hours: rows of numbers of one's own that can be changed; the walk of copied. -/
import Derived.Test.YthlcnklbeolhpaaHLof
import Derived.Laws.CopyOwn
import Derived.Deep.DeepCutAuto
namespace Go.Proofs.Ythlcnklbeolhpaa
open Go.RowKit

/-- Rows of one's own, the first p of them made. -/
structure H.OM (w : World) (lo bo m n : Nat) (ib : Nat → Nat) (F : Nat → Nat → Int) (p : Nat) : Prop where
  outer : w.rowIs bo 27 m (fun j => if j < p then .slice (some ⟨ib j, 0, none⟩) n n else .slice none 0 0)
  inner : ∀ j, j < p → w.rowIs (ib j) 3 n (fun d => .int .i64 (F j d))
  far : ∀ j, j < p → lo ≤ ib j ∧ ib j ≠ bo
  hlo : lo ≤ bo
  inj : ∀ i j, i < p → j < p → ib i = ib j → i = j
theorem H.OM.start {w : World} {lo m n : Nat} {ib : Nat → Nat} {F : Nat → Nat → Int} (hl : lo ≤ w.heap.size) : H.OM (w.alloc (.cells (madeCells #[.slice none 0 0] m) 27)) lo w.heap.size m n ib F 0 :=
  ⟨(World.rowIs_made w _ m 27).congr (fun j _ => by simp), fun j hj => absurd hj (Nat.not_lt_zero _), fun j hj => absurd hj (Nat.not_lt_zero _), hl, fun i j hi => absurd hi (Nat.not_lt_zero _)⟩
theorem H.OM.grown {w w' : World} {lo bo m n p : Nat} {ib : Nat → Nat} {F : Nat → Nat → Int} (h : H.OM w lo bo m n ib F p) (hb : Below w.heap.size w w') : H.OM w' lo bo m n ib F p :=
  ⟨h.outer.of_block (hb.block _ h.outer.lt), fun j hj => (h.inner j hj).of_block (hb.block _ (h.inner j hj).lt), h.far, h.hlo, h.inj⟩
theorem H.OM.row {w : World} {lo bo m n p : Nat} {ib : Nat → Nat} {F : Nat → Nat → Int} (h : H.OM w lo bo m n ib F p) {i : Nat} (hi : i < m) (hp : i < p) : w.cell? ⟨bo, i, none⟩ = some (.slice (some ⟨ib i, 0, none⟩) n n) := by
  have := h.outer.cell hi
  rwa [if_pos hp] at this
theorem H.OM.put {w : World} {lo bo m n p : Nat} {ib : Nat → Nat} {F G : Nat → Nat → Int} (h : H.OM w lo bo m n ib F p) {i j : Nat} (hi : i < p) {z : Int} (hG : ∀ x y, x < p → y < n → G x y = if x = i ∧ y = j then z else F x y) : H.OM (w.setCell ⟨ib i, j, none⟩ (.int .i64 z)) lo bo m n ib G p := by
  refine ⟨h.outer.of_block (Below.heap_setCell _ _ _ _ (show bo ≠ ib i from fun e => (h.far i hi).2 e.symm)), fun x hx => ?_, h.far, h.hlo, h.inj⟩
  by_cases e : x = i
  · subst e
    refine ((h.inner x hx).set j (.int .i64 z)).congr (fun y hy => ?_)
    rw [hG x y hx hy]
    by_cases ey : y = j
    · rw [if_pos ey, if_pos ⟨rfl, ey⟩]
    · rw [if_neg ey, if_neg (fun q => ey q.2)]
  · refine ((h.inner x hx).of_block (Below.heap_setCell _ _ _ _ (show ib x ≠ ib i from fun q => e (h.inj x i hx hi q)))).congr (fun y hy => ?_)
    rw [hG x y hx hy, if_neg (fun q => e q.1)]
/-- A row more: made, laid into the outer row, and filled. -/
theorem H.OM.more {w w' : World} {lo bo m n p : Nat} {ib : Nat → Nat} {F : Nat → Nat → Int} {o : Obj} (h : H.OM w lo bo m n ib F p)
    (hb : Below w.heap.size ((w.setCell ⟨bo, p, none⟩ (.slice (some ⟨w.heap.size, 0, none⟩) n n)).alloc o) w') (hr : w'.rowIs w.heap.size 3 n (fun d => .int .i64 (F p d))) : ∃ ib', H.OM w' lo bo m n ib' F (p + 1) := by
  have hbo := h.outer.lt
  have hlt : ∀ j, j < p → ib j < w.heap.size := fun j hj => (h.inner j hj).lt
  refine ⟨fun j => if j = p then w.heap.size else ib j, ?_, fun j hj => ?_, fun j hj => ?_, h.hlo, fun i j hi hj e => ?_⟩
  · have h1 := h.outer.set p (.slice (some ⟨w.heap.size, 0, none⟩) n n)
    refine (h1.of_block ((hb.block _ hbo).trans (Below.heap_alloc _ _ _ (by simpa using hbo)))).congr (fun j _ => ?_)
    by_cases e : j = p
    · subst e; simp
    · by_cases hl : j < p
      · simp [e, hl, show j < p + 1 by omega]
      · simp [e, hl, show ¬ j < p + 1 by omega]
  · by_cases e : j = p
    · subst e; simpa using hr
    · simp only [if_neg e]
      have hj' : j < p := by omega
      refine (h.inner j hj').of_block ((hb.block _ (hlt j hj')).trans ?_)
      rw [Below.heap_alloc _ _ _ (by simpa using hlt j hj')]
      exact Below.heap_setCell _ _ _ _ (show ib j ≠ bo from (h.far j hj').2)
  · by_cases e : j = p
    · subst e
      simp only [if_true]
      have := h.hlo
      exact ⟨by omega, by omega⟩
    · simp only [if_neg e]; exact h.far j (by omega)
  · by_cases ei : i = p
    · by_cases ej : j = p
      · omega
      · simp only [if_pos ei, if_neg ej] at e
        have := hlt j (by omega)
        omega
    · by_cases ej : j = p
      · simp only [if_neg ei, if_pos ej] at e
        have := hlt i (by omega)
        omega
      · simp only [if_neg ei, if_neg ej] at e
        exact h.inj i j (by omega) (by omega) e
/-- The number in a row and a column. -/
def H.el (T : List (List Int)) (i d : Nat) : Int := (T.getD i []).getD d 0
theorem H.el_get {T : List (List Int)} {i d : Nat} (hi : i < T.length) (hd : d < T[i].length) : H.el T i d = T[i][d] := by
  have e : T.getD i [] = T[i] := by rw [List.getD_eq_getElem?_getD, List.getElem?_eq_getElem hi]; rfl
  unfold H.el
  rw [e, List.getD_eq_getElem?_getD, List.getElem?_eq_getElem hd]
  rfl
theorem H.splice_all {α : Type} (L cs : List α) (h : cs.length = L.length) : splice L 0 cs = cs := by
  simp [splice, h]
/-- What copied returns. -/
def H.CpE (T : List (List Int)) (w : World) (e : Ending) (w' : World) : Prop := ∃ bo ib, e = .returned (.slice (some ⟨bo, 0, none⟩) T.length T.length) ∧ H.OM w' w.heap.size bo T.length (H.wid T) ib (H.el T) T.length ∧ Below w.heap.size w w'

set_option maxHeartbeats 4000000 in
set_option maxRecDepth 100000 in
theorem copied_any (a : Option Addr) (c : Nat) (T : List (List Int)) (w : World) (hok : H.Ok T) (hx : RdM w a T) :
    Calls Try.prog 67 #[.slice a T.length c] w (H.CpE T w) := by
  have h1 := hok.m1
  have h6 := hok.m6
  have n1 := hok.n1
  have n6 := hok.n6
  have HX := hid hx
  have HRO := hid hok.row
  clear hx hok
  have hmk := run_make_row' (P := Try.prog) 22 27 (.slice none 0 0) 24 Try.underlying22 (by kernel_rfl) rfl .i64 .i64 T.length (by omega) (by omega)
  have HST := hid (H.OM.start (w := w) (m := T.length) (n := H.wid T) (ib := fun _ => 0) (F := H.el T) (Nat.le_refl _))
  have HB0 := hid ((Below.refl w.heap.size w).alloc (Nat.le_refl _) (.cells (madeCells #[.slice none 0 0] T.length) 27))
  generalize hn : H.wid T = n at *
  have hmk2 := run_make_row' (P := Try.prog) 27 3 (.int .i64 0) 8 Try.underlying27 (by kernel_rfl) rfl .i64 .i64 n (by omega) (by omega)
  unfold H.CpE
  rw [hn]
  go_enter Try.func67, Try.ntmps67
  go_wp2
  clear hmk
  generalize w.alloc (.cells (madeCells #[.slice none 0 0] T.length) 27) = ws at *
  go_loopw [11] (fun i wr => ∃ (k : Nat) (ib : Nat → Nat), k ≤ T.length ∧ i = .int .i64 k ∧ H.OM wr w.heap.size w.heap.size T.length n ib (H.el T) k ∧ Below w.heap.size w wr) (fun i _ => T.length - (intOf i).toNat)
  case atStart => exact ⟨0, _, Nat.zero_le _, rfl, HST.out, HB0.out⟩
  case round =>
    obtain ⟨k, ib, hk, rfl, hO, hb⟩ := hrel
    have HO := hid hO
    have HB := hid hb
    by_cases hlt : k < T.length
    · obtain ⟨b, off, r, cr, rfl, hcw, hr⟩ := HX.out k hlt
      have hc := cell_stays hb (Nat.le_refl _) hcw
      have hrl : T[k].length = n := HRO.out _ (List.getElem_mem hlt)
      rw [hrl] at hc
      obtain ⟨b2, o2, rfl, _⟩ := hr 0 (by omega)
      have HRR := hid hr
      have HRL := hid hrl
      have hix : (0 : Int) ≤ (k : Int) ∧ (k : Int) < (T.length : Int) := by omega
      have t2 := hO.outer.frozen k
      have t1 := hO.outer.cell hlt
      rw [if_neg (Nat.lt_irrefl _)] at t1
      have hNl := hO.outer.lt
      have HT1 := hid (show ∀ o : Obj, (wr.alloc o).cell? ⟨w.heap.size, k, none⟩ = some (.slice none 0 0) ∧ (wr.alloc o).frozen? ⟨w.heap.size, k, none⟩ = false from fun o =>
        ⟨(World.cell?_of_block (Below.heap_alloc _ _ _ hNl)).trans t1, (World.frozen?_of_block (Below.heap_alloc _ _ _ hNl)).trans t2⟩)
      have u1 := (HT1.out (.cells (madeCells #[.int .i64 0] n) 3)).1
      have u2 := (HT1.out (.cells (madeCells #[.int .i64 0] n) 3)).2
      have u3 : ((wr.setCell ⟨w.heap.size, k, none⟩ (.slice (some ⟨wr.heap.size, 0, none⟩) n n)).alloc (.cells (madeCells #[.int .i64 0] n) 3)).cell? ⟨w.heap.size, k, none⟩ = some (.slice (some ⟨wr.heap.size, 0, none⟩) n n) := Lib.cell?_alloc_some _ (World.cell?_setCell_same _ _ _ t1)
      have HG : Hid (((wr.setCell ⟨w.heap.size, k, none⟩ (.slice (some ⟨wr.heap.size, 0, none⟩) n n)).alloc (.cells (madeCells #[.int .i64 0] n) 3)).heap[wr.heap.size]? = some (.cells (madeCells #[.int .i64 0] n).toList.toArray 3 (0, 0))) := hid (by
        have := Go.Deep.blk_alloc_new (wr.setCell ⟨w.heap.size, k, none⟩ (.slice (some ⟨wr.heap.size, 0, none⟩) n n)) (.cells (madeCells #[.int .i64 0] n) 3)
        simpa using this)
      have HW1 : Hid (Below wr.heap.size wr (wr.alloc (.cells (madeCells #[.int .i64 0] n) 3))) := hid ((Below.refl _ _).alloc (Nat.le_refl _) _)
      have HB1 : Hid (Below w.heap.size w ((wr.setCell ⟨w.heap.size, k, none⟩ (.slice (some ⟨wr.heap.size, 0, none⟩) n n)).alloc (.cells (madeCells #[.int .i64 0] n) 3))) := hid ((hb.setCell (p := ⟨w.heap.size, k, none⟩) (Nat.le_refl _) _).alloc (by have := hb.size; simpa using this) _)
      have HRO2 := hid (fun d (hd : d < T[k].length) => H.el_get (T := T) hlt hd)
      clear hO hb hcw hr t1 t2 HST hmk2
      have hmk3 := run_make_row' (P := Try.prog) 27 3 (.int .i64 0) 8 Try.underlying27 (by kernel_rfl) rfl .i64 .i64 n (by omega) (by omega)
      go_upto_region 6 with (fail)
      go_wp2_with (refine wpList_copy_splice rfl _ _ _ _ rfl 3 Try.underlying27 (by kernel_rfl) _ _ _ _ _ _ rfl rfl wr.heap.size 0 (madeCells #[.int .i64 0] n).toList 3 HG.out (T[k].map (Value.int .i64)) ?c1 ?c2 ?c3 ?c4 wr.heap.size _ (Below.refl _ _) (Nat.le_refl _) ?_)
      case c1 => rw [List.length_map, HRL.out]; exact (Nat.min_self n).symm
      case c2 =>
        intro _ j v hj
        obtain ⟨hjl, hv⟩ := List.getElem?_eq_some_iff.1 hj
        obtain ⟨b', off', he, hcl⟩ := HRR.out j hjl
        simp only [Option.some.injEq, Addr.mk.injEq, and_true] at he
        obtain ⟨rfl, rfl⟩ := he
        refine cell_stays HB1.out (Nat.le_refl _) ?_
        rw [hcl, hv]
      case c3 => rw [List.length_map, HRL.out, Array.length_toList, size_madeCells]; simp
      case c4 => intro v hv; obtain ⟨x, _, rfl⟩ := List.mem_map.1 hv; rfl
      intro w' hblk hbel
      have hrow : w'.rowIs wr.heap.size 3 n (fun d => .int .i64 (H.el T k d)) := by
        have hb9 := hblk.out
        rw [H.splice_all _ _ (by rw [List.length_map, HRL.out, Array.length_toList, size_madeCells])] at hb9
        refine ⟨_, hb9, by rw [List.size_toArray, List.length_map, HRL.out], fun d hd => ?_⟩
        have hd' : d < T[k].length := by rw [HRL.out]; exact hd
        rw [List.getElem?_toArray, List.getElem?_map, List.getElem?_eq_getElem hd']
        show some (Value.int .i64 T[k][d]) = some (.int .i64 (H.el T k d))
        rw [HRO2.out d hd']
      obtain ⟨ib', hO'⟩ := HO.out.more hbel hrow
      have HO2 := hid hO'
      have HB2 := hid (HB1.out.trans (hbel.mono (by have := HB.out.size; exact this)))
      clear hrow hO' hbel hblk u1 u2 u3
      go_wp2
      go_roundw
      case rel => exact ⟨k + 1, ib', by omega, by go_num, HO2.out, HB2.out⟩
      case measure => simp [intOf]; omega
    · obtain rfl : T.length = k := by omega
      go_wp2
      go_ret
      exact ⟨_, ib, rfl, HO.out, HB.out⟩
end Go.Proofs.Ythlcnklbeolhpaa
