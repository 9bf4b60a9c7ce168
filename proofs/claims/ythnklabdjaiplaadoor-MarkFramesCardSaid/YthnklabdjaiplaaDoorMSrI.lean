/- Package mark: slices.Sort at own rows of numbers, by the library's contract. -/
import Derived.Test.YthnklabdjaiplaaDoorMSort
import Derived.Shelf.SortM.Plain
import Derived.Shelf.SortM.SortNone
import Derived.Ground.SlgmProg
namespace Go.Proofs.YthnklabdjaiplaaDoor
open Go.Shelf Go.RowKit Go.Lib Go.Sort

shelf_lay_g SlLaysM.n5 Slgm 5 at Tryd 74 as Tryd.sortI

theorem M.asc_unique : ∀ {A B : List Int}, A.Pairwise (· < ·) → B.Pairwise (· < ·) → (∀ l, l ∈ A ↔ l ∈ B) → A = B
  | [], [], _, _, _ => rfl
  | [], b :: _, _, _, h => by have := (h b).2 (by simp); simp at this
  | a :: _, [], _, _, h => by have := (h a).1 (by simp); simp at this
  | a :: A, b :: B, hA, hB, h => by
    rw [List.pairwise_cons] at hA hB
    have hab : a = b := by
      rcases List.mem_cons.1 ((h a).1 (by simp)) with h1 | h1
      · exact h1
      · rcases List.mem_cons.1 ((h b).2 (by simp)) with h2 | h2
        · exact h2.symm
        · have := hB.1 a h1; have := hA.1 b h2; omega
    subst hab
    rw [M.asc_unique hA.2 hB.2 fun l => ?_]
    constructor
    · intro hl
      rcases List.mem_cons.1 ((h l).1 (List.mem_cons_of_mem _ hl)) with rfl | h2
      · have := hA.1 l hl; omega
      · exact h2
    · intro hl
      rcases List.mem_cons.1 ((h l).2 (List.mem_cons_of_mem _ hl)) with rfl | h2
      · have := hB.1 l hl; omega
      · exact h2

theorem M.merge_asc {zs : List Int} (hn : zs.Nodup) : (zs.mergeSort fun x y => decide (x ≤ y)).Pairwise (· < ·) := by
  have hp : (zs.mergeSort fun x y => decide (x ≤ y)).Perm zs := List.mergeSort_perm _ _
  have h1 : (zs.mergeSort fun x y => decide (x ≤ y)).Pairwise (fun x y => decide (x ≤ y) = true) := List.pairwise_mergeSort (fun a b c h1 h2 => by simp only [decide_eq_true_eq] at *; omega) (fun a b => by simp only [Bool.or_eq_true, decide_eq_true_eq]; omega) zs
  have h2 : (zs.mergeSort fun x y => decide (x ≤ y)).Nodup := hp.nodup_iff.2 hn
  refine (h1.and h2).imp ?_
  rintro a b ⟨h3, h4⟩
  simp only [decide_eq_true_eq] at h3
  omega

theorem sortI_any (lo : Nat) (v : Value) (zs L : List Int) (w : World) (h10 : zs.length ≤ 100000) (hrow : RowI w lo v zs) (hn : zs.Nodup) (hL : L.Pairwise (· < ·)) (hm : ∀ x, x ∈ zs ↔ x ∈ L) :
    Calls Tryd.prog 74 #[v] w fun e w' => e = .returned (.tuple #[]) ∧ RowI w' lo v L ∧ w.grownBy w' v.ownBlock := by
  have hSL : (zs.mergeSort fun x y => decide (x ≤ y)) = L := M.asc_unique (M.merge_asc hn) hL fun x => by rw [(List.mergeSort_perm zs _).mem_iff]; exact hm x
  by_cases h0 : zs = []
  · subst h0
    have hv : ∃ p c, v = .slice p 0 c := by
      rcases hrow.2 with ⟨rfl, _⟩ | ⟨g, cap, cur, rfl, _⟩
      · exact ⟨_, _, rfl⟩
      · exact ⟨_, _, rfl⟩
    obtain ⟨p, c, rfl⟩ := hv
    refine (AnyM.slices_Sort_int_none (P := Tryd.prog) (ρ := Tryd.sortI_ren) { Tryd.sortI with } p c w).mono ?_
    rintro e w' ⟨rfl, rfl⟩
    have hL0 : L = [] := by rw [← hSL]; simp
    subst hL0
    exact ⟨rfl, hrow, grownRefl _ _⟩
  · rcases hrow.2 with ⟨_, h2⟩ | ⟨g, cap, cur, rfl, hlo, hg, hcap, hcm, hcs, hct⟩
    · exact absurd (List.length_eq_zero_iff.1 h2) h0
    have hgl : g < w.heap.size := (Array.getElem?_eq_some_iff.1 hg).1
    have hH : Holds (Value.int .i64) w g 0 zs.toArray := fun j hj => by
      have hj' : j < zs.length := by simpa using hj
      refine ⟨?_, by simp [World.frozen?, hg]⟩
      rw [Nat.zero_add, World.ownsRow.cellAt hrow j (by omega), List.getElem?_map, List.getElem?_eq_getElem hj', getElem!_pos _ j hj]
      rfl
    refine (AnyM.slices_Sort_int (P := Tryd.prog) (ρ := Tryd.sortI_ren) { Tryd.sortI with } g 0 cap zs w hH hgl (by omega)).mono ?_
    rintro e w' ⟨rfl, n, os, rfl⟩
    rw [hSL]
    have hLl : L.length = zs.length := by rw [← hSL]; exact (List.mergeSort_perm zs _).length_eq
    refine ⟨rfl, ⟨by simp, .inr ⟨g, cap, putCells (Value.int .i64) 0 L.toArray cur, by rw [hLl], hlo, ?_, by omega, hcm, ?_, ?_⟩⟩, M.sortGrown (Value.int .i64) w g n L.toArray os⟩
    · show ((w.heap.modify g (onCells (putCells (Value.int .i64) 0 L.toArray))) ++ os)[g]? = _
      rw [Array.getElem?_append_left (by simpa using hgl), Array.getElem?_modify, if_pos rfl, hg]
      rfl
    · unfold putCells
      simpa using hcs
    · apply List.ext_getElem?
      intro i
      by_cases hi : i < L.length
      · rw [List.getElem?_take_of_lt (by omega), List.getElem?_map, List.getElem?_eq_getElem hi]
        unfold putCells
        rw [Array.getElem?_toList, Array.getElem?_mapIdx]
        have hic : i < cur.size := by omega
        rw [Array.getElem?_eq_getElem hic]
        simp [hi]
      · rw [List.getElem?_eq_none (by rw [List.length_take]; omega), List.getElem?_eq_none (by rw [List.length_map]; omega)]
end Go.Proofs.YthnklabdjaiplaaDoor
