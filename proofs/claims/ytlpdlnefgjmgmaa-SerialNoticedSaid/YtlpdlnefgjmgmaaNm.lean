/- Two maps of spots under way; which spots are in the lists. -/
import Derived.Test.YtlpdlnefgjmgmaaSpotMap
import Derived.Test.YtlpdlnefgjmgmaaTwins
namespace Go.Proofs.Ytlpdlnefgjmgmaa
open Go.RowKit

theorem P.mem_spS {pr : Nat → Nat → Nat → Bool} {n s a b : Nat} : (s, a, b) ∈ P.spS pr n n ↔ s < n ∧ a < n ∧ b < n ∧ a < b ∧ pr s a b = true := by
  unfold P.spS P.spA P.spK
  simp only [List.mem_flatMap, List.mem_range, List.mem_map, List.mem_filter, Bool.and_eq_true, decide_eq_true_eq, Prod.mk.injEq]
  constructor
  · rintro ⟨s', hs, a', ha, b', ⟨hb, hab, hp⟩, rfl, rfl, rfl⟩
    exact ⟨hs, ha, hb, hab, hp⟩
  · rintro ⟨hs, ha, hb, hab, hp⟩
    exact ⟨s, hs, a, ha, b, ⟨hb, hab, hp⟩, rfl, rfl, rfl⟩

/-- What a map says that holds the first j of a list's spots. -/
def P.among (xs : List (Nat × Nat × Nat)) (j : Nat) (s a b : Nat) : Bool := decide ((s, a, b) ∈ xs.take j)

theorem P.among_step {xs : List (Nat × Nat × Nat)} {j : Nat} (hj : j < xs.length) (s a b : Nat) :
    (decide (s = xs[j].1 ∧ a = xs[j].2.1 ∧ b = xs[j].2.2) || P.among xs j s a b) = P.among xs (j + 1) s a b := by
  unfold P.among
  rw [List.take_succ_eq_append_getElem hj, Bool.eq_iff_iff, Bool.or_eq_true, decide_eq_true_eq, decide_eq_true_eq, decide_eq_true_eq, List.mem_append, List.mem_singleton]
  constructor
  · rintro (⟨h1, h2, h3⟩ | h)
    · exact Or.inr (by rw [h1, h2, h3])
    · exact Or.inl h
  · rintro (h | h)
    · exact Or.inr h
    · left
      rw [← h]
      exact ⟨rfl, rfl, rfl⟩

theorem P.among_all {pr : Nat → Nat → Nat → Bool} {n : Nat} {xs : List (Nat × Nat × Nat)} (hx : xs = P.spS pr n n) (s a b : Nat) (hs : s < n) (hab : a < b) (hb : b < n) : P.among xs xs.length s a b = pr s a b := by
  unfold P.among
  rw [List.take_length, hx, Bool.eq_iff_iff, decide_eq_true_eq, P.mem_spS]
  exact ⟨fun h => h.2.2.2.2, fun h => ⟨hs, by omega, hb, hab, h⟩⟩

theorem SpotMap.congr {w : World} {b n : Nat} {f g : Nat → Nat → Nat → Bool} (h : SpotMap w b n f) (e : ∀ s a c, f s a c = g s a c) : SpotMap w b n g := by
  obtain ⟨D, h1, h2, h3⟩ := h
  exact ⟨D, h1, h2, fun s a c hs ha hc => by rw [← e]; exact h3 s a c hs ha hc⟩

/-- The two maps and their variables. -/
structure NM (w4 w : World) (jb jt : Nat) (fb ft : Nat → Nat → Nat → Bool) : Prop where
  below : Below w4.heap.size w4 w
  c11 : w.cell? ⟨w4.heap.size + 2, 0, none⟩ = some (.map (some w4.heap.size))
  c12 : w.cell? ⟨w4.heap.size + 3, 0, none⟩ = some (.map (some (w4.heap.size + 1)))
  mb : SpotMap w w4.heap.size jb fb
  mt : SpotMap w (w4.heap.size + 1) jt ft

theorem NM.start (w4 : World) : NM w4 ((((w4.alloc (.map #[] 0)).alloc (.map #[] 0)).alloc (.cells #[.map (some w4.heap.size)] 31)).alloc (.cells #[.map (some (w4.heap.size + 1))] 31)) 0 0 (fun _ _ _ => false) (fun _ _ _ => false) := by
  have e1 : (w4.alloc (.map #[] 0)).heap.size = w4.heap.size + 1 := by simp
  have m2 := SpotMap.made (w4.alloc (.map #[] 0))
  rw [e1] at m2
  have m1 := (SpotMap.made w4).kept (World.grownBy_alloc (w4.alloc (.map #[] 0)) (.map #[] 0) none) (by simp)
  refine ⟨((((Below.refl _ w4).alloc (Nat.le_refl _) _).alloc (by simp) _).alloc (by simp; omega) _).alloc (by simp; omega) _, ?_, ?_, ?_, ?_⟩
  · refine Lib.cell?_alloc_some _ ?_
    rw [World.cell?_alloc_at _ _ _ _ (by simp)]; rfl
  · rw [World.cell?_alloc_at _ _ _ _ (by simp)]; rfl
  · exact (m1.kept (World.grownBy_alloc _ _ none) (by simp)).kept (World.grownBy_alloc _ _ none) (by simp)
  · exact (m2.kept (World.grownBy_alloc _ _ none) (by simp)).kept (World.grownBy_alloc _ _ none) (by simp)

theorem NM.alloc {w4 w : World} {jb jt : Nat} {fb ft : Nat → Nat → Nat → Bool} (h : NM w4 w jb jt fb ft) (o : Obj) : NM w4 (w.alloc o) jb jt fb ft :=
  ⟨h.below.alloc h.below.size o, Lib.cell?_alloc_some _ h.c11, Lib.cell?_alloc_some _ h.c12, h.mb.kept (World.grownBy_alloc _ _ none) (by simp), h.mt.kept (World.grownBy_alloc _ _ none) (by simp)⟩

theorem NM.putB {w4 w w' : World} {jb jt jb' : Nat} {fb ft fb' : Nat → Nat → Nat → Bool} (h : NM w4 w jb jt fb ft) (g : w.grownBy w' (some w4.heap.size)) (m : SpotMap w' w4.heap.size jb' fb') : NM w4 w' jb' jt fb' ft :=
  ⟨h.below.grown g h.below.size (fun q hq => by simp at hq; omega), g.cell h.c11 (by simp), g.cell h.c12 (by simp), m, h.mt.kept g (by simp)⟩

theorem NM.putT {w4 w w' : World} {jb jt jt' : Nat} {fb ft ft' : Nat → Nat → Nat → Bool} (h : NM w4 w jb jt fb ft) (g : w.grownBy w' (some (w4.heap.size + 1))) (m : SpotMap w' (w4.heap.size + 1) jt' ft') : NM w4 w' jb jt' fb ft' :=
  ⟨h.below.grown g h.below.size (fun q hq => by simp at hq; omega), g.cell h.c11 (by simp), g.cell h.c12 (by simp), h.mb.kept g (by simp), m⟩

end Go.Proofs.Ytlpdlnefgjmgmaa
