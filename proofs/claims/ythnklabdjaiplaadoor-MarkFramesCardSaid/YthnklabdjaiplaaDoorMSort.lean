/- Package mark: slices.SortFunc at coalitions, by the library's contract. -/
import Derived.Test.YthnklabdjaiplaaDoorMCmp
import Derived.Shelf.SlSortCmp.NoneTotal
import Derived.Shelf.Lay
import Derived.Ground.SlsfProg
namespace Go.Proofs.YthnklabdjaiplaaDoor
open Go.Shelf Go.RowKit Go.Lib Go.Sort

shelf_lay_g SlLaysF.n6 Slsf 6 at Tryd 66 as Tryd.sortC

/-- A coalition as a slice. -/
def M.enc1 (x : M.Cx) : Value := .slice (some ⟨x.g, 0, none⟩) x.l.length x.cap

theorem M.sortBlock {α : Type} [Inhabited α] (enc : α → Value) (w : World) (g m : Nat) (d : Array α) (os : Array Obj) {k : Nat} (hk : k < w.heap.size) (hn : k ≠ g) : (sortWorld enc w g 0 m d os).heap[k]? = w.heap[k]? := by
  show ((w.heap.modify g (onCells (putCells enc 0 d))) ++ os)[k]? = w.heap[k]?
  rw [Array.getElem?_append_left (by simpa using hk), Array.getElem?_modify, if_neg (fun e => hn e.symm)]
theorem M.sortSize {α : Type} [Inhabited α] (enc : α → Value) (w : World) (g m : Nat) (d : Array α) (os : Array Obj) : w.heap.size ≤ (sortWorld enc w g 0 m d os).heap.size := by
  show w.heap.size ≤ ((w.heap.modify g (onCells (putCells enc 0 d))) ++ os).size
  simp
theorem M.sortGrown {α : Type} [Inhabited α] (enc : α → Value) (w : World) (g m : Nat) (d : Array α) (os : Array Obj) : w.grownBy (sortWorld enc w g 0 m d os) (some g) :=
  ⟨rfl, rfl, rfl, M.sortSize enc w g m d os, fun _ hk hn => M.sortBlock enc w g m d os hk (fun e => hn (by rw [e]))⟩

theorem M.lex_swo {α : Type} (f : α → List Nat) : SWO (ltOf fun x y => M.cmpL (f x) (f y)) where
  irrefl x := by
    unfold ltOf
    rw [decide_eq_false_iff_not, M.cmpL_neg]
    exact M.lex_irrefl _
  trans x y z h1 h2 := by
    unfold ltOf at *
    rw [decide_eq_true_eq, M.cmpL_neg] at *
    exact M.lex_trans h1 h2
  ntrans x y z h1 h2 := by
    unfold ltOf at *
    rw [decide_eq_false_iff_not, M.cmpL_neg] at *
    intro h3
    rcases M.lex_total (f x) (f y) with h | h | h
    · exact h1 h
    · exact h2 (h ▸ h3)
    · exact h2 (M.lex_trans h h3)

/-- What sorting leaves: the same coalitions, in order; nothing else turns. -/
def M.SoE (v : Value) (xs : List M.Cx) (w : World) (e : Ending) (w' : World) : Prop :=
  e = .returned (.tuple #[]) ∧ ∃ ys : List M.Cx, ys.Perm xs ∧ ys.Pairwise (fun a b => ¬ M.lex b.l a.l) ∧ (∃ a c, v = .slice a xs.length c ∧ ∀ j (_ : j < ys.length), ∃ g, a = some ⟨g, 0, none⟩ ∧ w'.cell? ⟨g, j, none⟩ = some (M.enc1 (ys.getD j ⟨0, 0, []⟩))) ∧ w.grownBy w' v.ownBlock

theorem sortC_any (lo : Nat) (v : Value) (xs : List M.Cx) (w : World) (h10 : xs.length ≤ 10000) (hrow : w.ownsRow lo 25 1 v xs.length (xs.map M.enc1)) (hR : ∀ x, x ∈ xs → M.RC x w ∧ x.l.length ≤ 1000) :
    Calls Tryd.prog 66 #[v, .func (.func 67) #[] #[]] w (M.SoE v xs w) := by
  by_cases h0 : xs = []
  · subst h0
    have hv : ∃ p c, v = .slice p 0 c := by
      rcases hrow.2 with ⟨rfl, _⟩ | ⟨g, cap, cur, rfl, _⟩
      · exact ⟨_, _, rfl⟩
      · exact ⟨_, _, rfl⟩
    obtain ⟨p, c, rfl⟩ := hv
    have h := AnyF.slices_SortFunc_none (P := Tryd.prog) (ρ := Tryd.sortC_ren) { Tryd.sortC with } p c (.func (.func 67) #[] #[]) w
    refine h.mono ?_
    rintro e w' ⟨rfl, rfl⟩
    exact ⟨rfl, [], List.Perm.refl _, List.Pairwise.nil, ⟨p, c, rfl, fun j hj => absurd hj (Nat.not_lt_zero _)⟩, grownRefl _ _⟩
  · rcases hrow.2 with ⟨_, h2⟩ | ⟨g, cap, cur, rfl, hlo, hg, hcap, hcm, hcs, hct⟩
    · exact absurd (List.length_eq_zero_iff.1 h2) h0
    have hgl : g < w.heap.size := (Array.getElem?_eq_some_iff.1 hg).1
    have hne : ∀ x, x ∈ xs → x.g ≠ g := fun x hx e => by
      obtain ⟨cur', hc'⟩ := (hR x hx).1.blk
      rw [e, hg] at hc'
      simp only [Option.some.injEq, Obj.cells.injEq] at hc'
      exact absurd hc'.2.1 (by decide)
    let β := { x : M.Cx // M.RC x w ∧ x.l.length ≤ 1000 ∧ x.g ≠ g }
    obtain ⟨x0, hx0⟩ := List.exists_mem_of_ne_nil xs h0
    let _ : Inhabited β := ⟨⟨x0, (hR x0 hx0).1, (hR x0 hx0).2, hne x0 hx0⟩⟩
    let enc : β → Value := fun x => M.enc1 x.1
    obtain ⟨dl, hdl⟩ : ∃ dl : List β, dl.map (·.1) = xs := ⟨xs.pmap (fun x hx => ⟨x, hx⟩) (fun x hx => ⟨(hR x hx).1, (hR x hx).2, hne x hx⟩), by rw [List.map_pmap]; simp⟩
    have hdn : dl.length = xs.length := by rw [← hdl, List.length_map]
    have hdg : ∀ j, j < dl.length → dl.toArray[j]!.1 = xs.getD j ⟨0, 0, []⟩ := fun j hj => by
      rw [getElem!_pos _ j (by simpa using hj), ← hdl, List.getD_eq_getElem?_getD, List.getElem?_map, List.getElem?_eq_getElem hj]
      rfl
    have hH : Holds enc w g 0 dl.toArray := fun j hj => by
      have hj' : j < xs.length := by rw [← hdn]; simpa using hj
      refine ⟨?_, by simp [World.frozen?, hg]⟩
      rw [Nat.zero_add, World.ownsRow.cellAt hrow j (by omega)]
      show (xs.map M.enc1)[j]? = some (M.enc1 (dl.toArray[j]!).1)
      rw [hdg j (by omega), List.getElem?_map, List.getElem?_eq_getElem hj', List.getD_eq_getElem?_getD, List.getElem?_eq_getElem hj']
      rfl
    have hcmp : CmpLays1 Tryd.prog 67 #[] enc (fun x y => M.cmpL x.1.l y.1.l) g 0 dl.toArray.size w := fun m os dk hs x y => by
      have hx : M.RC x.1 (sortWorld enc w g 0 m dk os) := x.2.1.of_block (M.sortBlock enc w g m dk os x.2.1.lt x.2.2.2)
      have hy : M.RC y.1 (sortWorld enc w g 0 m dk os) := y.2.1.of_block (M.sortBlock enc w g m dk os y.2.1.lt y.2.2.2)
      refine (compare_any (some ⟨x.1.g, 0, none⟩) (some ⟨y.1.g, 0, none⟩) x.1.cap y.1.cap x.1.l y.1.l _ x.2.2.1 y.2.2.1 hx.rd hy.rd).mono ?_
      rintro e w' ⟨rfl, rfl⟩
      exact ⟨rfl, 0, #[], by rw [grow_empty]; rfl⟩
    have h := Any.slices_SortFunc (P := Tryd.prog) (ρ := Tryd.sortC_ren) { Tryd.sortC with } enc (fun _ => rfl) (fun x y => M.cmpL x.1.l y.1.l) (M.lex_swo fun x : β => x.1.l) 67 #[] g 0 cap dl.toArray w (enters_of Tryd.func67 (by kernel_rfl) rfl) hcmp hH hgl (by simp; omega)
    rw [show dl.toArray.size = xs.length from by simpa using hdn] at h
    refine h.mono ?_
    rintro e w' ⟨rfl, d', n, os, hp, hs, rfl⟩
    obtain ⟨p1, _, p3⟩ := hp
    have hsz : d'.size = xs.length := by rw [p1]; simpa using hdn
    have p4 : d'.toList.Perm dl := by
      have e1 : (d'.extract 0 xs.length).toList = d'.toList := by rw [← hsz]; simp
      have e2 : (dl.toArray.extract 0 xs.length).toList = dl := by rw [← hdn]; simp
      rwa [e1, e2] at p3
    have hyl : (d'.toList.map (·.1)).length = xs.length := by rw [List.length_map, Array.length_toList, hsz]
    refine ⟨rfl, d'.toList.map (·.1), by rw [← hdl]; exact p4.map _, ?_, ⟨_, cap, rfl, fun j hj => ⟨g, rfl, ?_⟩⟩, M.sortGrown enc w g n d' os⟩
    · rw [List.pairwise_iff_getElem]
      intro i j hi hj hij
      have hi' : i < d'.size := by simpa using hi
      have hj' : j < d'.size := by simpa using hj
      have := hs i j (Nat.zero_le _) hij (by omega)
      unfold ltOf at this
      rw [decide_eq_false_iff_not, M.cmpL_neg, getElem!_pos _ i hi', getElem!_pos _ j hj'] at this
      simpa using this
    · have hj' : j < d'.size := by rw [hsz, ← hyl]; exact hj
      have hc := cell?_putRow enc (Sort.ahead w n) g 0 dl.toArray d' (holds_ahead _ _ _ _ _ _ hH) (by rw [hsz]; simpa using hdn.symm) j hj'
      rw [Nat.zero_add] at hc
      have hc2 : (sortWorld enc w g 0 n d' os).cell? ⟨g, j, none⟩ = some (enc d'[j]!) := by
        unfold sortWorld
        rw [cell?_grow _ _ _ (by show g < (putRow enc (Sort.ahead w n) g 0 d').heap.size; unfold putRow mapBlock; simpa using hgl)]
        exact hc
      rw [hc2]
      show some (M.enc1 (d'[j]!).1) = _
      rw [getElem!_pos _ j hj', List.getD_eq_getElem?_getD, List.getElem?_map, Array.getElem?_toList, Array.getElem?_eq_getElem hj']
      rfl
end Go.Proofs.YthnklabdjaiplaaDoor
