/- Appends onto the call's own slices; slices of small numbers; a strip by numbers, while it is made. -/
import Derived.Test.YthaplnkmjggcfaaFPlaces
import Derived.Deep.RegionLaw
import Derived.Maps.AppendAt
namespace Go.Proofs.Ythaplnkmjggcfaa
open Go.RowKit

/-- append onto a slice that the call owns, as a step of a region that draws. -/
theorem step_append_at {P : Program} {ops : Array Oper} {o : Oper} {a : Act} {w : World} {K : Act → World → Prop} {Q : Exit → Act → World → Prop} {E : Prop} (hgd : o.guard = none) (s x : Operand) (t : TypeId)
    (ho : o.op = .call { callee := .builtin .append, args := #[s, x], argTypes := #[t, t] })
    (e : TypeId) (i : TypeInfo) (z : Value) (ht : P.underlying t = some (.slice e)) (hi : P.info? e = some i) (hz : i.zero = some z) (hsize : i.size = 1) (hby : i.bytes ≤ 24) (hzs : z.cells.size = 1)
    (base : Nat) (v : Value) (n : Nat) (xs : List Value) (hs : a.eval s = v) (ad : Addr) (m c : Nat) (news : List Value) (hx : a.eval x = .slice (some ad) m c)
    (hf : w.ownsRow base e 1 v n xs ∧ news.length = m ∧ (∀ j u, news[j]? = some u → w.cell? (ad.add j) = some u) ∧ (∀ u ∈ news, u.oneCell' = true) ∧ n + m ≤ 1000 ∧ base ≤ w.heap.size)
    (h : ∀ v' w', w'.ownsRow base e 1 v' (n + m) (xs ++ news) → w.grownBy w' v.ownBlock → (v'.ownBlock = v.ownBlock ∨ v'.ownBlock = some w.heap.size) → K (a.put o.dst v') w') :
    if Region.wanted o (yielded ops a.tmps) = true then Oper.wp P o a w K Q else E := by
  have hw : Region.wanted o (yielded ops a.tmps) = true := by simp [Region.wanted, hgd]
  rw [if_pos hw]
  obtain ⟨f1, f2, f3, f4, f5, f6⟩ := hf
  obtain ⟨v', w', hr, h2, h3, _, h5⟩ := run_append_own_at (P := P) w base t o.type e i z 1 i.bytes ht hi hz hsize rfl hzs (by decide) v n xs f1 ad m c news (by omega) f3 f4 (by unfold maxLen; omega)
    (by have : (n + m) * i.bytes ≤ 1000 * 24 := Nat.mul_le_mul f5 hby; omega) f6
  unfold Oper.wp execOp
  simp only [ho, resolve, invoke, builtin, Sem.run_bind, Sem.run_pure, Result.andThen_ok, List.map_toArray, List.map_cons, List.map_nil, hs, hx, hr]
  exact h v' w' h2 h3 h5

/-- The value is the call's own slice and holds these numbers. -/
def OwnV (w : World) (base : Nat) (v : Value) (xs : List Int) : Prop := w.ownsRow base 3 1 v xs.length (xs.map (Value.int .i64))

theorem OwnV.any {w : World} {base : Nat} {v : Value} {xs : List Int} (h : OwnV w base v xs) : ∃ a c, v = .slice a xs.length c := by
  rcases h.2 with ⟨rfl, h0⟩ | ⟨g, cap, cur, rfl, _⟩
  · exact ⟨none, 0, by rw [h0]⟩
  · exact ⟨_, _, rfl⟩

theorem OwnV.lt {w : World} {base : Nat} {v : Value} {xs : List Int} (h : OwnV w base v xs) : ∀ k, v.ownBlock = some k → base ≤ k ∧ k < w.heap.size := World.ownsRow.lt h

theorem OwnV.rd {w : World} {base : Nat} {a : Option Addr} {n c : Nat} {xs : List Int} (h : OwnV w base (.slice a n c) xs) : RdI w a xs := fun k hk => by
  rcases h.2 with ⟨h1, h0⟩ | ⟨g, cap, cur, h1, _⟩
  · omega
  · simp only [Value.slice.injEq] at h1
    obtain ⟨rfl, rfl, rfl⟩ := h1
    have h : OwnI w base g c xs := h
    exact h.rd k hk

theorem ownsRow_heap {w w' : World} {base : Nat} {e : TypeId} {size n : Nat} {v : Value} {xs : List Value} (h : w.ownsRow base e size v n xs) (hw : w'.heap = w.heap) : w'.ownsRow base e size v n xs := by
  unfold World.ownsRow at *
  rw [hw]
  exact h

theorem cell_heap {w w' : World} (hw : w'.heap = w.heap) (a : Addr) : w'.cell? a = w.cell? a := World.cell?_of_block (by rw [hw])

/-- The slice with this address reads as these small numbers. -/
def RdU (w : World) (a : Option Addr) (xs : List Nat) : Prop :=
  ∀ k (h : k < xs.length), ∃ b off, a = some ⟨b, off, none⟩ ∧ w.cell? ⟨b, off + k, none⟩ = some (.int .u8 (xs[k] : Nat))

theorem RdU.stays {w w' : World} {a : Option Addr} {xs : List Nat} (h : RdU w a xs) (hb : Below w.heap.size w w') : RdU w' a xs := fun k hk => by
  obtain ⟨b, off, ha, hc⟩ := h k hk
  exact ⟨b, off, ha, cell_stays hb (Nat.le_refl _) hc⟩


theorem grownBy_set (w : World) (a : Addr) (u : Value) : w.grownBy (w.setCell a u) (some a.block) :=
  ⟨rfl, rfl, rfl, by simp, fun k _ hk => Below.heap_setCell _ _ _ _ (fun e => hk (by rw [e]))⟩

/-- A strip by numbers, while it is made: the argument's box, the result's cell, the strip, its lengths. -/
structure F.MadeAt (w wr : World) (ad : Option Addr) (n cap : Nat) (f : Int) (v : Value) (xs : List Int) (st : ByteArray) : Prop where
  below : Below w.heap.size w wr
  ge : w.heap.size + 3 ≤ wr.heap.size
  bx : wr.rowIs w.heap.size 58 2 (fun j => if j = 0 then .slice ad n cap else .int .u8 f)
  rs : wr.rowIs (w.heap.size + 1) 24 2 (fun j => if j = 0 then .slice none 0 0 else .string ⟨#[]⟩)
  sx : wr.rowIs (w.heap.size + 2) 24 2 (fun j => if j = 0 then v else .string st)
  own : OwnV wr (w.heap.size + 3) v xs


theorem F.made_start (w : World) (ad : Option Addr) (n cap : Nat) (f : Int) :
    F.MadeAt w (((w.alloc (.cells #[.slice ad n cap, .int .u8 f] 58)).alloc (.cells #[.slice none 0 0, .string ⟨#[]⟩] 24)).alloc (.cells #[.slice none 0 0, .string ⟨#[]⟩] 24)) ad n cap f (.slice none 0 0) [] ⟨#[]⟩ where
  below := (((Below.refl w.heap.size w).alloc (Nat.le_refl _) _).alloc (by simp) _).alloc (by simp; omega) _
  ge := by simp
  bx := by
    have h := World.rowIs_alloc w #[.slice ad n cap, .int .u8 f] 58 (fun j => if j = 0 then .slice ad n cap else .int .u8 f) (fun i hi => by
      match i, hi with
      | 0, _ => rfl
      | 1, _ => rfl)
    exact (h.alloc _).alloc _
  rs := by
    have h := World.rowIs_alloc (w.alloc (.cells #[.slice ad n cap, .int .u8 f] 58)) #[.slice none 0 0, .string ⟨#[]⟩] 24 (fun j => if j = 0 then .slice none 0 0 else .string ⟨#[]⟩) (fun i hi => by
      match i, hi with
      | 0, _ => rfl
      | 1, _ => rfl)
    rw [show (w.alloc (.cells #[.slice ad n cap, .int .u8 f] 58)).heap.size = w.heap.size + 1 from by simp] at h
    exact h.alloc _
  sx := by
    have h := World.rowIs_alloc ((w.alloc (.cells #[.slice ad n cap, .int .u8 f] 58)).alloc (.cells #[.slice none 0 0, .string ⟨#[]⟩] 24)) #[.slice none 0 0, .string ⟨#[]⟩] 24 (fun j => if j = 0 then .slice none 0 0 else .string ⟨#[]⟩) (fun i hi => by
      match i, hi with
      | 0, _ => rfl
      | 1, _ => rfl)
    rw [show ((w.alloc (.cells #[.slice ad n cap, .int .u8 f] 58)).alloc (.cells #[.slice none 0 0, .string ⟨#[]⟩] 24)).heap.size = w.heap.size + 2 from by simp] at h
    exact h
  own := World.ownsRow_nil _ _ _ _

theorem F.made_step {w wr Wa w2 W : World} {ad : Option Addr} {n cap : Nat} {f : Int} {v v' : Value} {xs : List Int} {st : ByteArray} (h : F.MadeAt w wr ad n cap f v xs st) (y : Int)
    (hWa : Same Wa (wr.alloc (.cells #[.int .i64 y] 3))) (hown : w2.ownsRow (w.heap.size + 3) 3 1 v' (xs.length + 1) (xs.map (Value.int .i64) ++ [.int .i64 y]))
    (hg : Wa.grownBy w2 v.ownBlock) (hW : Same W (w2.setCell ⟨w.heap.size + 2, 0, none⟩ v')) : F.MadeAt w W ad n cap f v' (xs ++ [y]) st := by
  have hsz : Wa.heap.size = wr.heap.size + 1 := by rw [hWa.1]; simp
  have hge := h.ge
  have hgs := hg.size
  have hvb : ∀ q, v.ownBlock = some q → w.heap.size + 3 ≤ q := fun q hq => (OwnV.lt h.own q hq).1
  have hfar : ∀ q, q < w.heap.size + 3 → w2.heap[q]? = wr.heap[q]? := fun q hq => by
    rw [hg.block q (by omega) (fun e => by have := hvb q e.symm; omega), hWa.1]
    exact Below.heap_alloc _ _ _ (by omega)
  have hb2 : ∀ q, q ≠ w.heap.size + 2 → q < w.heap.size + 3 → W.heap[q]? = wr.heap[q]? := fun q hq hq3 => by
    rw [hW.1, Below.heap_setCell _ _ _ _ (show q ≠ w.heap.size + 2 from hq)]
    exact hfar q hq3
  refine ⟨below_same (Below.setCell (Below.grown (below_same (h.below.alloc (by omega) _) hWa) hg (by omega) (fun q hq => by have := hvb q hq; omega)) (by show w.heap.size ≤ w.heap.size + 2; omega) _) hW,
    by rw [hW.1]; simp; omega, h.bx.of_block (hb2 _ (by omega) (by omega)), h.rs.of_block (hb2 _ (by omega) (by omega)), ?_, ?_⟩
  · have ht2 := (h.sx.of_block (w' := w2) (hfar _ (by omega))).set 0 v'
    refine (ht2.of_block (w' := W) (by rw [hW.1])).congr (fun j _ => ?_)
    by_cases e : j = 0
    · simp [e]
    · simp [e]
  · unfold OwnV
    rw [List.map_append, List.length_append]
    refine ownsRow_heap (World.ownsRow.kept hown (grownBy_set _ _ _) (Or.inr fun e => ?_)) hW.1
    have := (World.ownsRow.lt hown _ e).1
    simp at this

theorem heap_one (w : World) (o : Obj) : (w.alloc o).heap[w.heap.size]? = some o := Go.Deep.blk_alloc_new _ _

theorem F.made_two {w wr W : World} {ad : Option Addr} {n cap : Nat} {f : Int} {v : Value} {xs : List Int} {st : ByteArray} (h : F.MadeAt w wr ad n cap f v xs st)
    (hW : Same W ((wr.alloc (.cells #[.int .i64 2] 3)).setCell ⟨w.heap.size + 2, 0, none⟩ (.slice (some ⟨wr.heap.size, 0, none⟩) 1 1))) :
    F.MadeAt w W ad n cap f (.slice (some ⟨wr.heap.size, 0, none⟩) 1 1) [2] st := by
  have hge := h.ge
  have hb2 : ∀ q, q ≠ w.heap.size + 2 → q < w.heap.size + 3 → W.heap[q]? = wr.heap[q]? := fun q hq hq3 => by
    rw [hW.1, Below.heap_setCell _ _ _ _ (show q ≠ w.heap.size + 2 from hq)]
    exact Below.heap_alloc _ _ _ (by omega)
  refine ⟨below_same (Below.setCell (h.below.alloc (by omega) _) (by show w.heap.size ≤ w.heap.size + 2; omega) _) hW,
    by rw [hW.1]; simp; omega, h.bx.of_block (hb2 _ (by omega) (by omega)), h.rs.of_block (hb2 _ (by omega) (by omega)), ?_, ?_⟩
  · have ht2 := ((h.sx.alloc (.cells #[.int .i64 2] 3)).set 0 (.slice (some ⟨wr.heap.size, 0, none⟩) 1 1))
    refine (ht2.of_block (w' := W) (by rw [hW.1])).congr (fun j _ => ?_)
    by_cases e : j = 0
    · simp [e]
    · simp [e]
  · unfold OwnV
    refine ownsRow_heap (World.ownsRow.kept (w := wr.alloc (.cells #[.int .i64 2] 3)) ?_ (grownBy_set _ _ _) (Or.inr fun e => by simp [Value.ownBlock] at e; omega)) hW.1
    refine ⟨by simp, .inr ⟨wr.heap.size, 1, #[.int .i64 2], rfl, by omega, heap_one _ _, by simp, by decide, by simp, by simp⟩⟩

theorem F.made_text {w wr W : World} {ad : Option Addr} {n cap : Nat} {f : Int} {v : Value} {xs : List Int} {st : ByteArray} (h : F.MadeAt w wr ad n cap f v xs st) (st' : ByteArray)
    (hW : Same W (wr.setCell ⟨w.heap.size + 2, 1, none⟩ (.string st'))) : F.MadeAt w W ad n cap f v xs st' := by
  have hge := h.ge
  have hb2 : ∀ q, q ≠ w.heap.size + 2 → q < w.heap.size + 3 → W.heap[q]? = wr.heap[q]? := fun q hq hq3 => by
    rw [hW.1, Below.heap_setCell _ _ _ _ (show q ≠ w.heap.size + 2 from hq)]
  refine ⟨below_same (Below.setCell h.below (by show w.heap.size ≤ w.heap.size + 2; omega) _) hW,
    by rw [hW.1]; simp; omega, h.bx.of_block (hb2 _ (by omega) (by omega)), h.rs.of_block (hb2 _ (by omega) (by omega)), ?_, ?_⟩
  · have ht2 := h.sx.set 1 (.string st')
    refine (ht2.of_block (w' := W) (by rw [hW.1])).congr (fun j hj => ?_)
    match j, hj with
    | 0, _ => simp
    | 1, _ => simp
  · unfold OwnV
    refine ownsRow_heap (World.ownsRow.kept h.own (grownBy_set _ _ _) (Or.inr fun e => ?_)) hW.1
    have := (World.ownsRow.lt h.own _ e).1
    simp at this

theorem row2 {w : World} {b : Nat} {t : TypeId} {f : Nat → Value} (h : w.rowIs b t 2 f) : w.heap[b]? = some (.cells #[f 0, f 1] t (0, 0)) := by
  obtain ⟨c, hb, hn, hc⟩ := h
  rw [hb]
  congr 2
  refine Array.ext (by rw [hn]; rfl) (fun i h1 h2 => ?_)
  have h3 := hc i (by omega)
  rw [Array.getElem?_eq_getElem h1] at h3
  have h4 : i = 0 ∨ i = 1 := by omega
  rcases h4 with rfl | rfl <;> exact Option.some.inj h3

theorem F.made_done {w wr W : World} {ad : Option Addr} {n cap : Nat} {f : Int} {v x y : Value} {xs : List Int} {st : ByteArray} (h : F.MadeAt w wr ad n cap f v xs st)
    (hW : Same W ((wr.setCell ⟨w.heap.size + 1, 0, none⟩ x).setCell ⟨w.heap.size + 1, 1, none⟩ y)) : OwnV W (w.heap.size + 3) v xs ∧ Below w.heap.size w W ∧ W.heap[w.heap.size + 1]? = some (.cells #[x, y] 24 (0, 0)) := by
  have hge := h.ge
  refine ⟨?_, below_same (Below.setCell (Below.setCell h.below (by show w.heap.size ≤ w.heap.size + 1; omega) _) (by show w.heap.size ≤ w.heap.size + 1; omega) _) hW, by rw [hW.1]; exact row2 ((h.rs.set 0 x).set 1 y)⟩
  have hne : v.ownBlock ≠ some (w.heap.size + 1) := fun e => by
    have := (World.ownsRow.lt h.own _ e).1
    omega
  unfold OwnV
  exact ownsRow_heap (World.ownsRow.kept (World.ownsRow.kept h.own (grownBy_set _ _ _) (Or.inr hne)) (grownBy_set _ _ _) (Or.inr hne)) hW.1

end Go.Proofs.Ythaplnkmjggcfaa
