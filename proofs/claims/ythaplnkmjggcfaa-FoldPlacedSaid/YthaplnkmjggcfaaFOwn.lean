/- Package fold: slices of numbers of the call's own; slices.Clone. -/
import Derived.Test.YthaplnkmjggcfaaFCan
import Derived.Lib.SliceRun
import Derived.BigRegion
import Derived.RegionTactic
namespace Go.Proofs.Ythaplnkmjggcfaa
open Go.RowKit

/-- The slice at the head of block g is the call's own and holds these numbers. -/
def OwnI (w : World) (base g cap : Nat) (xs : List Int) : Prop := w.ownsRow base 3 1 (.slice (some ⟨g, 0, none⟩) xs.length cap) xs.length (xs.map (Value.int .i64))

/-- Worlds that part in draws alone. -/
def Same (w' w : World) : Prop := w'.heap = w.heap ∧ w'.os = w.os ∧ w'.output = w.output ∧ w'.tape = w.tape

theorem below_same {B : Nat} {w a b : World} (h : Below B w b) (k : Same a b) : Below B w a :=
  h.trans ⟨k.2.1, k.2.2.2, k.2.2.1, by rw [k.1]; exact Nat.le_refl _, fun i _ => by rw [k.1]⟩

theorem OwnI.same {w w' : World} {base g cap : Nat} {xs : List Int} (h : OwnI w base g cap xs) (k : Same w' w) : OwnI w' base g cap xs := by
  unfold OwnI World.ownsRow at *
  rw [k.1]
  exact h

theorem OwnI.rd {w : World} {base g cap : Nat} {xs : List Int} (h : OwnI w base g cap xs) : RdI w (some ⟨g, 0, none⟩) xs := fun k hk => by
  refine ⟨g, 0, rfl, ?_⟩
  have := World.ownsRow.cellAt h k (by omega)
  rw [Nat.zero_add, this]
  simp [hk]

theorem OwnI.base {w : World} {base g cap : Nat} {xs : List Int} (h : OwnI w base g cap xs) : base ≤ g ∧ g < w.heap.size := World.ownsRow.lt h g rfl

theorem OwnI.of_row {w : World} {base : Nat} {v : Value} {n : Nat} {xs : List Int} (h : w.ownsRow base 3 1 v n (xs.map (Value.int .i64))) (h0 : 0 < xs.length) :
    ∃ g cap, v = .slice (some ⟨g, 0, none⟩) xs.length cap ∧ OwnI w base g cap xs := by
  have hl : xs.length = n := by have := h.1; simpa using this
  subst hl
  rcases h.2 with ⟨_, h2⟩ | ⟨g, cap, cur, rfl, _⟩
  · omega
  · exact ⟨g, cap, rfl, h⟩

theorem OwnI.set {w : World} {base g cap : Nat} {xs : List Int} (h : OwnI w base g cap xs) (j : Nat) (u : Int) : OwnI (w.setCell ⟨g, j, none⟩ (.int .i64 u)) base g cap (xs.set j u) := by
  have := (World.ownsRow.stored h j (.int .i64 u)).1
  unfold OwnI
  rw [List.map_set, List.length_set]
  exact this

theorem OwnI.drewN {w : World} {base g cap : Nat} {xs : List Int} (h : OwnI w base g cap xs) (q : Nat) : OwnI (w.drewN q) base g cap xs := by
  obtain ⟨h1, h2⟩ := h
  exact ⟨h1, h2⟩

set_option maxHeartbeats 1000000 in
set_option maxRecDepth 100000 in
theorem clone_any (a : Option Addr) (c : Nat) (xs : List Int) (w : World) (h0 : 0 < xs.length) (hbig : xs.length * 8 ≤ 140737488355328) (hx : RdI w a xs) :
    Calls Try.prog 60 #[.slice a xs.length c] w fun e w' => ∃ g cap, e = .returned (.slice (some ⟨g, 0, none⟩) xs.length cap) ∧ OwnI w' w.heap.size g cap xs ∧ Below w.heap.size w w' := by
  obtain ⟨i0, hi, hz0, hz1, hz2⟩ := info_parts (show (Try.prog.info? 3).map (fun i => (i.zero, i.size, i.bytes)) = some (some (.int .i64 0), 1, 8) by kernel_rfl)
  have q22 : ∀ (w : World) (a : Option Addr) (n c n' c' : Nat), (binOp .eql 22 (.slice a n c) (.slice none n' c')).run Try.prog w = .ok (.bool a.isNone) w := fun w a n c n' c' => Lib.run_eql_slice_nil w _ _ a n c n' c' Try.underlying22
  obtain ⟨b, off, rfl, _⟩ := hx 0 h0
  have A := hid hx
  clear hx
  go_enter Try.func60, Try.ntmps60
  go_wp2_with (at_builtin; refine wpList_append_own _ rfl _ _ 22 rfl w.heap.size 3 i0 (.int .i64 0) 1 8 Try.underlying22 hi hz0 hz1 hz2 rfl (by decide) _ _ _ rfl (World.ownsRow_made w #[] 0 (Nat.le_refl _) (Nat.zero_le _) rfl) ⟨b, off, none⟩ xs.length c (xs.map (Value.int .i64)) rfl ?qc1 ?qc2 ?qc3 ?qc4 ?qc5 ?qc6 ?_)
  case qc1 => simp
  case qc2 =>
    intro j u hj
    have hjn : j < xs.length := by
      have := (List.getElem?_eq_some_iff.1 hj).1
      simpa using this
    obtain ⟨b', off', he, hc⟩ := A.out j hjn
    simp only [Option.some.injEq, Addr.mk.injEq, and_true] at he
    obtain ⟨rfl, rfl⟩ := he
    rw [Addr.add_lit]
    refine Lib.cell?_alloc_some _ ?_
    rw [hc]
    simpa [hjn] using hj
  case qc3 => intro u hu; obtain ⟨x, _, rfl⟩ := List.mem_map.1 hu; rfl
  case qc4 => unfold maxLen; omega
  case qc5 => omega
  case qc6 => simp
  intro v' w1 hown hgrow hnil
  have hown2 : w1.ownsRow w.heap.size 3 1 v' xs.length (xs.map (Value.int .i64)) := by simpa using hown
  obtain ⟨g, cap, rfl, ho⟩ := OwnI.of_row hown2 h0
  have HO := hid ho
  clear ho hown hown2 hnil
  have HB := hid (((Below.refl _ w).alloc (Nat.le_refl _) _).grown hgrow (by simp) (by intro k hk; simp [Value.ownBlock] at hk; omega))
  clear hgrow
  go_wp2
  go_ret
  exact ⟨g, cap, rfl, HO.out, HB.out⟩

theorem below_grown {w w' : World} (h : Below w.heap.size w w') : w.grownBy w' none := ⟨h.os, h.tape, h.output, h.size, fun k hk _ => h.block k hk⟩

theorem ownsRow_stays {w w' : World} {base : Nat} {e : TypeId} {size : Nat} {v : Value} {n : Nat} {xs : List Value} (h : w.ownsRow base e size v n xs) (hb : Below w.heap.size w w') : w'.ownsRow base e size v n xs :=
  h.kept (below_grown hb) (Classical.em _)

theorem RdI.of_row {w : World} {base : Nat} {v : Value} {n : Nat} {xs : List Int} (h : w.ownsRow base 3 1 v n (xs.map (Value.int .i64))) : ∃ a cap, v = .slice a xs.length cap ∧ RdI w a xs := by
  by_cases h0 : 0 < xs.length
  · obtain ⟨g, cap, rfl, ho⟩ := OwnI.of_row h h0
    exact ⟨_, cap, rfl, ho.rd⟩
  · have hl : xs.length = n := by have := h.1; simpa using this
    rcases h.2 with ⟨rfl, h2⟩ | ⟨g, cap, cur, rfl, _⟩
    · exact ⟨none, 0, by rw [hl, h2], fun k hk => by omega⟩
    · exact ⟨_, cap, by rw [hl], fun k hk => by omega⟩

theorem OwnI.stays {w w' : World} {base g cap : Nat} {xs : List Int} (h : OwnI w base g cap xs) (hb : Below w.heap.size w w') : OwnI w' base g cap xs := ownsRow_stays h hb

theorem OwnI.le {w : World} {base g cap : Nat} {xs : List Int} (h : OwnI w base g cap xs) : xs.length ≤ cap := by
  rcases h.2 with ⟨h1, _⟩ | ⟨g', cap', cur, h1, _, _, h2, _⟩
  · simp at h1
  · simp only [Value.slice.injEq, true_and] at h1
    obtain ⟨_, rfl⟩ := h1
    exact h2


end Go.Proofs.Ythaplnkmjggcfaa
