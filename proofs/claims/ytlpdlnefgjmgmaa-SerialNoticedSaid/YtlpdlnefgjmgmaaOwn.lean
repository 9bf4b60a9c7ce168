/- The walks of slices.Clone, of the closures that change a copy of a code, and of what calls them. -/
import Derived.Test.YtlpdlnefgjmgmaaMath
import Derived.Test.YtlpdlnefgjmgmaaAfter
import Derived.Lib.SliceRun
import Derived.BigRegion
import Derived.RegionTactic
namespace Go.Proofs.Ytlpdlnefgjmgmaa
open Go.RowKit

/-- The slice at the head of block g is the call's own and holds these numbers. -/
def OwnI (w : World) (base g cap : Nat) (xs : List Int) : Prop := w.ownsRow base 3 1 (.slice (some ⟨g, 0, none⟩) xs.length cap) xs.length (xs.map (Value.int .i64))

/-- Worlds that part in draws alone. -/
def Same (w' w : World) : Prop := w'.heap = w.heap ∧ w'.os = w.os ∧ w'.output = w.output ∧ w'.tape = w.tape

theorem below_same {B : Nat} {w a b : World} (h : Below B w b) (k : Same a b) : Below B w a :=
  h.trans ⟨k.2.1, k.2.2.2, k.2.2.1, by rw [k.1]; exact Nat.le_refl _, fun i _ => by rw [k.1]⟩

theorem OwnI.same {w w' : World} {base g cap : Nat} {xs : List Int} (h : OwnI w base g cap xs) (k : Same w' w) : OwnI w' base g cap xs := by
  unfold OwnI World.ownsRow at *
  rw [k.1]
  exact h

theorem OwnI.rd {w : World} {base g cap : Nat} {xs : List Int} (h : OwnI w base g cap xs) : RdI w (some ⟨g, 0, none⟩) xs := fun k hk => by
  refine ⟨g, 0, rfl, ?_⟩
  have := World.ownsRow.cellAt h k (by omega)
  rw [Nat.zero_add, this]
  simp [hk]

theorem OwnI.base {w : World} {base g cap : Nat} {xs : List Int} (h : OwnI w base g cap xs) : base ≤ g ∧ g < w.heap.size := World.ownsRow.lt h g rfl

theorem OwnI.of_row {w : World} {base : Nat} {v : Value} {n : Nat} {xs : List Int} (h : w.ownsRow base 3 1 v n (xs.map (Value.int .i64))) (h0 : 0 < xs.length) :
    ∃ g cap, v = .slice (some ⟨g, 0, none⟩) xs.length cap ∧ OwnI w base g cap xs := by
  have hl : xs.length = n := by have := h.1; simpa using this
  subst hl
  rcases h.2 with ⟨_, h2⟩ | ⟨g, cap, cur, rfl, _⟩
  · omega
  · exact ⟨g, cap, rfl, h⟩

theorem OwnI.set {w : World} {base g cap : Nat} {xs : List Int} (h : OwnI w base g cap xs) (j : Nat) (u : Int) : OwnI (w.setCell ⟨g, j, none⟩ (.int .i64 u)) base g cap (xs.set j u) := by
  have := (World.ownsRow.stored h j (.int .i64 u)).1
  unfold OwnI
  rw [List.map_set, List.length_set]
  exact this

theorem OwnI.drewN {w : World} {base g cap : Nat} {xs : List Int} (h : OwnI w base g cap xs) (q : Nat) : OwnI (w.drewN q) base g cap xs := by
  obtain ⟨h1, h2⟩ := h
  exact ⟨h1, h2⟩

set_option maxHeartbeats 1000000 in
set_option maxRecDepth 100000 in
theorem clone_any (a : Option Addr) (c : Nat) (xs : List Int) (w : World) (h0 : 0 < xs.length) (hbig : xs.length * 8 ≤ 140737488355328) (hx : RdI w a xs) :
    Calls Try.prog 50 #[.slice a xs.length c] w fun e w' => ∃ g cap, e = .returned (.slice (some ⟨g, 0, none⟩) xs.length cap) ∧ OwnI w' w.heap.size g cap xs ∧ Below w.heap.size w w' := by
  obtain ⟨i0, hi, hz0, hz1, hz2⟩ := info_parts (show (Try.prog.info? 3).map (fun i => (i.zero, i.size, i.bytes)) = some (some (.int .i64 0), 1, 8) by kernel_rfl)
  have q22 : ∀ (w : World) (a : Option Addr) (n c n' c' : Nat), (binOp .eql 35 (.slice a n c) (.slice none n' c')).run Try.prog w = .ok (.bool a.isNone) w := fun w a n c n' c' => Lib.run_eql_slice_nil w _ _ a n c n' c' Try.underlying35
  obtain ⟨b, off, rfl, _⟩ := hx 0 h0
  have A := hid hx
  clear hx
  go_enter Try.func50, Try.ntmps50
  go_wp2_with (at_builtin; refine wpList_append_own _ rfl _ _ 35 rfl w.heap.size 3 i0 (.int .i64 0) 1 8 Try.underlying35 hi hz0 hz1 hz2 rfl (by decide) _ _ _ rfl (World.ownsRow_made w #[] 0 (Nat.le_refl _) (Nat.zero_le _) rfl) ⟨b, off, none⟩ xs.length c (xs.map (Value.int .i64)) rfl ?qc1 ?qc2 ?qc3 ?qc4 ?qc5 ?qc6 ?_)
  case qc1 => simp
  case qc2 =>
    intro j u hj
    have hjn : j < xs.length := by
      have := (List.getElem?_eq_some_iff.1 hj).1
      simpa using this
    obtain ⟨b', off', he, hc⟩ := A.out j hjn
    simp only [Option.some.injEq, Addr.mk.injEq, and_true] at he
    obtain ⟨rfl, rfl⟩ := he
    rw [Addr.add_lit]
    refine Lib.cell?_alloc_some _ ?_
    rw [hc]
    simpa [hjn] using hj
  case qc3 => intro u hu; obtain ⟨x, _, rfl⟩ := List.mem_map.1 hu; rfl
  case qc4 => unfold maxLen; omega
  case qc5 => omega
  case qc6 => simp
  intro v' w1 hown hgrow hnil
  have hown2 : w1.ownsRow w.heap.size 3 1 v' xs.length (xs.map (Value.int .i64)) := by simpa using hown
  obtain ⟨g, cap, rfl, ho⟩ := OwnI.of_row hown2 h0
  have HO := hid ho
  clear ho hown hown2 hnil
  have HB := hid (((Below.refl _ w).alloc (Nat.le_refl _) _).grown hgrow (by simp) (by intro k hk; simp [Value.ownBlock] at hk; omega))
  clear hgrow
  go_wp2
  go_ret
  exact ⟨g, cap, rfl, HO.out, HB.out⟩

set_option maxHeartbeats 400000 in
theorem digitAt1_any (base g cap bd ba : Nat) (xs : List Int) (d : Int) (i : Nat) (w : World) (ho : OwnI w base g cap xs) (hi : i < xs.length) (hd : w.cell? ⟨bd, 0, none⟩ = some (.int .i64 d)) (ha : w.cell? ⟨ba, 0, none⟩ = some (.int .i64 i)) :
    Calls Try.prog 49 #[.slice (some ⟨g, 0, none⟩) xs.length cap, .pointer (some ⟨bd, 0, none⟩), .pointer (some ⟨ba, 0, none⟩)] w fun e w' => e = .returned (.tuple #[]) ∧ w' = w.setCell ⟨g, i, none⟩ (.int .i64 d) := by
  obtain ⟨b', off', he, hc⟩ := ho.rd i hi
  simp only [Option.some.injEq, Addr.mk.injEq, and_true] at he
  obtain ⟨rfl, rfl⟩ := he
  rw [Nat.zero_add] at hc
  have hf := World.ownsRow.frozenAt ho i
  clear ho
  go_enter Try.func49, Try.ntmps49
  go_wp2
  go_end0
  exact ⟨rfl, rfl⟩

set_option maxHeartbeats 1000000 in
theorem swaps1_any (base g cap bi : Nat) (xs : List Int) (i : Nat) (w : World) (ho : OwnI w base g cap xs) (hi : i + 1 < xs.length) (hm : xs.length ≤ maxLen) (hne : bi ≠ g) (ha : w.cell? ⟨bi, 0, none⟩ = some (.int .i64 i)) :
    Calls Try.prog 39 #[.slice (some ⟨g, 0, none⟩) xs.length cap, .pointer (some ⟨bi, 0, none⟩)] w fun e w' => e = .returned (.tuple #[]) ∧ Same w' ((w.setCell ⟨g, i, none⟩ (.int .i64 xs[i + 1])).setCell ⟨g, i + 1, none⟩ (.int .i64 xs[i])) := by
  obtain ⟨b', off', he, hc⟩ := ho.rd i (by omega)
  simp only [Option.some.injEq, Addr.mk.injEq, and_true] at he
  obtain ⟨rfl, rfl⟩ := he
  obtain ⟨b', off', he, hc'⟩ := ho.rd (i + 1) (by omega)
  simp only [Option.some.injEq, Addr.mk.injEq, and_true] at he
  obtain ⟨rfl, rfl⟩ := he
  rw [Nat.zero_add] at hc hc'
  have hf := World.ownsRow.frozenAt ho i
  have hf' := World.ownsRow.frozenAt ho (i + 1)
  unfold maxLen at hm
  clear ho
  generalize xs[i] = x at *
  generalize xs[i + 1] = y at *
  have hc1 : ∀ v, (w.setCell ⟨g, i, none⟩ v).cell? ⟨bi, 0, none⟩ = some (.int .i64 i) := fun v => by
    rw [← ha]; exact World.cell?_of_block (Below.heap_setCell _ _ _ _ hne)
  have h1 : (0 : Int) ≤ (i : Int) ∧ (i : Int) < (xs.length : Int) := by omega
  have h2 : (0 : Int) ≤ (i : Int) + 1 ∧ (i : Int) + 1 < (xs.length : Int) := by omega
  go_enter Try.func39, Try.ntmps39
  go_wp2
  go_region
  all_goals (try go_wp2)
  all_goals go_end0
  all_goals exact ⟨rfl, rfl, rfl, rfl, rfl⟩

end Go.Proofs.Ytlpdlnefgjmgmaa
