/- Package tuschelaw07: the walk of HoursMore's closure: a work with some hours more. -/
import Derived.Test.YthlcnklbeolhpaaHBds
import Derived.BigRegion
import Derived.RegionTactic
namespace Go.Proofs.Ythlcnklbeolhpaa
open Go.RowKit

/-- Rows that are copied, up to s. -/
structure H.CP (w0 wr : World) (N m n : Nat) (E : Nat → Nat → Nat) (s : Nat) (av cv : Nat → Nat) : Prop where
  top : wr.rowIs N 27 m (fun j => if j < s then .slice (some ⟨av j, 0, none⟩) n (cv j) else .slice none 0 0)
  row : ∀ j, j < s → N < av j ∧ av j < wr.heap.size ∧ (∀ d, d < n → wr.cell? ⟨av j, d, none⟩ = some (.int .i64 (E j d))) ∧ ∀ d, wr.frozen? ⟨av j, d, none⟩ = false
  inj : ∀ i j, i < s → j < s → av i = av j → i = j
  lo : w0.heap.size ≤ N
  below : Below w0.heap.size w0 wr
theorem H.CP.start (w0 : World) (m n : Nat) (E : Nat → Nat → Nat) (av cv : Nat → Nat) : H.CP w0 (w0.alloc (.cells (madeCells #[.slice none 0 0] m) 27)) w0.heap.size m n E 0 av cv :=
  ⟨(World.rowIs_made w0 _ m 27).congr (fun j _ => by simp), fun j hj => absurd hj (Nat.not_lt_zero _), fun i j hi => absurd hi (Nat.not_lt_zero _), Nat.le_refl _, (Below.refl _ _).alloc (Nat.le_refl _) _⟩
theorem H.CP.step {w0 wr w2 : World} {N m n : Nat} {E : Nat → Nat → Nat} {s : Nat} {av cv : Nat → Nat} {v' : Value} (h : H.CP w0 wr N m n E s av cv) (hn : 0 < n) (hfar : ∀ q, q < wr.heap.size → w2.heap[q]? = wr.heap[q]?) (hbel : Below w0.heap.size w0 w2)
    (hown : w2.ownsRow wr.heap.size 3 1 v' n ((H.mrow E n s).map (Value.int .i64))) : ∃ g cap av' cv', v' = .slice (some ⟨g, 0, none⟩) n cap ∧ H.CP w0 (w2.setCell ⟨N, s, none⟩ (.slice (some ⟨g, 0, none⟩) n cap)) N m n E (s + 1) av' cv' := by
  have hr : RowI w2 wr.heap.size v' (H.mrow E n s) := by unfold RowI; rw [H.mrow_len]; exact hown
  obtain ⟨g, cap, rfl, hg1, hg2, hrd⟩ := hr.form (by rw [H.mrow_len]; exact hn)
  rw [H.mrow_len] at hr hown
  have hfz : ∀ d, w2.frozen? ⟨g, d, none⟩ = false := fun d => World.ownsRow.frozenAt hown d
  have hN : N < wr.heap.size := h.top.lt
  refine ⟨g, cap, fun j => if j = s then g else av j, fun j => if j = s then cap else cv j, by rw [H.mrow_len], ?_⟩
  have hsz : wr.heap.size ≤ w2.heap.size := by omega
  refine ⟨?_, fun j hj => ?_, fun i j hi hj e => ?_, h.lo, Below.setCell hbel (p := ⟨N, s, none⟩) h.lo _⟩
  · have ht2 := (h.top.of_block (w' := w2) (hfar N hN)).set s (.slice (some ⟨g, 0, none⟩) n cap)
    refine ht2.congr (fun j _ => ?_)
    by_cases e : j = s
    · subst e; simp
    · by_cases hlt : j < s
      · simp [hlt, e, show j < s + 1 by omega]
      · simp [hlt, e, show ¬ j < s + 1 by omega]
  · by_cases e : j = s
    · subst e
      simp only [if_true]
      refine ⟨by omega, by simpa using hg2, fun d hd => ?_, fun d => ?_⟩
      · rw [World.cell?_of_block (w := w2) (Below.heap_setCell _ _ _ _ (show g ≠ N by omega))]
        obtain ⟨b', off', he, hc⟩ := hrd d (by rw [H.mrow_len]; exact hd)
        simp only [Option.some.injEq, Addr.mk.injEq, and_true] at he
        obtain ⟨rfl, rfl⟩ := he
        rw [Nat.zero_add] at hc
        rw [hc]
        simp [H.mrow]
      · rw [World.frozen?_of_block (w := w2) (Below.heap_setCell _ _ _ _ (show g ≠ N by omega))]
        exact hfz d
    · simp only [if_neg e]
      obtain ⟨r1, r2, r3, r4⟩ := h.row j (by omega)
      have hb : (w2.setCell ⟨N, s, none⟩ (.slice (some ⟨g, 0, none⟩) n cap)).heap[av j]? = wr.heap[av j]? := by rw [Below.heap_setCell _ _ _ _ (show av j ≠ N by omega)]; exact hfar _ r2
      refine ⟨r1, by simp; omega, fun d hd => ?_, fun d => ?_⟩
      · rw [World.cell?_of_block (w := wr) hb]; exact r3 d hd
      · rw [World.frozen?_of_block (w := wr) hb]; exact r4 d
  · by_cases ei : i = s
    · by_cases ej : j = s
      · omega
      · simp only [if_pos ei, if_neg ej] at e
        have := (h.row j (by omega)).2.1
        omega
    · by_cases ej : j = s
      · simp only [if_neg ei, if_pos ej] at e
        have := (h.row i (by omega)).2.1
        omega
      · simp only [if_neg ei, if_neg ej] at e
        exact h.inj i j (by omega) (by omega) e
/-- Some hours more. -/
def H.plus (E : Nat → Nat → Nat) (i k r : Nat) (s d : Nat) : Nat := if s = i ∧ d = k then E s d + r else E s d
theorem H.CP.plus {w0 wr : World} {N m n : Nat} {E : Nat → Nat → Nat} {av cv : Nat → Nat} {i k r : Nat} (h : H.CP w0 wr N m n E m av cv) (hi : i < m) (hk : k < n) : RdM (wr.setCell ⟨av i, k, none⟩ (.int .i64 ((E i k : Int) + (r : Int)))) (some ⟨N, 0, none⟩) (H.mat (H.plus E i k r) m n) ∧ Below w0.heap.size w0 (wr.setCell ⟨av i, k, none⟩ (.int .i64 ((E i k : Int) + (r : Int)))) := by
  obtain ⟨q1, q2, q3, _⟩ := h.row i hi
  refine ⟨fun s hs => ?_, Below.setCell h.below (p := ⟨av i, k, none⟩) (show w0.heap.size ≤ av i by have := h.lo; omega) _⟩
  have hs' : s < m := by rwa [H.mat_len] at hs
  have e := H.mat_row (E := H.plus E i k r) (m := m) (n := n) hs
  refine ⟨N, 0, some ⟨av s, 0, none⟩, cv s, rfl, ?_, ?_⟩
  · rw [Nat.zero_add, World.cell?_of_block (w := wr) (Below.heap_setCell _ _ _ _ (show N ≠ av i by omega)), h.top.cell hs', if_pos hs', e, H.mrow_len]
  · rw [e]
    intro d hd
    have hd' : d < n := by rwa [H.mrow_len] at hd
    refine ⟨av s, 0, rfl, ?_⟩
    have e2 : (H.mrow (H.plus E i k r) n s)[d] = ((H.plus E i k r s d : Nat) : Int) := by simp [H.mrow]
    rw [Nat.zero_add, e2]
    obtain ⟨p1, p2, p3, _⟩ := h.row s hs'
    by_cases es : s = i
    · subst es
      by_cases ed : d = k
      · subst ed
        rw [World.cell?_setCell_same _ _ _ (p3 d hd')]
        unfold H.plus
        rw [if_pos ⟨rfl, rfl⟩]
        push_cast
        rfl
      · rw [World.cell?_setCell_other _ _ _ _ (fun e => ed (by injection e with _ e2; omega)), p3 d hd']
        unfold H.plus
        rw [if_neg (by omega)]
    · have hne : av s ≠ av i := fun e => es (h.inj s i hs' hi e)
      rw [World.cell?_of_block (w := wr) (Below.heap_setCell _ _ _ _ hne), p3 d hd']
      unfold H.plus
      rw [if_neg (by omega)]

set_option maxHeartbeats 4000000 in
set_option maxRecDepth 100000 in
theorem with_any (a : Option Addr) (c : Nat) (E : Nat → Nat → Nat) (m n i k r bw bi bk : Nat) (w : World) (hm : m ≤ 6) (hn1 : 1 ≤ n) (hn : n ≤ 6) (hi' : i < m) (hk : k < n) (hE : ∀ s d, E s d ≤ 1000) (hr : r ≤ 1000) (hx : RdM w a (H.mat E m n))
    (k1 : w.cell? ⟨bw, 0, none⟩ = some (.slice a m c)) (k2 : w.cell? ⟨bi, 0, none⟩ = some (.int .i64 i)) (k3 : w.cell? ⟨bk, 0, none⟩ = some (.int .i64 k)) :
    Calls Try.prog 45 #[.int .i64 r, .pointer (some ⟨bw, 0, none⟩), .pointer (some ⟨bi, 0, none⟩), .pointer (some ⟨bk, 0, none⟩)] w fun e w' => ∃ a1 c1, e = .returned (.slice a1 m c1) ∧ RdM w' a1 (H.mat (H.plus E i k r) m n) ∧ Below w.heap.size w w' := by
  obtain ⟨i0, hi, hz0, hz1, hz2⟩ := info_parts (show (Try.prog.info? 3).map (fun i => (i.zero, i.size, i.bytes)) = some (some (.int .i64 0), 1, 8) by kernel_rfl)
  have HX := hid hx
  have HK1 := hid k1
  have HK2 := hid k2
  have HK3 := hid k3
  have hmk := run_make_row' (P := Try.prog) 22 27 (.slice none 0 0) 24 Try.underlying22 (by kernel_rfl) rfl .i64 .i64 m (by omega) (by omega)
  have HST := hid (H.CP.start w m n E (fun _ => 0) (fun _ => 0))
  have q1 := cell_stays HST.out.below (Nat.le_refl _) k1
  clear hx
  go_enter Try.func45, Try.ntmps45
  go_wp2
  clear hmk k1 k2 k3 q1
  generalize w.alloc (.cells (madeCells #[.slice none 0 0] m) 27) = ws at *
  generalize hN : w.heap.size = N at *
  have HN := hid hN
  clear hN
  go_loopw [13] (fun i wr => ∃ (s : Nat) (av cv : Nat → Nat), s ≤ m ∧ i = .int .i64 s ∧ H.CP w wr N m n E s av cv) (fun i _ => m - (intOf i).toNat)
  case atStart => exact ⟨0, _, _, Nat.zero_le _, rfl, HST.out⟩
  case round =>
    obtain ⟨s, av, cv, hs, rfl, hcp⟩ := hrel
    have HC := hid hcp
    have c1 := cell_stays hcp.below (Nat.le_refl _) HK1.out
    by_cases hlt : s < m
    · have hsl : s < (H.mat E m n).length := by rw [H.mat_len]; exact hlt
      obtain ⟨b, off, r1, cr, rfl, hc, hrr⟩ := HX.out s hsl
      rw [H.mat_row hsl] at hc hrr
      rw [H.mrow_len] at hc
      obtain ⟨b2, o2, rfl, _⟩ := hrr 0 (by rw [H.mrow_len]; omega)
      have HRR := hid hrr
      have hcc := cell_stays hcp.below (Nat.le_refl _) hc
      have HB := hid hcp.below
      have hNl : N < wr.heap.size := hcp.top.lt
      have t1 := hcp.top.cell hlt
      have t2 := hcp.top.frozen s
      rw [if_neg (Nat.lt_irrefl _)] at t1
      have hix : (0 : Int) ≤ (s : Int) ∧ (s : Int) < (m : Int) := by omega
      have lb := World.block_lt_of_cell? _ _ hcc
      have lw := World.block_lt_of_cell? _ _ c1
      simp only at lb lw
      have HM1 : Hid (0 + n ≤ maxLen) := hid (by unfold maxLen; omega)
      have HM2 : Hid ((0 + n) * 8 ≤ 140737488355328) := hid (by omega)
      have HNB : Hid (∀ q, q < wr.heap.size → ∀ o : Obj, (wr.alloc o).heap[q]? = wr.heap[q]?) := hid (fun q hq o => Below.heap_alloc _ _ _ hq)
      clear hrr hc hcp
      go_wp2_with (at_builtin; refine wpList_append_own _ rfl _ _ 27 rfl wr.heap.size 3 i0 (.int .i64 0) 1 8 Try.underlying27 hi hz0 hz1 hz2 rfl (by decide) _ _ _ rfl (World.ownsRow_made wr #[] 0 (Nat.le_refl _) (Nat.zero_le _) rfl) ⟨b2, o2, none⟩ n cr ((H.mrow E n s).map (Value.int .i64)) rfl ?qc1 ?qc2 ?qc3 HM1.out HM2.out ?qc6 ?_)
      case qc1 => simp [H.mrow_len]
      case qc2 =>
        intro j u hj
        have hjn : j < (H.mrow E n s).length := by
          have := (List.getElem?_eq_some_iff.1 hj).1
          simpa using this
        obtain ⟨b', off', he, hc⟩ := HRR.out j hjn
        simp only [Option.some.injEq, Addr.mk.injEq, and_true] at he
        obtain ⟨rfl, rfl⟩ := he
        rw [Addr.add_lit]
        refine cell_stays (HB.out.alloc HB.out.size _) (Nat.le_refl _) ?_
        rw [hc]
        simpa [hjn] using hj
      case qc3 => intro u hu; obtain ⟨x, _, rfl⟩ := List.mem_map.1 hu; rfl
      case qc6 => simp
      intro v' w2 hown hgrow _
      have hown2 : w2.ownsRow wr.heap.size 3 1 v' n ((H.mrow E n s).map (Value.int .i64)) := by simpa using hown
      have hfar : ∀ q, q < wr.heap.size → w2.heap[q]? = wr.heap[q]? := fun q hq => by
        rw [hgrow.block q (by simp; omega) (fun e => by simp [Value.ownBlock] at e; omega)]
        exact HNB.out q hq _
      have hbel : Below w.heap.size w w2 := Below.grown (HB.out.alloc HB.out.size _) hgrow (by simp; have := HB.out.size; omega) (fun q hq => by simp [Value.ownBlock] at hq; have := HB.out.size; omega)
      obtain ⟨g, cap, av', cv', rfl, hcp2⟩ := HC.out.step (by omega) hfar hbel hown2
      have HC2 := hid hcp2
      have u1 : w2.cell? ⟨N, s, none⟩ = some (.slice none 0 0) := (World.cell?_of_block (hfar N hNl)).trans t1
      have u2 : w2.frozen? ⟨N, s, none⟩ = false := (World.frozen?_of_block (hfar N hNl)).trans t2
      clear hown hown2 hgrow hfar hbel hcp2 t1 t2 c1 hcc
      go_wp2
      go_roundw
      case rel => exact ⟨s + 1, av', cv', by omega, by go_num, HC2.out⟩
      case measure => simp [intOf]; omega
    · have hse : s = m := by omega
      subst hse
      obtain ⟨p1, p2, p3, p4⟩ := hcp.row i hi'
      have y0 := hcp.top.cell hi'
      rw [if_pos hi'] at y0
      have y1 := p3 k hk
      have y2 := p4 k
      have y3 := cell_stays hcp.below (Nat.le_refl _) HK2.out
      have y4 := cell_stays hcp.below (Nat.le_refl _) HK3.out
      have hei := hE i k
      have hix : (0 : Int) ≤ (i : Int) ∧ (i : Int) < (s : Int) := by omega
      have hkx : (0 : Int) ≤ (k : Int) ∧ (k : Int) < (n : Int) := by omega
      have hw1 : IntKind.i64.wrap ((E i k : Int) + (r : Int)) = (E i k : Int) + (r : Int) := IntWalk.i64_in _ (by omega)
      have HF := hid (hcp.plus (r := r) hi' hk)
      have lN : N ≠ av i := by omega
      clear hcp HC p1 p2 p3 p4
      go_wp2
      go_region
      all_goals (try go_wp2)
      all_goals
        go_ret
        exact ⟨_, _, rfl, HF.out.1.drewN' 1, below_drewN HF.out.2 1⟩
end Go.Proofs.Ythlcnklbeolhpaa
