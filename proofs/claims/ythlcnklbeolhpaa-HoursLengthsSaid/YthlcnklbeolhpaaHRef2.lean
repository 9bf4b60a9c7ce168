/- Package tuscheref07: the walk of sums. -/
import Derived.Test.YthlcnklbeolhpaaHRef1
import Derived.BigRegion
import Derived.RegionTactic
namespace Go.Proofs.Ythlcnklbeolhpaa
open Go.RowKit

/-- Sums, while they are made. -/
structure H.SS (w0 wr : World) (ga gm m n : Nat) (A M : Nat → Int) : Prop where
  ra : wr.rowIs ga 3 m (fun i => .int .i64 (A i))
  rm : wr.rowIs gm 3 n (fun i => .int .i64 (M i))
  ne : ga ≠ gm
  la : w0.heap.size ≤ ga
  lm : w0.heap.size ≤ gm
  below : Below w0.heap.size w0 wr
theorem below_drew {B : Nat} {w a : World} (h : Below B w a) : Below B w a.drew := below_drewN h 1
theorem rowIs_drew {w : World} {b n : Nat} {t : TypeId} {f : Nat → Value} (h : w.rowIs b t n f) : w.drew.rowIs b t n f := h.of_block rfl
theorem H.SS.setA {w0 wr : World} {ga gm m n : Nat} {A M : Nat → Int} (h : H.SS w0 wr ga gm m n A M) (k : Nat) (v : Int) : H.SS w0 (wr.setCell ⟨ga, k, none⟩ (.int .i64 v)) ga gm m n (fun i => if i = k then v else A i) M :=
  ⟨(h.ra.set k (.int .i64 v)).congr (fun i _ => by by_cases e : i = k <;> simp [e]), h.rm.of_block (Below.heap_setCell _ _ _ _ h.ne.symm), h.ne, h.la, h.lm, h.below.setCell (p := ⟨ga, k, none⟩) h.la _⟩
theorem H.SS.setM {w0 wr : World} {ga gm m n : Nat} {A M : Nat → Int} (h : H.SS w0 wr ga gm m n A M) (k : Nat) (v : Int) : H.SS w0 (wr.setCell ⟨gm, k, none⟩ (.int .i64 v)) ga gm m n A (fun i => if i = k then v else M i) :=
  ⟨h.ra.of_block (Below.heap_setCell _ _ _ _ h.ne), (h.rm.set k (.int .i64 v)).congr (fun i _ => by by_cases e : i = k <;> simp [e]), h.ne, h.la, h.lm, h.below.setCell (p := ⟨gm, k, none⟩) h.lm _⟩
theorem H.SS.drew {w0 wr : World} {ga gm m n : Nat} {A M : Nat → Int} (h : H.SS w0 wr ga gm m n A M) : H.SS w0 wr.drew ga gm m n A M :=
  ⟨rowIs_drew h.ra, rowIs_drew h.rm, h.ne, h.la, h.lm, below_drew h.below⟩
theorem H.SS.congr {w0 wr : World} {ga gm m n : Nat} {A M A' M' : Nat → Int} (h : H.SS w0 wr ga gm m n A M) (h1 : ∀ i, i < m → A' i = A i) (h2 : ∀ i, i < n → M' i = M i) : H.SS w0 wr ga gm m n A' M' :=
  ⟨h.ra.congr (fun i hi => by rw [h1 i hi]), h.rm.congr (fun i hi => by rw [h2 i hi]), h.ne, h.la, h.lm, h.below⟩
theorem H.SS.start1 (w : World) (m n : Nat) : H.SS w ((w.alloc (.cells (madeCells #[.int .i64 0] m) 3)).alloc (.cells (madeCells #[.int .i64 0] n) 3)).drew w.heap.size (w.heap.size + 1) m n (fun _ => 0) (fun _ => 0) := by
  refine H.SS.drew ⟨?_, ?_, by omega, Nat.le_refl _, by omega, ((Below.refl _ _).alloc (Nat.le_refl _) _).alloc (by simp) _⟩
  · exact World.rowIs.alloc ((World.rowIs_made w (.int .i64 0) m 3).congr (fun j _ => by simp)) _
  · have := (World.rowIs_made (w.alloc (.cells (madeCells #[.int .i64 0] m) 3)) (.int .i64 0) n 3)
    rw [show (w.alloc (.cells (madeCells #[.int .i64 0] m) 3)).heap.size = w.heap.size + 1 by simp] at this
    exact this.congr (fun j _ => by simp)
theorem H.SS.swap {w0 wr : World} {ga gm m n : Nat} {A M : Nat → Int} (h : H.SS w0 wr ga gm m n A M) : H.SS w0 wr gm ga n m M A := ⟨h.rm, h.ra, h.ne.symm, h.lm, h.la, h.below⟩
/-- The sums of the artists, behind k rows and j hours of the next one. -/
def H.rA (T : List (List Int)) (k j i : Nat) : Int := if i < k then H.sum (T.getD i []) else if i = k then H.sum ((T.getD i []).take j) else 0
def H.rM (T : List (List Int)) (k j i : Nat) : Int := H.sum ((T.map fun r => r.getD i 0).take k) + if i < j then (T.getD k []).getD i 0 else 0
def H.rT (T : List (List Int)) (k j : Nat) : Int := H.sum ((T.map H.sum).take k) + H.sum ((T.getD k []).take j)

theorem H.getD_row {T : List (List Int)} {k : Nat} (h : k < T.length) : T.getD k [] = T[k] := by simp only [List.getD, List.getElem?_eq_getElem h, Option.getD_some]
theorem H.getD_at {l : List Int} {k : Nat} (h : k < l.length) : l.getD k 0 = l[k] := by simp only [List.getD, List.getElem?_eq_getElem h, Option.getD_some]
theorem H.rA_step {T : List (List Int)} {k j : Nat} (hk : k < T.length) (hj : j < T[k].length) (i : Nat) : (if i = k then H.rA T k j k + T[k][j] else H.rA T k j i) = H.rA T k (j + 1) i := by
  unfold H.rA
  by_cases e : i = k
  · subst e
    rw [if_pos rfl, if_neg (by omega), if_pos rfl, if_neg (by omega), if_pos rfl, H.getD_row hk, H.sum_take hj]
  · rw [if_neg e, if_neg e, if_neg e]
theorem H.rM_step {T : List (List Int)} {k j : Nat} (hk : k < T.length) (hj : j < T[k].length) (i : Nat) : (if i = j then H.rM T k j j + T[k][j] else H.rM T k j i) = H.rM T k (j + 1) i := by
  unfold H.rM
  by_cases e : i = j
  · subst e
    rw [if_pos rfl, if_neg (by omega), if_pos (by omega), H.getD_row hk, H.getD_at hj]
    omega
  · rw [if_neg e]
    by_cases h : i < j
    · rw [if_pos h, if_pos (by omega)]
    · rw [if_neg h, if_neg (by omega)]
theorem H.rT_step {T : List (List Int)} {k j : Nat} (hk : k < T.length) (hj : j < T[k].length) : H.rT T k j + T[k][j] = H.rT T k (j + 1) := by
  unfold H.rT
  rw [H.getD_row hk, H.sum_take hj]
  omega
theorem H.rA_end {T : List (List Int)} {k : Nat} (hk : k < T.length) (i : Nat) : H.rA T (k + 1) 0 i = H.rA T k T[k].length i := by
  unfold H.rA
  by_cases h : i < k
  · rw [if_pos (by omega), if_pos h]
  · by_cases e : i = k
    · subst e
      rw [if_pos (by omega), if_neg (by omega), if_pos rfl, H.getD_row hk, List.take_length]
    · rw [if_neg (by omega), if_neg h, if_neg e]
      split
      · rfl
      · rfl
theorem H.rM_end {T : List (List Int)} {k : Nat} (hk : k < T.length) (i : Nat) : H.rM T (k + 1) 0 i = H.rM T k T[k].length i := by
  unfold H.rM
  rw [if_neg (by omega), H.sum_take (l := T.map fun r => r.getD i 0) (by simpa using hk), List.getElem_map, H.getD_row hk]
  by_cases h : i < T[k].length
  · rw [if_pos h]; omega
  · rw [if_neg h, List.getD_eq_getElem?_getD, List.getElem?_eq_none (by omega)]
    simp
theorem H.rT_end {T : List (List Int)} {k : Nat} (hk : k < T.length) : H.rT T k T[k].length = H.rT T (k + 1) 0 := by
  unfold H.rT
  rw [H.sum_take (l := T.map H.sum) (by simpa using hk), List.getElem_map, H.getD_row hk, List.take_length, List.take_zero]
  simp [H.sum]
theorem H.rA_last (T : List (List Int)) {i : Nat} (h : i < T.length) : H.rA T T.length 0 i = (H.rows T)[i]'(by unfold H.rows; simpa using h) := by
  unfold H.rA H.rows
  rw [if_pos h, H.getD_row h, List.getElem_map]
theorem H.rM_last (T : List (List Int)) {i : Nat} (h : i < H.wid T) : H.rM T T.length 0 i = (H.cols T)[i]'(by unfold H.cols; simpa using h) := by
  unfold H.rM H.cols H.col
  rw [if_neg (by omega), List.take_of_length_le (by simp)]
  simp
theorem H.rT_last (T : List (List Int)) : H.rT T T.length 0 = H.tot T := by
  unfold H.rT H.tot
  rw [List.take_of_length_le (by simp), List.take_zero]
  simp [H.sum]
theorem H.rA_bd {T : List (List Int)} (hok : H.Ok T) {k j : Nat} (hk : k < T.length) : 0 ≤ H.rA T k j k ∧ H.rA T k j k ≤ 1000 := by
  unfold H.rA
  rw [if_neg (by omega), if_pos rfl, H.getD_row hk]
  have := H.sum_bdk (n := 6) (by decide) (hok.hrs _ (List.getElem_mem hk)) (by rw [hok.row _ (List.getElem_mem hk)]; exact hok.n6) j
  omega
theorem H.rM_bd {T : List (List Int)} (hok : H.Ok T) (k j : Nat) : 0 ≤ H.rM T k j j ∧ H.rM T k j j ≤ 1000 := by
  unfold H.rM
  rw [if_neg (by omega)]
  have := hok.colsum j k
  omega
theorem H.rT_bd {T : List (List Int)} (hok : H.Ok T) {k j : Nat} (hk : k < T.length) : 0 ≤ H.rT T k j ∧ H.rT T k j ≤ 3000 := by
  unfold H.rT
  rw [H.getD_row hk]
  have h1 := hok.totsum k
  have h2 := H.sum_bdk (n := 6) (by decide) (hok.hrs _ (List.getElem_mem hk)) (by rw [hok.row _ (List.getElem_mem hk)]; exact hok.n6) j
  omega
theorem RdI.of_row {w : World} {g n : Nat} {f : Nat → Value} {xs : List Int} (h : w.rowIs g 3 n f) (hn : xs.length = n) (hf : ∀ i (hi : i < xs.length), f i = .int .i64 xs[i]) : RdI w (some ⟨g, 0, none⟩) xs := fun k hk => by
  refine ⟨g, 0, rfl, ?_⟩
  rw [Nat.zero_add, h.cell (i := k) (by omega), hf k hk]
theorem ret_sm {a1 a2 : Option Addr} {c1 c2 n1 n2 m1 m2 : Nat} {s t : Int} (h1 : m1 = n1) (h2 : m2 = n2) (h3 : s = t) : Ending.returned (.tuple #[.slice a1 n1 c1, .slice a2 n2 c2, .int .i64 s]) = .returned (.tuple #[.slice a1 m1 c1, .slice a2 m2 c2, .int .i64 t]) := by rw [h1, h2, h3]
/-- What sums returns. -/
def H.Sm3 (T : List (List Int)) (w : World) (e : Ending) (w' : World) : Prop := ∃ a1 c1 a2 c2, e = .returned (.tuple #[.slice a1 (H.rows T).length c1, .slice a2 (H.cols T).length c2, .int .i64 (H.tot T)]) ∧ RdI w' a1 (H.rows T) ∧ RdI w' a2 (H.cols T) ∧ Below w.heap.size w w'

set_option maxHeartbeats 4000000 in
set_option maxRecDepth 100000 in
theorem refsums_any (a : Option Addr) (c : Nat) (T : List (List Int)) (w : World) (hok : H.Ok T) (hx : RdM w a T) :
    Calls Try.prog 55 #[.slice a T.length c] w (H.Sm3 T w) := by
  have h6 := hok.m6
  have h1 := hok.m1
  have n6 := hok.n6
  have h01 : 0 < T.length := by omega
  have HWD := hid (H.wid_eq h01)
  have HLN := hid (fun k (h : k < T.length) => hok.row _ (List.getElem_mem h))
  obtain ⟨b, off, r0, c0, rfl, q0, _⟩ := hx 0 h01
  rw [← HWD.out] at q0
  simp only [Nat.add_zero] at q0
  have HX := hid hx
  clear hx
  have h00 : (0 : Int) < (T.length : Int) := by omega
  have h03 : (0 : Int) ≤ (T.length : Int) ∧ (0 : Int) ≤ (H.wid T : Int) := by omega
  have q1 : ∀ o, (w.alloc o).cell? ⟨b, off, none⟩ = some (.slice r0 (H.wid T) c0) := fun o => cell_stays ((Below.refl _ _).alloc (Nat.le_refl _) o) (Nat.le_refl _) q0
  have hmk1 := run_make_row' (P := Try.prog) 27 3 (.int .i64 0) 8 Try.underlying27 (by kernel_rfl) rfl .i64 .i64 T.length (by omega) (by omega)
  have hmk2 := run_make_row' (P := Try.prog) 27 3 (.int .i64 0) 8 Try.underlying27 (by kernel_rfl) rfl .i64 .i64 (H.wid T) (by omega) (by omega)
  go_enter Try.func55, Try.ntmps55
  go_wp2
  go_region
  all_goals (try go_wp2)
  all_goals clear hmk1 hmk2 q0 q1
  have HST := hid (H.SS.start1 w T.length (H.wid T))
  generalize ((w.alloc (.cells (madeCells #[.int .i64 0] T.length) 3)).alloc (.cells (madeCells #[.int .i64 0] (H.wid T)) 3)).drew = ws at *
  generalize w.heap.size + 1 = gm at *
  generalize hga : w.heap.size = ga at *
  rotate_left
  have HST := hid (H.SS.start1 w (H.wid T) T.length).swap
  generalize ((w.alloc (.cells (madeCells #[.int .i64 0] (H.wid T)) 3)).alloc (.cells (madeCells #[.int .i64 0] T.length) 3)).drew = ws at *
  generalize w.heap.size + 1 = ga at *
  generalize hga : w.heap.size = gm at *
  rotate_left
  all_goals
    go_loopw [7, 8] (fun t i wr => ∃ k : Nat, k ≤ T.length ∧ i = .int .i64 k ∧ t = .int .i64 (H.rT T k 0) ∧ H.SS w wr ga gm T.length (H.wid T) (H.rA T k 0) (H.rM T k 0)) (fun _ i _ => T.length - (intOf i).toNat)
    case atStart =>
      refine ⟨0, Nat.zero_le _, rfl, rfl, HST.out.congr (fun i _ => ?_) (fun i _ => ?_)⟩
      · unfold H.rA; rw [if_neg (by omega), List.take_zero]; simp [H.sum]
      · unfold H.rM; simp [H.sum]
    case round =>
      obtain ⟨k, hk, rfl, rfl, hss⟩ := hrel
      have HS := hid hss
      clear hss HST
      by_cases hlt : k < T.length
      · have HTE := hid (H.rT_end hlt)
        have HAE := hid (H.rA_end hlt)
        have HME := hid (H.rM_end hlt)
        rw [HLN.out k hlt] at HTE HAE HME
        have HTS := hid (fun j (hj : j < T[k].length) => H.rT_step hlt hj)
        have HAS := hid (fun j (hj : j < T[k].length) => H.rA_step hlt hj)
        have HMS := hid (fun j (hj : j < T[k].length) => H.rM_step hlt hj)
        have HHR := hid (hok.hrs _ (List.getElem_mem hlt))
        have HBA := hid (fun j => H.rA_bd hok (j := j) hlt)
        have HBM := hid (fun j => H.rM_bd hok k j)
        have HBT := hid (fun j => H.rT_bd hok (j := j) hlt)
        obtain ⟨b', off', r, cr, he, hc0, hr0⟩ := HX.out k hlt
        simp only [Option.some.injEq, Addr.mk.injEq, and_true] at he
        obtain ⟨rfl, rfl⟩ := he
        rw [HLN.out k hlt] at hc0
        have HC0 := hid hc0
        have HR0 := hid hr0
        clear hc0 hr0
        go_wp2
        go_loopw [7, 9] (fun t i wr => ∃ j : Nat, j ≤ H.wid T ∧ i = .int .i64 j ∧ t = .int .i64 (H.rT T k j) ∧ H.SS w wr ga gm T.length (H.wid T) (H.rA T k j) (H.rM T k j)) (fun _ i _ => H.wid T - (intOf i).toNat)
        case atStart => exact ⟨0, Nat.zero_le _, rfl, rfl, HS.out⟩
        case round =>
          obtain ⟨j, hj, rfl, rfl, hss⟩ := hrel
          have hc := cell_stays hss.below (Nat.le_refl _) HC0.out
          have hix : (0 : Int) ≤ (k : Int) ∧ (k : Int) < (T.length : Int) := by omega
          by_cases hjl : j < H.wid T
          · have hjl2 : j < T[k].length := by rw [HLN.out k hlt]; exact hjl
            obtain ⟨b2, o2, rfl, c20⟩ := HR0.out j hjl2
            have HTS2 := hid (HTS.out j hjl2)
            have HAS2 := hid (HAS.out j hjl2)
            have HMS2 := hid (HMS.out j hjl2)
            have hxb := HHR.out _ (List.getElem_mem hjl2)
            have hba := HBA.out j
            have hbm := HBM.out j
            have hbt := HBT.out j
            have y0 := hss.ra.cell (i := k) hlt
            have f0 := hss.ra.frozen k
            generalize T[k][j] = x at *
            have hjx : (0 : Int) ≤ (j : Int) ∧ (j : Int) < (H.wid T : Int) := by omega
            have c2 := cell_stays hss.below (Nat.le_refl _) c20
            have HC2 := hid c20
            have HA2 := hid ((hss.setA k (H.rA T k j k + x)).drew.congr (A' := H.rA T k (j + 1)) (fun i _ => (HAS2.out i).symm) (fun _ _ => rfl))
            have hw1 : IntKind.i64.wrap (H.rA T k j k + x) = H.rA T k j k + x := IntWalk.i64_in _ (by omega)
            have hw2 : IntKind.i64.wrap (H.rM T k j j + x) = H.rM T k j j + x := IntWalk.i64_in _ (by omega)
            clear hss c20
            go_wp2
            go_region
            clear y0 f0 hc c2
            generalize (wr.setCell ⟨ga, k, none⟩ (.int .i64 (H.rA T k j k + x))).drew = w5 at *
            have hc := cell_stays HA2.out.below (Nat.le_refl _) HC0.out
            have c2 := cell_stays HA2.out.below (Nat.le_refl _) HC2.out
            have y0 := HA2.out.rm.cell (i := j) hjl
            have f0 := HA2.out.rm.frozen j
            have HA3 := hid ((HA2.out.setM j (H.rM T k j j + x)).drew.congr (M' := H.rM T k (j + 1)) (fun _ _ => rfl) (fun i _ => (HMS2.out i).symm))
            go_wp2
            go_region
            clear y0 f0 hc c2
            generalize (w5.setCell ⟨gm, j, none⟩ (.int .i64 (H.rM T k j j + x))).drew = w6 at *
            have hc := cell_stays HA3.out.below (Nat.le_refl _) HC0.out
            have c2 := cell_stays HA3.out.below (Nat.le_refl _) HC2.out
            go_wp2
            go_roundw
            case rel => exact ⟨j + 1, by omega, by go_num, by rw [← HTS2.out], HA3.out⟩
            case measure => simp [intOf]; omega
          · have hje : j = H.wid T := by omega
            subst hje
            have HS2 := hid (hss.congr (A' := H.rA T (k + 1) 0) (M' := H.rM T (k + 1) 0) (fun i _ => HAE.out i) (fun i _ => HME.out i))
            clear hss
            go_wp2
            go_roundw
            case rel => exact ⟨k + 1, by omega, by go_num, by rw [← HTE.out], HS2.out⟩
            case measure => simp [intOf]; omega
      · have hke : k = T.length := by omega
        subst hke
        have hra := hid (RdI.of_row (xs := H.rows T) HS.out.ra (by unfold H.rows; simp) (fun i hi => by rw [H.rA_last T (by unfold H.rows at hi; simpa using hi)]))
        have hrm := hid (RdI.of_row (xs := H.cols T) HS.out.rm (by unfold H.cols; simp) (fun i hi => by rw [H.rM_last T (by unfold H.cols at hi; simpa using hi)]))
        have HTL := hid (H.rT_last T)
        have HL1 : Hid ((H.rows T).length = T.length) := hid (by unfold H.rows; simp)
        have HL2 : Hid ((H.cols T).length = H.wid T) := hid (by unfold H.cols; simp)
        have HBE := hid HS.out.below
        go_wp2
        go_ret3
        exact ⟨_, _, _, _, ret_sm HL1.out HL2.out HTL.out, hra.out, hrm.out, HBE.out⟩
end Go.Proofs.Ythlcnklbeolhpaa
