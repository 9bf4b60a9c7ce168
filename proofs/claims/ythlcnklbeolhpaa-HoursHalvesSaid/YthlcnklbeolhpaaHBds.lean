/- Package tuschelaw07: the walks of bounds and bound. -/
import Derived.Test.YthlcnklbeolhpaaHMade
import Derived.Test.YthlcnklbeolhpaaHRef2
import Derived.Test.YthlcnklbeolhpaaHSht
namespace Go.Proofs.Ythlcnklbeolhpaa
open Go.RowKit

/-- A work of hours that may be more than they may be. -/
structure H.Dim (T : List (List Int)) : Prop where
  m1 : 1 ≤ T.length
  m6 : T.length ≤ 6
  n1 : 1 ≤ H.wid T
  n6 : H.wid T ≤ 6
  row : ∀ r ∈ T, r.length = H.wid T
  hrs : ∀ r ∈ T, ∀ x ∈ r, 0 ≤ x ∧ x ≤ 1000
theorem H.Ok.dim {T : List (List Int)} (h : H.Ok T) : H.Dim T := ⟨h.m1, h.m6, h.n1, h.n6, h.row, fun r hr x hx => by have := h.hrs r hr x hx; omega⟩
theorem H.Dim.rowk {T : List (List Int)} (h : H.Dim T) {i : Nat} (hi : i < T.length) (k : Nat) : 0 ≤ H.sum (T[i].take k) ∧ H.sum (T[i].take k) ≤ 6000 := by
  have := H.sum_bdk (n := 6) (by decide) (h.hrs _ (List.getElem_mem hi)) (by rw [h.row _ (List.getElem_mem hi)]; exact h.n6) k
  omega
theorem H.Dim.rowsum {T : List (List Int)} (h : H.Dim T) : ∀ r ∈ T, 0 ≤ H.sum r ∧ H.sum r ≤ 6000 := fun r hr => by
  obtain ⟨i, hi, rfl⟩ := List.getElem_of_mem hr
  have := h.rowk hi T[i].length
  rwa [List.take_length] at this
theorem H.Dim.colsum {T : List (List Int)} (h : H.Dim T) (j k : Nat) : 0 ≤ H.sum ((T.map fun r => r.getD j 0).take k) ∧ H.sum ((T.map fun r => r.getD j 0).take k) ≤ 6000 := by
  have := H.sum_bdk (b := 1000) (n := 6) (l := T.map fun r => r.getD j 0) (by decide) (fun x hx => by
    obtain ⟨r, hr, rfl⟩ := List.mem_map.1 hx
    exact H.getD_bd (by decide) (h.hrs r hr) j) (by simpa using h.m6) k
  omega
theorem H.Dim.totsum {T : List (List Int)} (h : H.Dim T) (k : Nat) : 0 ≤ H.sum ((T.map H.sum).take k) ∧ H.sum ((T.map H.sum).take k) ≤ 36000 := by
  have := H.sum_bdk (b := 6000) (n := 6) (l := T.map H.sum) (by decide) (fun x hx => by
    obtain ⟨r, hr, rfl⟩ := List.mem_map.1 hx
    exact h.rowsum r hr) (by simpa using h.m6) k
  omega
theorem H.Dim.tot_bd {T : List (List Int)} (h : H.Dim T) : 0 ≤ H.tot T ∧ H.tot T ≤ 36000 := by
  have := h.totsum T.length
  rwa [List.take_of_length_le (by simp)] at this
theorem H.Dim.rM_bd {T : List (List Int)} (h : H.Dim T) (k j : Nat) : 0 ≤ H.rM T k j j ∧ H.rM T k j j ≤ 6000 := by
  unfold H.rM
  rw [if_neg (by omega)]
  have := h.colsum j k
  omega

/-- Sums, while bounds makes them. -/
structure H.BS (w0 wr : World) (gm n : Nat) (M : Nat → Int) (v : Value) (R : List Int) : Prop where
  rm : wr.rowIs gm 3 n (fun i => .int .i64 (M i))
  own : RowI wr (gm + 1) v R
  lo : w0.heap.size ≤ gm
  below : Below w0.heap.size w0 wr
theorem H.BS.setM {w0 wr : World} {gm n : Nat} {M M' : Nat → Int} {v : Value} {R : List Int} (h : H.BS w0 wr gm n M v R) (k : Nat) (x : Int) (h2 : ∀ i, i < n → M' i = if i = k then x else M i) : H.BS w0 (wr.setCell ⟨gm, k, none⟩ (.int .i64 x)) gm n M' v R :=
  ⟨(h.rm.set k (.int .i64 x)).congr (fun i hi => by rw [h2 i hi]; by_cases e : i = k <;> simp [e]), h.own.off (Nat.lt_succ_self _) _ _, h.lo, h.below.setCell (p := ⟨gm, k, none⟩) h.lo _⟩
theorem H.BS.congr {w0 wr : World} {gm n : Nat} {M M' : Nat → Int} {v : Value} {R : List Int} (h : H.BS w0 wr gm n M v R) (h2 : ∀ i, i < n → M' i = M i) : H.BS w0 wr gm n M' v R :=
  ⟨h.rm.congr (fun i hi => by rw [h2 i hi]), h.own, h.lo, h.below⟩
theorem H.BS.push {w0 wr w9 : World} {gm n : Nat} {M : Nat → Int} {v v' : Value} {R : List Int} {x : Int} (h : H.BS w0 wr gm n M v R) (ho : w9.ownsRow (gm + 1) 3 1 v' (R.length + 1) (R.map (Value.int .i64) ++ [.int .i64 x])) (hg : (wr.alloc (.cells #[.int .i64 x] 3)).grownBy w9 v.ownBlock) : H.BS w0 w9 gm n M v' (R ++ [x]) := by
  have hlt := h.rm.lt
  have hne : v.ownBlock ≠ some gm := fun e => by have := (World.ownsRow.lt h.own gm e).1; omega
  refine ⟨?_, RowI.push ho, h.lo, Below.grown (h.below.alloc h.below.size _) hg (by simp; have := h.below.size; omega) (fun q hq => by have := (World.ownsRow.lt h.own q hq).1; have := h.lo; omega)⟩
  have h1 := World.rowIs.alloc h.rm (.cells #[.int .i64 x] 3)
  exact h1.of_block (hg.block gm h1.lt (fun e => hne e.symm))
/-- What bounds returns. -/
def H.Bds (T : List (List Int)) (w : World) (e : Ending) (w' : World) : Prop := ∃ v a2 c2, e = .returned (.tuple #[v, .slice a2 (H.cols T).length c2, .int .i64 (H.tot T)]) ∧ RowI w' w.heap.size v (H.rows T) ∧ RdI w' a2 (H.cols T) ∧ Below w.heap.size w w'
theorem ret_bds {a1 a2 : Option Addr} {c1 c2 n1 n2 m1 m2 : Nat} {s t : Int} (h1 : m1 = n1) (h2 : m2 = n2) (h3 : s = t) : Ending.returned (.tuple #[.slice a1 n1 c1, .slice a2 n2 c2, .int .i64 s]) = .returned (.tuple #[.slice a1 m1 c1, .slice a2 m2 c2, .int .i64 t]) := by rw [h1, h2, h3]

set_option maxHeartbeats 4000000 in
set_option maxRecDepth 100000 in
theorem bounds_any (a : Option Addr) (c : Nat) (T : List (List Int)) (w : World) (hok : H.Dim T) (hx : RdM w a T) :
    Calls Try.prog 42 #[.slice a T.length c] w (H.Bds T w) := by
  obtain ⟨i0, hi, hz0, hz1, hz2⟩ := info_parts (show (Try.prog.info? 3).map (fun i => (i.zero, i.size, i.bytes)) = some (some (.int .i64 0), 1, 8) by kernel_rfl)
  have h6 := hok.m6
  have h1 := hok.m1
  have n6 := hok.n6
  have h01 : 0 < T.length := by omega
  have HWD := hid (H.wid_eq h01)
  have HLN := hid (fun k (h : k < T.length) => hok.row _ (List.getElem_mem h))
  obtain ⟨b, off, r0, c0, rfl, q0, _⟩ := hx 0 h01
  rw [← HWD.out] at q0
  simp only [Nat.add_zero] at q0
  have HX := hid hx
  clear hx
  have h00 : (0 : Int) < (T.length : Int) := by omega
  have hmk := run_make_row' (P := Try.prog) 27 3 (.int .i64 0) 8 Try.underlying27 (by kernel_rfl) rfl .i64 .i64 (H.wid T) (by omega) (by omega)
  have HST : Hid (H.BS w (w.alloc (.cells (madeCells #[.int .i64 0] (H.wid T)) 3)) w.heap.size (H.wid T) (H.rM T 0 0) (.slice none 0 0) (H.rows (T.take 0))) := hid
    ⟨(World.rowIs_made w (.int .i64 0) (H.wid T) 3).congr (fun j _ => by simp [H.rM, H.sum]), RowI.nil _ _, Nat.le_refl _, (Below.refl _ _).alloc (Nat.le_refl _) _⟩
  have HRT : Hid (∀ k (h : k < T.length), H.rows (T.take (k + 1)) = H.rows (T.take k) ++ [H.sum T[k]]) := hid (fun k h => H.rows_take h)
  have HRL : Hid (∀ k, (H.rows (T.take k)).length ≤ 6) := hid (fun k => by unfold H.rows; rw [List.length_map, List.length_take]; omega)
  have HTT : Hid (∀ k (h : k < T.length), H.sum ((T.map H.sum).take (k + 1)) = H.sum ((T.map H.sum).take k) + H.sum T[k]) := hid (fun k h => by rw [H.sum_take (l := T.map H.sum) (by simpa using h), List.getElem_map])
  have HTB := hid (fun k => hok.totsum k)
  have HSB := hid (fun k (h : k < T.length) => hok.rowsum _ (List.getElem_mem h))
  go_enter Try.func42, Try.ntmps42
  go_wp2
  clear hmk q0
  generalize w.alloc (.cells (madeCells #[.int .i64 0] (H.wid T)) 3) = ws at *
  generalize hgm : w.heap.size = gm at *
  have HGM := hid hgm
  clear hgm
  go_loopw [2, 4, 17] (fun v t i wr => ∃ k : Nat, k ≤ T.length ∧ i = .int .i64 k ∧ t = .int .i64 (H.sum ((T.map H.sum).take k)) ∧ H.BS w wr gm (H.wid T) (H.rM T k 0) v (H.rows (T.take k))) (fun _ _ i _ => T.length - (intOf i).toNat)
  case atStart => exact ⟨0, Nat.zero_le _, rfl, by rw [List.take_zero]; rfl, HST.out⟩
  case round =>
    obtain ⟨k, hk, rfl, rfl, hss⟩ := hrel
    have HS := hid hss
    clear hss HST
    by_cases hlt : k < T.length
    · have HME := hid (H.rM_end hlt)
      rw [HLN.out k hlt] at HME
      have HMS := hid (fun j (hj : j < T[k].length) => H.rM_step hlt hj)
      have HHR := hid (hok.hrs _ (List.getElem_mem hlt))
      have HBM := hid (fun j => hok.rM_bd k j)
      have HRK := hid (fun j => hok.rowk hlt j)
      have HSK := hid (fun j (hj : j < T[k].length) => H.sum_take (l := T[k]) hj)
      have HSE : Hid (H.sum (T[k].take (H.wid T)) = H.sum T[k]) := hid (by rw [← HLN.out k hlt, List.take_length])
      have HRT2 := hid (HRT.out k hlt)
      have HRL2 := hid (HRL.out k)
      have HTT2 := hid (HTT.out k hlt)
      have htb := HTB.out k
      have hsb := HSB.out k hlt
      obtain ⟨b', off', r, cr, he, hc0, hr0⟩ := HX.out k hlt
      simp only [Option.some.injEq, Addr.mk.injEq, and_true] at he
      obtain ⟨rfl, rfl⟩ := he
      rw [HLN.out k hlt] at hc0
      have hc := cell_stays HS.out.below (Nat.le_refl _) hc0
      have HR0 := hid hr0
      have hix : (0 : Int) ≤ (k : Int) ∧ (k : Int) < (T.length : Int) := by omega
      clear hc0 hr0
      go_wp2
      clear hc
      go_loopw [7, 23] (fun t i wr2 => ∃ j : Nat, j ≤ H.wid T ∧ i = .int .i64 j ∧ t = .int .i64 (H.sum (T[k].take j)) ∧ H.BS w wr2 gm (H.wid T) (H.rM T k j) u2 (H.rows (T.take k))) (fun _ i _ => H.wid T - (intOf i).toNat)
      case atStart => exact ⟨0, Nat.zero_le _, rfl, by rw [List.take_zero]; rfl, HS.out⟩
      case round =>
        obtain ⟨j, hj, rfl, rfl, hss⟩ := hrel
        by_cases hjl : j < H.wid T
        · have hjl2 : j < T[k].length := by rw [HLN.out k hlt]; exact hjl
          obtain ⟨b2, o2, rfl, c20⟩ := HR0.out j hjl2
          have HMS2 := hid (HMS.out j hjl2)
          have HSK2 := hid (HSK.out j hjl2)
          have hxb := HHR.out _ (List.getElem_mem hjl2)
          have hbm := HBM.out j
          have hrk := HRK.out j
          have y0 := hss.rm.cell (i := j) hjl
          have f0 := hss.rm.frozen j
          have c2 := cell_stays hss.below (Nat.le_refl _) c20
          generalize T[k][j] = x at *
          have hjx : (0 : Int) ≤ (j : Int) ∧ (j : Int) < (H.wid T : Int) := by omega
          have hjy : (j : Int) < (T[k].length : Int) := by omega
          have HA2 := hid (hss.setM j (H.rM T k j j + x) (M' := H.rM T k (j + 1)) (fun i _ => (HMS2.out i).symm))
          generalize H.rM T k j j = z at *
          generalize H.sum (T[k].take j) = y at *
          clear hss c20
          go_wp2
          go_roundw
          case rel => exact ⟨j + 1, by omega, by go_num, by rw [HSK2.out], HA2.out⟩
          case measure => simp [intOf]; omega
        · have hje : j = H.wid T := by omega
          subst hje
          have HS2 := hid (hss.congr (M' := H.rM T (k + 1) 0) (fun i _ => HME.out i))
          clear hss
          rw [HSE.out]
          have HM1 : Hid ((H.rows (T.take k)).length + 1 ≤ maxLen) := hid (by have := HRL2.out; unfold maxLen; omega)
          have HM2 : Hid (((H.rows (T.take k)).length + 1) * 8 ≤ 140737488355328) := hid (by have := HRL2.out; omega)
          generalize H.sum T[k] = y at *
          generalize H.rows (T.take k) = F at *
          generalize H.sum ((T.map H.sum).take k) = z at *
          have HLL : Hid (gm + 1 ≤ (wr.alloc (.cells #[.int .i64 y] 3)).heap.size) := hid (by have := HS2.out.rm.lt; simp; omega)
          go_wp2_with (at_builtin; refine wpList_append_own _ rfl _ _ 27 rfl (gm + 1) 3 i0 (.int .i64 0) 1 8 Try.underlying27 hi hz0 hz1 hz2 rfl (by decide) _ _ _ rfl (World.ownsRow.alloc HS2.out.own _) ⟨wr.heap.size, 0, none⟩ 1 1 [.int .i64 y] rfl rfl ?pa ?pb HM1.out HM2.out ?pc ?_)
          case pa =>
            intro i u hi
            match i, hi with
            | 0, hi => simp at hi; subst hi; rw [show Addr.add ⟨wr.heap.size, 0, none⟩ 0 = ⟨wr.heap.size, 0, none⟩ from rfl, World.cell?_alloc_at _ _ _ _ rfl]; rfl
          case pb => intro u hu; simp at hu; subst hu; rfl
          case pc => exact HLL.out
          intro v' w9 hown' hgrow _
          have HO9 := hid (HS2.out.push hown' hgrow)
          rw [← HRT2.out] at HO9
          clear hown' hgrow
          go_wp2
          go_roundw
          case rel => exact ⟨k + 1, by omega, by go_num, by rw [HTT2.out], HO9.out⟩
          case measure => simp [intOf]; omega
    · have hke : k = T.length := by omega
      subst hke
      have hrm := hid (RdI.of_row (xs := H.cols T) HS.out.rm (by unfold H.cols; simp) (fun i hi => by rw [H.rM_last T (by unfold H.cols at hi; simpa using hi)]))
      have hown := HS.out.own
      rw [List.take_length] at hown
      obtain ⟨a9, c9, rfl, _⟩ := hown.rd
      have HOW := hid (hown.mono (lo' := w.heap.size) (by have := HGM.out; omega))
      have HL2 : Hid ((H.cols T).length = H.wid T) := hid (by unfold H.cols; simp)
      have HTL : Hid (H.sum ((T.map H.sum).take T.length) = H.tot T) := hid (by unfold H.tot; rw [List.take_of_length_le (by simp)])
      have HBE := hid HS.out.below
      clear hown
      go_wp2
      go_ret3
      exact ⟨_, _, _, ret_bds rfl HL2.out HTL.out, HOW.out, hrm.out, HBE.out⟩

set_option maxHeartbeats 2000000 in
set_option maxRecDepth 100000 in
theorem bound2_any (a : Option Addr) (c : Nat) (T : List (List Int)) (s : Int) (w : World) (hok : H.Dim T) (hs : 1 ≤ s) (hs6 : s ≤ 1000) (hx : RdM w a T) :
    Calls Try.prog 41 #[.slice a T.length c, .int .i64 s] w fun e w' => e = .returned (.int .i64 (H.sht T s)) ∧ Below w.heap.size w w' := by
  obtain ⟨i0, hi, hz0, hz1, hz2⟩ := info_parts (show (Try.prog.info? 3).map (fun i => (i.zero, i.size, i.bytes)) = some (some (.int .i64 0), 1, 8) by kernel_rfl)
  have HB := hid (bounds_any a c T w hok hx)
  have hT := hok.tot_bd
  have hq1 : (H.tot T + s - 1).tdiv s = H.ceil (H.tot T) s := Int.tdiv_eq_ediv_of_nonneg (by omega)
  have hq2 : (H.tot T + s - 1) / s = H.ceil (H.tot T) s := rfl
  have hcb := H.ceil_bd hT.1 hs
  have hs0 : ¬ s = 0 := by omega
  have HLR : Hid ((H.rows T).length ≤ 6 ∧ (H.cols T).length ≤ 6) := hid ⟨by have := hok.m6; unfold H.rows; simp; omega, by have := hok.n6; unfold H.cols; simp; omega⟩
  have HQ : Hid (H.sht T s = max (max (H.top (H.rows T)) (H.top (H.cols T))) (H.ceil (H.tot T) s)) := hid rfl
  have HAP := hid (H.top_append (H.rows T) (H.cols T))
  have HCL : Hid (0 < (H.cols T).length) := hid (by have := hok.n1; unfold H.cols; simp; omega)
  unfold H.Bds at HB
  clear hx hok
  generalize H.ceil (H.tot T) s = q at *
  generalize H.tot T = t at *
  generalize H.rows T = R at *
  generalize H.cols T = C at *
  go_enter Try.func41, Try.ntmps41
  go_wp2_with fail
  refine HB.out.mono ?_
  rintro e w1 ⟨v, a2, c2, rfl, hrow, hrc, hb⟩
  have HR := hid hrow
  have HC := hid hrc
  have HB1 := hid hb
  have HM1 : Hid (R.length + C.length ≤ maxLen) := hid (by have := HLR.out; unfold maxLen; omega)
  have HM2 : Hid ((R.length + C.length) * 8 ≤ 140737488355328) := hid (by have := HLR.out; omega)
  have hw1 : w.heap.size ≤ w1.heap.size := hb.size
  have hw2 : IntKind.i64.wrap (t + s) = t + s := IntWalk.i64_in _ (by omega)
  have hw3 : IntKind.i64.wrap (t + s - 1) = t + s - 1 := IntWalk.i64_in _ (by omega)
  have hw4 : IntKind.i64.wrap q = q := IntWalk.i64_in _ (by omega)
  obtain ⟨b2, o2, rfl, _⟩ := hrc 0 HCL.out
  clear hrow hrc hb
  go_wp2_with (at_builtin; refine wpList_append_own _ rfl _ _ 27 rfl w.heap.size 3 i0 (.int .i64 0) 1 8 Try.underlying27 hi hz0 hz1 hz2 rfl (by decide) _ _ _ rfl HR.out ⟨b2, o2, none⟩ C.length c2 (C.map (Value.int .i64)) rfl ?qc1 ?qc2 ?qc3 HM1.out HM2.out ?qc6 ?_)
  case qc1 => simp
  case qc2 =>
    intro j u hj
    have hjn : j < C.length := by
      have := (List.getElem?_eq_some_iff.1 hj).1
      simpa using this
    obtain ⟨b', off', he, hc⟩ := HC.out j hjn
    simp only [Option.some.injEq, Addr.mk.injEq, and_true] at he
    obtain ⟨rfl, rfl⟩ := he
    rw [Addr.add_lit, hc]
    simpa [hjn] using hj
  case qc3 => intro u hu; obtain ⟨x, _, rfl⟩ := List.mem_map.1 hu; rfl
  case qc6 => exact hw1
  intro v' w2 hown hgrow _
  have hown2 : RowI w2 w.heap.size v' (R ++ C) := by unfold RowI; rw [List.length_append, List.map_append]; exact hown
  have HB2 := hid (Below.grown HB1.out hgrow hw1 (fun q hq => (World.ownsRow.lt HR.out q hq).1))
  obtain ⟨a9, c9, rfl, hrd⟩ := hown2.rd
  have HRD := hid hrd
  clear hown hown2 hgrow hrd HR HC
  have hll : (R ++ C).length ≤ 12 := by rw [List.length_append]; have := HLR.out; omega
  have HTK := hid (fun k (h : k < (R ++ C).length) => H.top_take (l := R ++ C) h)
  rw [← HAP.out] at HQ
  rw [← List.length_append] at *
  generalize R ++ C = L at *
  go_wp2
  go_loop [8, 27] (fun m i => ∃ k : Nat, k ≤ L.length ∧ i = .int .i64 k ∧ m = .int .i64 (max (H.top (L.take k)) q)) (fun _ i => L.length - (intOf i).toNat)
  case atStart => exact ⟨0, Nat.zero_le _, rfl, by rw [List.take_zero]; exact congrArg (Value.int .i64) (by simp only [H.top]; omega)⟩
  case round =>
    obtain ⟨k, hk, rfl, rfl⟩ := hrel
    by_cases hlt : k < L.length
    · obtain ⟨b, off, rfl, hc⟩ := HRD.out k hlt
      have HT2 := hid (HTK.out k hlt)
      generalize L[k] = x at *
      generalize H.top (L.take k) = y at *
      have hix : (0 : Int) ≤ (k : Int) ∧ (k : Int) < (L.length : Int) := by omega
      have hm0 : ∃ z, max y q = z := ⟨_, rfl⟩
      obtain ⟨z, hz⟩ := hm0
      rw [hz]
      have HZ := hid hz
      clear hz
      go_wp2
      all_goals
        go_round
        case rel => exact ⟨k + 1, by omega, by go_num, by rw [HT2.out]; exact congrArg (Value.int .i64) (by have := HZ.out; omega)⟩
        case measure => simp [intOf]; omega
    · have hke : k = L.length := by omega
      subst hke
      have HE : Hid (max (H.top (L.take L.length)) q = H.sht T s) := hid (by rw [List.take_length, HQ.out])
      rw [HE.out]
      go_wp2
      go_ret
      exact ⟨rfl, HB2.out⟩
end Go.Proofs.Ythlcnklbeolhpaa
