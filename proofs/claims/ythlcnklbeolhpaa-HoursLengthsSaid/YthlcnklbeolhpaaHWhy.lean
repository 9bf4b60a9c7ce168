/- Package hours: the walks of Why and Bound. -/
import Derived.Test.YthlcnklbeolhpaaHSht
namespace Go.Proofs.Ythlcnklbeolhpaa
open Go.RowKit

/-- The first reason whose bound is the shortest length. -/
def H.why (T : List (List Int)) (s : Int) : Rs := ((H.rsn T).find? fun r => H.bnd T s r.1 r.2 == H.sht T s).getD (0, 0)
def H.whyE (T : List (List Int)) (s : Int) : Rs := if H.chks T s = 0 then H.why T s else (0, 0)
theorem H.why_at {T : List (List Int)} {s : Int} {k : Nat} (h : k < (H.rsn T).length) (h1 : H.bnd T s (H.rsn T)[k].1 (H.rsn T)[k].2 = H.sht T s) (h2 : ∀ j (h : j < (H.rsn T).length), j < k → H.bnd T s (H.rsn T)[j].1 (H.rsn T)[j].2 < H.sht T s) : H.why T s = (H.rsn T)[k] := by
  unfold H.why
  rw [List.find?_eq_some_iff_getElem.2 ⟨by simpa using h1, k, h, rfl, fun j hj => by have := h2 j (by omega) hj; simp; omega⟩]
  rfl
theorem H.why_ex {T : List (List Int)} {s : Int} (hok : H.Ok T) (hs : 1 ≤ s) {k : Nat} (hk : k ≤ (H.rsn T).length) (h2 : ∀ j (h : j < (H.rsn T).length), j < k → H.bnd T s (H.rsn T)[j].1 (H.rsn T)[j].2 < H.sht T s) : k < (H.rsn T).length := by
  by_cases e : k < (H.rsn T).length
  · exact e
  · have hm := H.top_mem (l := H.bnds T s) (fun x hx => (H.bnds_bd hok hs x hx).1) (by rw [H.bnds_eq]; simp)
    rw [H.sht_eq hok hs] at hm
    obtain ⟨j, hj, ej⟩ := List.getElem_of_mem hm
    have hj' : j < (H.rsn T).length := by unfold H.bnds at hj; simpa using hj
    rw [H.bnds_at hj'] at ej
    have := h2 j hj' (by omega)
    omega
theorem H.bnd_le {T : List (List Int)} {s : Int} (hok : H.Ok T) (hs : 1 ≤ s) {k : Nat} (h : k < (H.rsn T).length) : H.bnd T s (H.rsn T)[k].1 (H.rsn T)[k].2 ≤ H.sht T s := by
  rw [← H.sht_eq hok hs, ← H.bnds_at h]
  exact H.le_top (List.getElem_mem _)
theorem cellsR {W : World} {g : Nat} {x y : Value} {f : Nat → Value} (h : W.rowIs g 24 2 f) :
    ((W.setCell ⟨g, 0, none⟩ x).setCell ⟨g, 1, none⟩ y).cell? ⟨g, 0, none⟩ = some x ∧ ((W.setCell ⟨g, 0, none⟩ x).setCell ⟨g, 1, none⟩ y).cell? ⟨g, 1, none⟩ = some y := by
  have h2 := (h.set 0 x).set 1 y
  refine ⟨?_, ?_⟩
  · simpa using h2.cell (i := 0) (by omega)
  · simpa using h2.cell (i := 1) (by omega)

set_option maxHeartbeats 2000000 in
set_option maxRecDepth 100000 in
theorem why_any (a : Option Addr) (c : Nat) (T : List (List Int)) (s : Int) (w : World) (hm : T.length ≤ maxLen) (hl : ∀ i (h : i < T.length), T[i].length ≤ maxLen) (hx : RdM w a T) :
    Calls Try.prog 21 #[.slice a T.length c, .int .i64 s] w fun e w' => e = .returned (.tuple #[.agg #[.int .i64 (H.whyE T s).1, .int .i64 (H.whyE T s).2], .int .i64 (H.chks T s)]) ∧ Below w.heap.size w w' := by
  have hb0 : Below w.heap.size w (w.alloc (.cells #[.int .i64 0, .int .i64 0] 24)) := (Below.refl _ _).alloc (Nat.le_refl _) _
  have HB0 := hid hb0
  have hx0 := hx.stays hb0
  have HOV : Hid ((w.alloc (.cells #[.int .i64 0, .int .i64 0] 24)).rowIs w.heap.size 24 2 (fun _ => .int .i64 0)) := hid (World.rowIs_alloc w #[.int .i64 0, .int .i64 0] 24 (fun _ => .int .i64 0) (fun i hi => by
    have h : i < 2 := hi
    have h2 : i = 0 ∨ i = 1 := by omega
    rcases h2 with rfl | rfl <;> rfl))
  generalize hw0 : w.alloc (.cells #[.int .i64 0, .int .i64 0] 24) = w0 at *
  have HW0 := hid hw0
  clear hw0
  have HC := hid (checkSeats_any a c T s w0 hm hl hx0)
  by_cases h : H.chks T s = 0
  · obtain ⟨hok, hs, _⟩ := H.chks_ok h
    have HE : Hid (H.whyE T s = H.why T s) := hid (by unfold H.whyE; rw [if_pos h])
    rw [HE.out]
    clear HE
    have HR := hid (reasonsOf_any a c T w0 hok hx0)
    have HS := hid (fun W (hW : Below w0.heap.size w0 W) => shortest_any a c T s W hok hs (hx0.stays hW))
    have HBD := hid (fun kd ix W (hr : H.OkR T kd ix) (hW : Below w0.heap.size w0 W) => boundOf_any a c T s kd ix W hok hs hr (hx0.stays hW))
    have HAT := hid (fun k h h1 h2 => H.why_at (T := T) (s := s) (k := k) h h1 h2)
    have HEX := hid (fun k hk h2 => H.why_ex (T := T) (s := s) hok hs (k := k) hk h2)
    have HLE := hid (fun k h => H.bnd_le (T := T) (s := s) hok hs (k := k) h)
    have HRO := hid (H.rsn_ok (T := T))
    have hrl := H.rsn_len hok
    rw [h] at HC ⊢
    clear h hm hl hx hx0 hok hb0
    generalize H.sht T s = q at *
    generalize H.rsn T = rs at *
    generalize H.why T s = wy at *
    go_enter Try.func21, Try.ntmps21
    go_wp2_with fail
    rw [HW0.out]
    refine HC.out.mono ?_
    rintro e w' ⟨rfl, rfl⟩
    go_wp2_with fail
    refine HR.out.mono ?_
    rintro e w1 ⟨v, rfl, hrow, hb⟩
    obtain ⟨ra, rc, rfl, hrd⟩ := hrow.rd
    have HB1 := hid hb
    have HS1 := hid (HS.out w1 hb)
    have HRD := hid hrd
    clear hrow hb hrd HR HS HC
    go_wp2_with fail
    refine HS1.out.mono ?_
    rintro e w2 ⟨rfl, hb⟩
    have HB2 := hid (HB1.out.trans (hb.mono HB1.out.size))
    have HRD2 := hid (HRD.out.stays hb)
    clear hb HS1 HRD HB1
    go_wp2
    go_loopw [9] (fun i wr => ∃ k : Nat, k ≤ rs.length ∧ i = .int .i64 k ∧ (∀ j (h : j < rs.length), j < k → H.bnd T s rs[j].1 rs[j].2 < q) ∧ Below w2.heap.size w2 wr) (fun i _ => rs.length - (intOf i).toNat)
    case atStart => exact ⟨0, Nat.zero_le _, rfl, fun j _ h => absurd h (Nat.not_lt_zero _), Below.refl _ _⟩
    case round =>
      obtain ⟨k, hk, rfl, hp, hb⟩ := hrel
      have hlt := HEX.out k hk hp
      have HP := hid hp
      have HBW := hid hb
      have HB3 := hid (HB2.out.trans (hb.mono HB2.out.size))
      clear hp hb
      obtain ⟨b, off, rfl, q1, q2⟩ := (HRD2.out.stays HBW.out) k hlt
      have HBC := hid (HBD.out rs[k].1 rs[k].2 wr (HRO.out _ (List.getElem_mem hlt)) HB3.out)
      have HLK := hid (HLE.out k hlt)
      have HWY : Hid (H.bnd T s rs[k].1 rs[k].2 = q → wy = rs[k]) := hid (fun e => HAT.out k hlt e HP.out)
      have HNX : Hid (H.bnd T s rs[k].1 rs[k].2 < q → ∀ j (h : j < rs.length), j < k + 1 → H.bnd T s rs[j].1 rs[j].2 < q) := hid (fun e j h hj => by
        by_cases ej : j = k
        · subst ej; exact e
        · exact HP.out j h (by omega))
      have hix : (0 : Int) ≤ (k : Int) ∧ (k : Int) < (rs.length : Int) := by omega
      generalize hrk : rs[k] = rk at *
      obtain ⟨x, y⟩ := rk
      clear hrk
      simp only at q1 q2 HBC HLK HWY HNX
      generalize H.bnd T s x y = z at *
      by_cases hz : z < q
      · have HNX2 := hid (HNX.out hz)
        go_wp2_with fail
        refine HBC.out.mono ?_
        rintro e w3 ⟨rfl, hb⟩
        have HB4 := hid (HBW.out.trans (hb.mono HBW.out.size))
        clear hb
        go_wp2
        go_roundw
        case rel => exact ⟨k + 1, by omega, by go_num, HNX2.out, HB4.out⟩
        case measure => simp [intOf]; omega
      · have HWY2 := hid (HWY.out (by have := HLK.out; omega))
        clear HWY HNX HAT HEX HLE
        go_wp2_with fail
        refine HBC.out.mono ?_
        rintro e w3 ⟨rfl, hb⟩
        have p1 := cell_stays hb (Nat.le_refl _) q1
        have p2 := cell_stays hb (Nat.le_refl _) q2
        have HB4 := hid (HB3.out.trans (hb.mono HB3.out.size))
        have HO4 := hid (HOV.out.of_block (HB4.out.block _ HOV.out.lt))
        have f0 := HO4.out.frozen 0
        have f1 := HO4.out.frozen 1
        have y0 := HO4.out.cell (i := 0) (by omega)
        have y1 := HO4.out.cell (i := 1) (by omega)
        have HC2 := hid (cellsR (x := .int .i64 (x : Nat)) (y := .int .i64 (y : Nat)) HO4.out)
        have HBE := hid (((HB0.out.trans (HB4.out.mono HB0.out.size)).setCell (p := ⟨w.heap.size, 0, none⟩) (Nat.le_refl _) (.int .i64 (x : Nat))).setCell (p := ⟨w.heap.size, 1, none⟩) (Nat.le_refl _) (.int .i64 (y : Nat)))
        clear hb q1 q2
        go_wp2
        generalize (w3.setCell ⟨w.heap.size, 0, none⟩ (.int .i64 (x : Nat))).setCell ⟨w.heap.size, 1, none⟩ (.int .i64 (y : Nat)) = w4 at *
        obtain ⟨c0, c1⟩ := HC2.out
        refine bodyPost_ret (?_ : (results _ _).run _ _ = .ok (.tuple #[.agg #[.int .i64 (x : Nat), .int .i64 (y : Nat)], .int .i64 0]) _) ?_ ?_
        · rw [results_cell_tmp rfl]
          simp [go_sem, c0, c1]
        · rfl
        · exact ⟨by rw [HWY2.out], HBE.out⟩
  · have hne : (H.chks T s != 0) = true := by simpa using h
    have HE : Hid (H.whyE T s = (0, 0)) := hid (by unfold H.whyE; rw [if_neg h])
    rw [HE.out]
    clear HE
    have f0 := HOV.out.frozen 0
    have f1 := HOV.out.frozen 1
    have y0 := HOV.out.cell (i := 0) (by omega)
    have y1 := HOV.out.cell (i := 1) (by omega)
    have HC2 := hid (cellsR (x := .int .i64 0) (y := .int .i64 0) HOV.out)
    have HBE := hid ((HB0.out.setCell (p := ⟨w.heap.size, 0, none⟩) (Nat.le_refl _) (.int .i64 0)).setCell (p := ⟨w.heap.size, 1, none⟩) (Nat.le_refl _) (.int .i64 0))
    generalize H.chks T s = ec at *
    clear h hx hx0 hb0
    go_enter Try.func21, Try.ntmps21
    go_wp2_with fail
    rw [HW0.out]
    refine HC.out.mono ?_
    rintro e w' ⟨rfl, rfl⟩
    go_wp2
    generalize (w0.setCell ⟨w.heap.size, 0, none⟩ (.int .i64 0)).setCell ⟨w.heap.size, 1, none⟩ (.int .i64 0) = w4 at *
    obtain ⟨c0, c1⟩ := HC2.out
    refine bodyPost_ret (?_ : (results _ _).run _ _ = .ok (.tuple #[.agg #[.int .i64 0, .int .i64 0], .int .i64 ec]) _) ?_ ?_
    · rw [results_cell_tmp rfl]
      simp [go_sem, c0, c1]
    · rfl
    · exact ⟨rfl, HBE.out⟩
end Go.Proofs.Ythlcnklbeolhpaa
