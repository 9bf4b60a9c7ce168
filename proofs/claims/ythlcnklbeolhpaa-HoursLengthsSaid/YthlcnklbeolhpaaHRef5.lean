/- Package tuscheref07: the walk of Why. -/
import Derived.Test.YthlcnklbeolhpaaHRef4
namespace Go.Proofs.Ythlcnklbeolhpaa
open Go.RowKit

theorem H.rsK_eq (kd : Nat) : ∀ n, H.rsK kd n = (List.range n).map fun j => (kd, j)
  | 0 => rfl
  | n + 1 => by rw [H.rsK, H.rsK_eq kd n, List.range_succ, List.map_append]; rfl
theorem H.rsn_len2 (T : List (List Int)) : (H.rsn T).length = T.length + H.wid T + 1 := by
  unfold H.rsn
  simp only [H.pre, List.length_append, H.rsK_len, List.length_nil, H.szK]
  omega
theorem H.rsn_at {T : List (List Int)} {k : Nat} (h : k < (H.rsn T).length) : (H.rsn T)[k] = if k < T.length then (0, k) else if k < T.length + H.wid T then (1, k - T.length) else (2, 0) := by
  have hl := H.rsn_len2 T
  have e : H.rsn T = (List.range T.length).map (fun j => (0, j)) ++ (List.range (H.wid T)).map (fun j => (1, j)) ++ [(2, 0)] := by
    unfold H.rsn
    simp only [H.pre, H.szK, H.rsK_eq, List.nil_append]
    rfl
  have h2 : (H.rsn T)[k]? = some (if k < T.length then (0, k) else if k < T.length + H.wid T then (1, k - T.length) else (2, 0)) := by
    rw [e]
    by_cases h1 : k < T.length
    · rw [List.getElem?_append_left (by simp; omega), List.getElem?_append_left (by simpa using h1), if_pos h1]
      simp [h1]
    · rw [if_neg h1]
      by_cases h3 : k < T.length + H.wid T
      · rw [List.getElem?_append_left (by simp; omega), List.getElem?_append_right (by simp; omega), if_pos h3, List.length_map, List.length_range, List.getElem?_map, List.getElem?_range (show k - T.length < H.wid T by omega)]
        rfl
      · rw [if_neg h3, List.getElem?_append_right (by simp; omega)]
        have ek : k = T.length + H.wid T := by omega
        subst ek
        simp
  rw [List.getElem?_eq_getElem h] at h2
  exact Option.some.inj h2
/-- No reason ahead of this one has the shortest length. -/
def H.Nil (T : List (List Int)) (s : Int) (kd ix : Nat) : Prop := ∀ k (h : k < (H.rsn T).length), ((H.rsn T)[k].1 < kd ∨ ((H.rsn T)[k].1 = kd ∧ (H.rsn T)[k].2 < ix)) → H.bnd T s (H.rsn T)[k].1 (H.rsn T)[k].2 < H.sht T s
theorem H.rsn_idx {T : List (List Int)} {kd ix : Nat} (h : H.OkR T kd ix) : ∃ k, ∃ h : k < (H.rsn T).length, (H.rsn T)[k] = (kd, ix) ∧ ∀ j (hj : j < (H.rsn T).length), j < k → ((H.rsn T)[j].1 < kd ∨ ((H.rsn T)[j].1 = kd ∧ (H.rsn T)[j].2 < ix)) := by
  have hl := H.rsn_len2 T
  rcases h with ⟨rfl, h⟩ | ⟨rfl, h⟩ | ⟨rfl, rfl⟩
  · refine ⟨ix, by omega, by rw [H.rsn_at, if_pos h], fun j hj hk => ?_⟩
    rw [H.rsn_at, if_pos (by omega)]
    exact Or.inr ⟨rfl, hk⟩
  · refine ⟨T.length + ix, by omega, by rw [H.rsn_at, if_neg (by omega), if_pos (by omega)]; simp, fun j hj hk => ?_⟩
    rw [H.rsn_at]
    by_cases h1 : j < T.length
    · rw [if_pos h1]; exact Or.inl (show 0 < 1 by decide)
    · rw [if_neg h1, if_pos (by omega)]; exact Or.inr ⟨rfl, by show j - T.length < ix; omega⟩
  · refine ⟨T.length + H.wid T, by omega, by rw [H.rsn_at, if_neg (by omega), if_neg (by omega)], fun j hj hk => ?_⟩
    rw [H.rsn_at]
    by_cases h1 : j < T.length
    · rw [if_pos h1]; exact Or.inl (show 0 < 2 by decide)
    · rw [if_neg h1, if_pos hk]; exact Or.inl (show 1 < 2 by decide)
theorem H.nil_start (T : List (List Int)) (s : Int) : H.Nil T s 0 0 := fun k h e => by omega
theorem H.nil_next {T : List (List Int)} {s : Int} {kd ix : Nat} (h : H.Nil T s kd ix) (hb : H.isR T kd ix = true → H.bnd T s kd ix < H.sht T s) : H.Nil T s kd (ix + 1) := fun k hk e => by
  by_cases e2 : (H.rsn T)[k].1 = kd ∧ (H.rsn T)[k].2 = ix
  · have hr := H.rsn_ok _ (List.getElem_mem hk)
    rw [e2.1, e2.2] at hr ⊢
    refine hb ?_
    unfold H.isR H.inn
    rcases hr with ⟨rfl, h1⟩ | ⟨rfl, h1⟩ | ⟨rfl, rfl⟩
    · rw [if_pos (show ((0 : Nat) : Int) = 0 from rfl)]; exact decide_eq_true (by omega)
    · rw [if_neg (show ¬ ((1 : Nat) : Int) = 0 by decide), if_pos (show ((1 : Nat) : Int) = 1 from rfl)]; exact decide_eq_true (by omega)
    · rfl
  · exact h k hk (by omega)
theorem H.nil_kind {T : List (List Int)} {s : Int} {kd : Nat} (hok : H.Ok T) (h : H.Nil T s kd 6) : H.Nil T s (kd + 1) 0 := fun k hk e => by
  have h1 := hok.m6
  have h2 := hok.n6
  have hr := H.rsn_ok _ (List.getElem_mem hk)
  refine h k hk ?_
  unfold H.OkR at hr
  omega
theorem H.nil_why {T : List (List Int)} {s : Int} {kd ix : Nat} (h : H.Nil T s kd ix) (hr : H.OkR T kd ix) (hb : H.bnd T s kd ix = H.sht T s) : H.why T s = (kd, ix) := by
  obtain ⟨k, hk, e, hj⟩ := H.rsn_idx hr
  rw [H.why_at hk (by rw [e]; exact hb) (fun j hjl hjk => h j hjl (hj j hjl hjk)), e]
theorem H.nil_last {T : List (List Int)} {s : Int} (hok : H.Ok T) (hs : 1 ≤ s) (h : H.Nil T s 2 0) : H.why T s = (2, 0) := by
  refine H.nil_why h (Or.inr (Or.inr ⟨rfl, rfl⟩)) ?_
  obtain ⟨k, hk, e, hj⟩ := H.rsn_idx (T := T) (kd := 2) (ix := 0) (Or.inr (Or.inr ⟨rfl, rfl⟩))
  have h1 := H.bnd_le hok hs hk
  rw [e] at h1
  by_cases e2 : H.bnd T s 2 0 < H.sht T s
  · have hl := H.rsn_len2 T
    have := H.why_ex hok hs (Nat.le_refl _) (fun j hjl _ => by
      by_cases e3 : j < k
      · exact h j hjl (hj j hjl e3)
      · by_cases e4 : j = k
        · subst e4; rw [e]; exact e2
        · rw [H.rsn_at] at e
          have hk2 : k = T.length + H.wid T := by
            split at e
            · cases e
            · split at e
              · cases e
              · omega
          omega)
    omega
  · show H.bnd T s 2 0 = H.sht T s
    have h1' : H.bnd T s 2 0 ≤ H.sht T s := h1
    omega
theorem cellsRR {W : World} {g : Nat} {x y : Value} {f : Nat → Value} (h : W.rowIs g 35 2 f) :
    ((W.setCell ⟨g, 0, none⟩ x).setCell ⟨g, 1, none⟩ y).cell? ⟨g, 0, none⟩ = some x ∧ ((W.setCell ⟨g, 0, none⟩ x).setCell ⟨g, 1, none⟩ y).cell? ⟨g, 1, none⟩ = some y := by
  have h2 := (h.set 0 x).set 1 y
  refine ⟨?_, ?_⟩
  · simpa using h2.cell (i := 0) (by omega)
  · simpa using h2.cell (i := 1) (by omega)

set_option maxHeartbeats 4000000 in
set_option maxRecDepth 100000 in
theorem refWhy_any (a : Option Addr) (c : Nat) (T : List (List Int)) (s : Int) (w : World) (hm : T.length ≤ maxLen) (hl : ∀ i (h : i < T.length), T[i].length ≤ maxLen) (hx : RdM w a T) :
    Calls Try.prog 22 #[.slice a T.length c, .int .i64 s] w fun e w' => e = .returned (.tuple #[.agg #[.int .i64 (H.whyE T s).1, .int .i64 (H.whyE T s).2], .int .i64 (H.chks T s)]) ∧ Below w.heap.size w w' := by
  have hb0 : Below w.heap.size w (w.alloc (.cells #[.int .i64 0, .int .i64 0] 35)) := (Below.refl _ _).alloc (Nat.le_refl _) _
  have HB0 := hid hb0
  have hx0 := hx.stays hb0
  have HOV : Hid ((w.alloc (.cells #[.int .i64 0, .int .i64 0] 35)).rowIs w.heap.size 35 2 (fun _ => .int .i64 0)) := hid (World.rowIs_alloc w #[.int .i64 0, .int .i64 0] 35 (fun _ => .int .i64 0) (fun i hi => by
    have h : i < 2 := hi
    have h2 : i = 0 ∨ i = 1 := by omega
    rcases h2 with rfl | rfl <;> rfl))
  generalize hw0 : w.alloc (.cells #[.int .i64 0, .int .i64 0] 35) = w0 at *
  have HW0 := hid hw0
  clear hw0
  have HC := hid (refShortest_any a c T s w0 hm hl hx0)
  have HPUT := hid (fun (W : World) (x y : Value) (hW : Below w0.heap.size w0 W) => cellsRR (x := x) (y := y) (HOV.out.of_block (hW.block _ HOV.out.lt)))
  have HOW := hid (fun (W : World) (hW : Below w0.heap.size w0 W) => show W.frozen? ⟨w.heap.size, 0, none⟩ = false ∧ W.frozen? ⟨w.heap.size, 1, none⟩ = false ∧ W.cell? ⟨w.heap.size, 0, none⟩ = some (.int .i64 0) ∧ W.cell? ⟨w.heap.size, 1, none⟩ = some (.int .i64 0) from
    ⟨(HOV.out.of_block (hW.block _ HOV.out.lt)).frozen 0, (HOV.out.of_block (hW.block _ HOV.out.lt)).frozen 1, (HOV.out.of_block (hW.block _ HOV.out.lt)).cell (i := 0) (by omega), (HOV.out.of_block (hW.block _ HOV.out.lt)).cell (i := 1) (by omega)⟩)
  have HBP := hid (fun (W : World) (x y : Value) (hW : Below w0.heap.size w0 W) => ((HB0.out.trans (hW.mono HB0.out.size)).setCell (p := ⟨w.heap.size, 0, none⟩) (Nat.le_refl _) x).setCell (p := ⟨w.heap.size, 1, none⟩) (Nat.le_refl _) y)
  by_cases h : H.chks T s = 0
  · obtain ⟨hok, hs, _⟩ := H.chks_ok h
    have HE : Hid (H.whyE T s = H.why T s) := hid (by unfold H.whyE; rw [if_pos h])
    have HSE : Hid (H.shE T s = H.sht T s) := hid (by unfold H.shE; rw [if_pos h])
    rw [HE.out]
    rw [HSE.out] at HC
    clear HE HSE
    have HBD := hid (fun (kd ix : Nat) W (hW : Below w0.heap.size w0 W) => refBound_any a c T s kd ix W hm hl (hx0.stays hW))
    have HBV := hid (fun (kd ix : Nat) => show H.bdE T s kd ix = (if H.isR T kd ix = true then H.bnd T s kd ix else 0) ∧ H.bdX T s kd ix = (if H.isR T kd ix = true then 0 else 5) from ⟨by unfold H.bdE; simp [h], by unfold H.bdX; rw [if_pos h]⟩)
    have HNX := hid (fun kd ix => H.nil_next (T := T) (s := s) (kd := kd) (ix := ix))
    have HNK := hid (fun kd => H.nil_kind (T := T) (s := s) (kd := kd) hok)
    have HNW := hid (fun kd ix => H.nil_why (T := T) (s := s) (kd := kd) (ix := ix))
    have HNL := hid (H.nil_last (T := T) (s := s) hok hs)
    have HNS := hid (H.nil_start T s)
    have HLE := hid (fun kd ix (h : H.isR T ((kd : Nat) : Int) ((ix : Nat) : Int) = true) => show H.OkR T kd ix ∧ H.bnd T s kd ix ≤ H.sht T s from by
      obtain ⟨k1, k2, e1, e2, hr⟩ := H.isR_ok h
      have e1' : kd = k1 := by omega
      have e2' : ix = k2 := by omega
      subst e1' e2'
      obtain ⟨k, hk, e, _⟩ := H.rsn_idx hr
      have := H.bnd_le hok hs hk
      rw [e] at this
      exact ⟨hr, this⟩)
    rw [h] at HC ⊢
    clear h hm hl hx hx0 hok hb0
    generalize H.sht T s = q at *
    generalize H.why T s = wy at *
    go_enter Try.func22, Try.ntmps22
    go_wp2_with fail
    rw [HW0.out]
    refine HC.out.mono ?_
    rintro e w1 ⟨rfl, hb⟩
    have HB1 := hid hb
    clear hb HC
    go_wp2
    go_loopw [8] (fun i wr => ∃ kd : Nat, kd ≤ 2 ∧ i = .int .i64 kd ∧ H.Nil T s kd 0 ∧ Below w0.heap.size w0 wr) (fun i _ => 2 - (intOf i).toNat)
    case atStart => exact ⟨0, by omega, rfl, HNS.out, HB1.out⟩
    case round =>
      obtain ⟨kd, hkd, rfl, hnil, hb⟩ := hrel
      have HN := hid hnil
      have HB := hid hb
      clear hnil hb
      by_cases hk2 : kd < 2
      · have hk3 : (kd : Int) ≤ 1 := by omega
        have hk4 : decide ((kd : Int) ≤ 1) = true := decide_eq_true hk3
        go_wp2
        go_loopw [9] (fun i wr => ∃ ix : Nat, ix ≤ 6 ∧ i = .int .i64 ix ∧ H.Nil T s kd ix ∧ Below w0.heap.size w0 wr) (fun i _ => 6 - (intOf i).toNat)
        case atStart => exact ⟨0, by omega, rfl, HN.out, HB.out⟩
        case round =>
          obtain ⟨ix, hix, rfl, hnil, hb⟩ := hrel
          have HN2 := hid hnil
          have HBW := hid hb
          clear hnil hb
          by_cases hi6 : ix < 6
          · have hi7 : (ix : Int) < 6 := by omega
            have HBA := hid (HBW.out.alloc HBW.out.size (.cells #[.int .i64 (kd : Int), .int .i64 (ix : Int)] 35))
            have HC2 := hid (HBD.out kd ix _ HBA.out)
            have l1 : w.heap.size < wr.heap.size := Nat.lt_of_lt_of_le HOV.out.lt HBW.out.size
            have j0 : (wr.alloc (.cells #[.int .i64 (kd : Int), .int .i64 (ix : Int)] 35)).cell? ⟨wr.heap.size, 0, none⟩ = some (.int .i64 kd) := by rw [World.cell?_alloc_at _ _ _ _ rfl]; rfl
            have j1 : (wr.alloc (.cells #[.int .i64 (kd : Int), .int .i64 (ix : Int)] 35)).cell? ⟨wr.heap.size, 1, none⟩ = some (.int .i64 ix) := by rw [World.cell?_alloc_at _ _ _ _ rfl]; rfl
            have HJ := hid (fun W (h : Below (wr.alloc (.cells #[.int .i64 (kd : Int), .int .i64 (ix : Int)] 35)).heap.size (wr.alloc (.cells #[.int .i64 (kd : Int), .int .i64 (ix : Int)] 35)) W) => show W.cell? ⟨wr.heap.size, 0, none⟩ = some (.int .i64 kd) ∧ W.cell? ⟨wr.heap.size, 1, none⟩ = some (.int .i64 ix) from ⟨cell_stays h (Nat.le_refl _) j0, cell_stays h (Nat.le_refl _) j1⟩)
            have HV := hid (HBV.out kd ix)
            have HNX2 := hid (HNX.out kd ix HN2.out)
            have HLE2 := hid (HLE.out kd ix)
            have HNW2 := hid (HNW.out kd ix HN2.out)
            clear j0 j1
            rw [HV.out.1, HV.out.2] at HC2
            clear HV
            generalize H.bnd T s kd ix = z at *
            cases hir : H.isR T kd ix with
            | false =>
              rw [hir] at HC2 HNX2
              simp only [Bool.false_eq_true, if_false] at HC2
              have HNX3 := hid (HNX2.out (fun e => by cases e))
              clear hir
              go_wp2_with fail
              refine HC2.out.mono ?_
              rintro e w3 ⟨rfl, hb⟩
              have HB4 := hid (HBA.out.trans (hb.mono HBA.out.size))
              clear hb
              go_wp2
              go_roundw
              case rel => exact ⟨ix + 1, by omega, by go_num, HNX3.out, HB4.out⟩
              case measure => simp [intOf]; omega
            | true =>
              have HLE3 := hid (HLE2.out hir)
              rw [hir] at HC2 HNX2
              simp only [if_true] at HC2
              clear hir
              by_cases hz : z = q
              · have HW := hid (HNW2.out HLE3.out.1 hz)
                subst hz
                clear HLE2 HLE3 HNW2 HNX2
                go_wp2_with fail
                refine HC2.out.mono ?_
                rintro e w3 ⟨rfl, hb⟩
                obtain ⟨e0, e1⟩ := HJ.out _ hb
                have HB4 := hid (HBA.out.trans (hb.mono HBA.out.size))
                have HC3 := hid (HPUT.out w3 (.int .i64 (kd : Int)) (.int .i64 (ix : Int)) HB4.out)
                have HBE := hid (HBP.out w3 (.int .i64 (kd : Int)) (.int .i64 (ix : Int)) HB4.out)
                obtain ⟨f0, f1, y0, y1⟩ := HOW.out w3 HB4.out
                have hzz : (z == z) = true := by simp
                clear hb
                go_wp2
                generalize (w3.setCell ⟨w.heap.size, 0, none⟩ (.int .i64 (kd : Int))).setCell ⟨w.heap.size, 1, none⟩ (.int .i64 (ix : Int)) = w4 at *
                obtain ⟨c0, c1⟩ := HC3.out
                refine bodyPost_ret (?_ : (results _ _).run _ _ = .ok (.tuple #[.agg #[.int .i64 (kd : Int), .int .i64 (ix : Int)], .int .i64 0]) _) ?_ ?_
                · rw [results_cell_tmp rfl]
                  simp [go_sem, c0, c1]
                · rfl
                · exact ⟨by rw [HW.out], HBE.out⟩
              · have HNX3 := hid (HNX2.out (fun _ => by have := HLE3.out.2; omega))
                have hzq : (z == q) = false := by simpa using hz
                clear HLE2 HLE3 HNW2 HNX2 hz
                go_wp2_with fail
                refine HC2.out.mono ?_
                rintro e w3 ⟨rfl, hb⟩
                have HB4 := hid (HBA.out.trans (hb.mono HBA.out.size))
                clear hb
                go_wp2
                go_roundw
                case rel => exact ⟨ix + 1, by omega, by go_num, HNX3.out, HB4.out⟩
                case measure => simp [intOf]; omega
          · have hie : ix = 6 := by omega
            subst hie
            have HNN := hid (HNK.out kd HN2.out)
            go_wp2
            go_roundw
            case rel => exact ⟨kd + 1, by omega, by go_num, HNN.out, HBW.out⟩
            case measure => simp [intOf]; omega
      · have hke : kd = 2 := by omega
        subst hke
        have HW := hid (HNL.out HN.out)
        have HC3 := hid (HPUT.out wr (.int .i64 2) (.int .i64 0) HB.out)
        have HBE := hid (HBP.out wr (.int .i64 2) (.int .i64 0) HB.out)
        obtain ⟨f0, f1, y0, y1⟩ := HOW.out wr HB.out
        go_wp2
        generalize (wr.setCell ⟨w.heap.size, 0, none⟩ (.int .i64 2)).setCell ⟨w.heap.size, 1, none⟩ (.int .i64 0) = w4 at *
        obtain ⟨c0, c1⟩ := HC3.out
        refine bodyPost_ret (?_ : (results _ _).run _ _ = .ok (.tuple #[.agg #[.int .i64 2, .int .i64 0], .int .i64 0]) _) ?_ ?_
        · rw [results_cell_tmp rfl]
          simp [go_sem, c0, c1]
        · rfl
        · exact ⟨by rw [HW.out]; rfl, HBE.out⟩
  · have hne : (H.chks T s != 0) = true := by simpa using h
    have HE : Hid (H.whyE T s = (0, 0)) := hid (by unfold H.whyE; rw [if_neg h])
    rw [HE.out]
    clear HE
    generalize H.chks T s = ec at *
    generalize H.shE T s = q at *
    clear h hx hx0 hb0
    go_enter Try.func22, Try.ntmps22
    go_wp2_with fail
    rw [HW0.out]
    refine HC.out.mono ?_
    rintro e w1 ⟨rfl, hb⟩
    have HC3 := hid (HPUT.out w1 (.int .i64 0) (.int .i64 0) hb)
    have HBE := hid (HBP.out w1 (.int .i64 0) (.int .i64 0) hb)
    obtain ⟨f0, f1, y0, y1⟩ := HOW.out w1 hb
    clear hb
    go_wp2
    generalize (w1.setCell ⟨w.heap.size, 0, none⟩ (.int .i64 0)).setCell ⟨w.heap.size, 1, none⟩ (.int .i64 0) = w4 at *
    obtain ⟨c0, c1⟩ := HC3.out
    refine bodyPost_ret (?_ : (results _ _).run _ _ = .ok (.tuple #[.agg #[.int .i64 0, .int .i64 0], .int .i64 ec]) _) ?_ ?_
    · rw [results_cell_tmp rfl]
      simp [go_sem, c0, c1]
    · rfl
    · exact ⟨rfl, HBE.out⟩
end Go.Proofs.Ythlcnklbeolhpaa
