/- Package tuscheref05: the walk of Groups. -/
import Derived.Test.YtmbfpekcfeeifaaKRInner
import Derived.Test.YtmbfpekcfeeifaaKStiffs
namespace Go.Proofs.Ytmbfpekcfeeifaa
open Go.RowKit

/-- The head of a round of the outer loop. -/
def K.OuterR (w0 : World) (bo tb m N : Nat) (ib : Nat → Nat) (F M : Nat → Nat → Bool) (p : Nat) (gsV : Value) (w : World) : Prop :=
  GsAtR w (tb + 1) w.heap.size gsV (K.gs M m N p) ∧ w.rowIs tb 4 N (fun j => .bool (K.mk M N p 0 j)) ∧ MatAt w w0.heap.size bo N ib F ∧ Below w0.heap.size w0 w ∧ tb < w.heap.size
/-- And of the inner one. -/
def K.InnrR (w0 : World) (bo tb gv m N : Nat) (ib : Nat → Nat) (F M : Nat → Nat → Bool) (p j : Nat) (gsV : Value) (w : World) : Prop :=
  ∃ rv cv b2, K.InnerR w0 w bo tb gv N ib F gsV rv cv (K.mk M N p j) (K.gs M m N p) (K.rw M m p j) (K.cl M m p j) b2 ∧ (j ≤ m → cv = .slice none 0 0)
/-- Groups of the reference, returned with an error. -/
def K.GsER (gs : List (List Int × List Int)) (err : Int) (w : World) (e : Ending) (w' : World) : Prop := ∃ v lo hi, e = .returned (.tuple #[v, .int .i64 err]) ∧ GsAtR w' lo hi v gs ∧ Below w.heap.size w w'

theorem box_rackR (w : World) (m n : Int) (a : Option Addr) (c : Nat) (bs : List Br) (hR : RdB w a bs) : Hid (Below w.heap.size w (w.alloc (.cells #[.int .i64 m, .int .i64 n, .slice a bs.length c] 28))) ∧
    (∀ w', Below (w.alloc (.cells #[.int .i64 m, .int .i64 n, .slice a bs.length c] 28)).heap.size (w.alloc (.cells #[.int .i64 m, .int .i64 n, .slice a bs.length c] 28)) w' →
      w'.cell? ⟨w.heap.size, 0, none⟩ = some (.int .i64 m) ∧ w'.cell? ⟨w.heap.size, 1, none⟩ = some (.int .i64 n) ∧ w'.cell? ⟨w.heap.size, 2, none⟩ = some (.slice a bs.length c) ∧ RdB w' a bs ∧ Below w.heap.size w w' ∧ w.heap.size < w'.heap.size) := by
  have hb0 : Below w.heap.size w (w.alloc (.cells #[.int .i64 m, .int .i64 n, .slice a bs.length c] 28)) := (Below.refl _ _).alloc (Nat.le_refl _) _
  have k0 : (w.alloc (.cells #[.int .i64 m, .int .i64 n, .slice a bs.length c] 28)).cell? ⟨w.heap.size, 0, none⟩ = some (.int .i64 m) := by rw [World.cell?_alloc_at _ _ _ _ rfl]; rfl
  have k1 : (w.alloc (.cells #[.int .i64 m, .int .i64 n, .slice a bs.length c] 28)).cell? ⟨w.heap.size, 1, none⟩ = some (.int .i64 n) := by rw [World.cell?_alloc_at _ _ _ _ rfl]; rfl
  have k2 : (w.alloc (.cells #[.int .i64 m, .int .i64 n, .slice a bs.length c] 28)).cell? ⟨w.heap.size, 2, none⟩ = some (.slice a bs.length c) := by rw [World.cell?_alloc_at _ _ _ _ rfl]; rfl
  refine ⟨hid hb0, fun w' hb => ⟨cell_stays hb (Nat.le_refl _) k0, cell_stays hb (Nat.le_refl _) k1, cell_stays hb (Nat.le_refl _) k2, (hR.stays hb0).stays hb, hb0.trans (hb.mono hb0.size), Nat.lt_of_lt_of_le (World.block_lt_of_cell? _ _ k0) hb.size⟩⟩

set_option maxHeartbeats 8000000 in
set_option maxRecDepth 100000 in
theorem refGroups_any (m n : Int) (a : Option Addr) (c : Nat) (bs : List Br) (w : World) (hm : bs.length ≤ maxLen) (hR : RdB w a bs) :
    Calls Try.prog 20 #[K.rk m n a bs.length c] w (K.GsER (K.gsr m n bs) (K.chk m n bs) w) := by
  obtain ⟨HB0, hbx⟩ := box_rackR w m n a c bs hR
  have HBX := hid hbx
  have HCK := hid (refCheck_any m n a c bs _ hm (hR.stays HB0.out))
  clear hbx hR
  by_cases h0 : K.chk m n bs = 0
  · obtain ⟨p0, q0, rfl, rfl, hok⟩ := K.chk_ok h0
    have HRS : Hid (K.gsr p0 q0 bs = K.gs (K.leads p0 bs) p0 (p0 + q0) (p0 + q0) ∧ K.chk p0 q0 bs = 0) := hid ⟨by unfold K.gsr; rw [if_pos h0]; simp [K.gsv], h0⟩
    rw [h0] at HCK
    have HRC := hid (fun w1 hr => refReach_any p0 q0 a c bs w1 hm hr hok.m6 hok.n6 hok.inb)
    have h6 := hok.m6
    have h66 := hok.n6
    have hN12 : p0 + q0 ≤ 12 := by omega
    rw [HRS.out.1, HRS.out.2]
    clear h0 hok hm HRS
    generalize K.leads p0 bs = M at *
    have HMK2 := hid (run_make_row' (P := Try.prog) 84 4 (.bool false) 1 Try.underlying84 (by kernel_rfl) rfl .i64 .i64 (p0 + q0) (by omega) (by omega))
    have hsum : (p0 : Int) + (q0 : Int) = ((p0 + q0 : Nat) : Int) := by omega
    have HPN : Hid (p0 ≤ p0 + q0) := hid (by omega)
    generalize p0 + q0 = N at *
    obtain ⟨i0, hi, hz0, hz1, hz2⟩ := info_parts (show (Try.prog.info? 3).map (fun i => (i.zero, i.size, i.bytes)) = some (some (.int .i64 0), 1, 8) by kernel_rfl)
    obtain ⟨i1, ji, jz0, jz1, jz2⟩ := info_parts (show (Try.prog.info? 94).map (fun i => (i.zero, i.size, i.bytes)) = some (some (.agg #[.slice none 0 0, .slice none 0 0]), 2, 48) by kernel_rfl)
    unfold K.rk at HCK HRC ⊢
    go_enter Try.func20, Try.ntmps20
    go_wp2_with fail
    refine HCK.out.mono ?_
    rintro e w1 ⟨rfl, hb⟩
    obtain ⟨k0, k1, k2, hr, hbw, hsz⟩ := HBX.out w1 hb
    have HR1 := hid (HRC.out w1 hr)
    have HBW := hid hbw
    clear hb hr hbw
    go_wp2_with fail
    refine HR1.out.mono ?_
    rintro e w2 ⟨bo, ib, F, rfl, hmt, hF, hb2⟩
    have HMT := hid hmt
    have HF := hid (show ∀ x y, x < N → y < N → K.T M x y = (F x y && F y x) from fun x y hx hy => by
      rw [Bool.eq_iff_iff, K.T_iff, Bool.and_eq_true, hF x y hx hy, hF y x hy hx]; rfl)
    have HB2 := hid hb2
    have k0' := cell_stays hb2 (Nat.le_refl _) k0
    have k1' := cell_stays hb2 (Nat.le_refl _) k1
    have hsz2 : w.heap.size < w2.heap.size := Nat.lt_of_lt_of_le hsz hb2.size
    have hmk2 := HMK2.out
    have HK0 := hid k0'
    have HS2 := hid hsz2
    have HBO : Hid (bo < w2.heap.size ∧ ∀ i, i < N → ib i < w2.heap.size) := hid ⟨hmt.outer.lt, fun i hi => (hmt.inner i hi).lt⟩
    have HO : Hid (K.OuterR w1 bo w2.heap.size p0 N ib F M 0 (.slice none 0 0) (w2.alloc (.cells (madeCells #[.bool false] N) 4))) := hid (by
      refine ⟨⟨⟨[], rfl, World.ownsRow_nil _ _ _ _, fun k h => absurd h (Nat.not_lt_zero _)⟩, fun q hq => by cases hq⟩, (World.rowIs_made w2 (.bool false) N 4).congr (fun j _ => by rw [K.mk_zero]), hmt.grown ((Below.refl _ _).alloc (Nat.le_refl _) _), hb2.alloc hb2.size _, by simp⟩)
    have HK1 := hid k0
    have HS1 := hid hsz
    clear hmt hF hb2
    go_wp2
    clear k0 k1 k2 k0' k1' hsz hsz2 hmk2 hsum
    generalize w2.alloc (.cells (madeCells #[.bool false] N) 4) = w3 at *
    generalize w2.heap.size = tb at *
    clear HMT HB2 HRC HR1 HBX HCK
    go_loopw [5, 9] (fun s i wr => ∃ p : Nat, p ≤ N ∧ i = .int .i64 p ∧ K.OuterR w1 bo tb p0 N ib F M p s wr) (fun _ i _ => N - (intOf i).toNat)
    case atStart => exact ⟨0, Nat.zero_le _, rfl, HO.out⟩
    case round =>
      clear HO
      obtain ⟨p, hp, rfl, hgs, hps, hmt, hbl, htb⟩ := hrel
      have HGS := hid hgs
      have HPS := hid hps
      have HMT := hid hmt
      have HBL := hid hbl
      clear hgs hps hmt hbl
      by_cases hlt : p < N
      · have cp := HPS.out.cell hlt
        have hmk : K.mk M N p 0 p = K.grouped M p p := by rw [K.mk_start, decide_eq_true hlt]; simp
        rw [hmk] at cp
        clear hmk
        have hix : (0 : Int) ≤ (p : Int) ∧ (p : Int) < (N : Int) := by omega
        cases hgr : K.grouped M p p with
        | true =>
          rw [hgr] at cp
          have HN : Hid (K.gs M p0 N (p + 1) = K.gs M p0 N p) := hid (by rw [K.gs, if_pos hgr])
          have HK : Hid (K.mk M N p 0 = K.mk M N (p + 1) 0) := hid (K.mk_skip hgr)
          clear hgr
          go_wp2
          go_roundw
          case rel => exact ⟨p + 1, by omega, by go_num, by unfold K.OuterR; rw [HN.out, ← HK.out]; exact ⟨HGS.out, HPS.out, HMT.out, HBL.out, htb⟩⟩
          case measure => simp [intOf]; omega
        | false =>
          rw [hgr] at cp
          have HN : Hid (K.gs M p0 N (p + 1) = K.gs M p0 N p ++ [(K.rw M p0 p N, K.cl M p0 p N)]) := hid (by rw [K.gs, if_neg (by rw [hgr]; simp)])
          have hal : Below wr.heap.size wr (wr.alloc (.cells #[.slice none 0 0, .slice none 0 0] 94)) := (Below.refl _ _).alloc (Nat.le_refl _) _
          have hsz : wr.heap.size < (wr.alloc (.cells #[.slice none 0 0, .slice none 0 0] 94)).heap.size := by simp
          have HI : Hid (K.InnrR w1 bo tb wr.heap.size p0 N ib F M p p u5 (wr.alloc (.cells #[.slice none 0 0, .slice none 0 0] 94))) := hid ⟨.slice none 0 0, .slice none 0 0, wr.heap.size + 1,
            ⟨(World.rowIs_alloc wr #[.slice none 0 0, .slice none 0 0] 94 _ (fun i hi => by
              have h : i < 2 := hi
              have h2 : i = 0 ∨ i = 1 := by omega
              rcases h2 with rfl | rfl <;> rfl)), by rw [(K.rw_head (m := p0) hgr p (Nat.le_refl _)).1]; exact World.ownsRow_nil _ _ _ _, by rw [(K.rw_head (m := p0) hgr p (Nat.le_refl _)).2]; exact World.ownsRow_nil _ _ _ _, Nat.le_refl _, hsz, (fun q hq => by cases hq), by rw [K.mk_head hgr]; exact HPS.out.alloc _, HMT.out.grown hal, HGS.out.kept (grown_below hal) (fun q hq => by cases hq), HBL.out.trans (hal.mono HBL.out.size), HBO.out.1, HBO.out.2, htb⟩, fun _ => rfl⟩
          clear hal hsz hgr
          have HTB : Hid (tb < wr.heap.size) := hid htb
          clear htb HGS HPS HMT HBL
          go_wp2
          generalize wr.alloc (.cells #[.slice none 0 0, .slice none 0 0] 94) = w5 at *
          generalize wr.heap.size = gv at *
          clear cp
          clear wr
          go_loopw [11] (fun i wr => ∃ j : Nat, p ≤ j ∧ j ≤ N ∧ i = .int .i64 j ∧ K.InnrR w1 bo tb gv p0 N ib F M p j u5 wr) (fun i _ => N - (intOf i).toNat)
          case atStart => exact ⟨p, Nat.le_refl _, hp, rfl, HI.out⟩
          case round =>
            clear HI
            obtain ⟨j, hpj, hj, rfl, hinn⟩ := hrel
            by_cases hjl : j < N
            · obtain ⟨rv, cv, b2, hin, hnil⟩ := hinn
              have HII := hid hin
              have HNL := hid hnil
              have y1 := hin.mat.row hlt
              have y2 := hin.mat.row hjl
              have y3 := hin.mat.at hlt hjl
              have y4 := hin.mat.at hjl hlt
              have y5 := hin.taken.cell hjl
              have f1 := hin.taken.frozen j
              have y0 := cell_stays hin.below (Nat.le_refl _) HK1.out
              have l0 : w.heap.size < wr.heap.size := Nat.lt_of_lt_of_le HS1.out hin.below.size
              have ii : (0 : Int) ≤ (j : Int) ∧ (j : Int) < (N : Int) := by omega
              have ij : (0 : Int) ≤ (p : Int) ∧ (p : Int) < (N : Int) := by omega
              clear hin hnil
              cases v1 : F p j with
              | false =>
                rw [v1] at y3
                have HT0 : Hid (K.T M p j = false) := hid (by simp [HF.out p j hlt hjl, v1])
                have HMK := hid (K.mk_miss (N := N) HT0.out)
                have HRW : Hid (K.rw M p0 p (j + 1) = K.rw M p0 p j) := hid (by rw [K.rw, if_neg (by rw [HT0.out]; simp)])
                have HCW : Hid (K.cl M p0 p (j + 1) = K.cl M p0 p j) := hid (by rw [K.cl, if_neg (by rw [HT0.out]; simp)])
                clear v1
                go_wp2
                go_roundw
                case rel => exact ⟨j + 1, by omega, by omega, by go_num, rv, cv, b2, by rw [HRW.out, HCW.out, ← HMK.out]; exact HII.out, fun h => HNL.out (by omega)⟩
                case measure => simp [intOf]; omega
              | true =>
                rw [v1] at y3
                cases v2 : F j p with
                | false =>
                  rw [v2] at y4
                  clear v1
                  have HT0 : Hid (K.T M p j = false) := hid (by simp [HF.out p j hlt hjl, v2])
                  have HMK := hid (K.mk_miss (N := N) HT0.out)
                  have HRW : Hid (K.rw M p0 p (j + 1) = K.rw M p0 p j) := hid (by rw [K.rw, if_neg (by rw [HT0.out]; simp)])
                  have HCW : Hid (K.cl M p0 p (j + 1) = K.cl M p0 p j) := hid (by rw [K.cl, if_neg (by rw [HT0.out]; simp)])
                  clear v2
                  go_wp2
                  go_roundw
                  case rel => exact ⟨j + 1, by omega, by omega, by go_num, rv, cv, b2, by rw [HRW.out, HCW.out, ← HMK.out]; exact HII.out, fun h => HNL.out (by omega)⟩
                  case measure => simp [intOf]; omega
                | true =>
                  rw [v2] at y4
                  have HTT : Hid (K.T M p j = true) := hid (by simp [HF.out p j hlt hjl, v1, v2])
                  have HMK := hid (K.mk_hit (N := N) HTT.out)
                  clear v1 v2
                  have HI7 := hid (HII.out.mark j)
                  rw [HMK.out] at HI7
                  have o1 := HII.out.o2
                  have n2 : gv ≠ tb := by omega
                  have n3 : tb ≠ w.heap.size := by have := HII.out.o3; have := HS1.out; omega
                  have n4 : w.heap.size ≠ tb := fun e => n3 e.symm
                  have l1 : tb < wr.heap.size := HII.out.taken.lt
                  have l2 : gv < wr.heap.size := HII.out.var.lt
                  have v0 : wr.cell? ⟨gv, 0, none⟩ = some rv := HII.out.var.cell (i := 0) (by omega)
                  have v1 : wr.cell? ⟨gv, 1, none⟩ = some cv := HII.out.var.cell (i := 1) (by omega)
                  have f2 : ∀ k, wr.frozen? ⟨gv, k, none⟩ = false := fun k => HII.out.var.frozen k
                  clear o1
                  have HRL := hid (K.rw_len M p0 p j)
                  have HCL := hid (K.cl_len M p0 p j)
                  by_cases hjm : j < p0
                  · have HCV := hid (HNL.out (by omega))
                    have HCE : Hid (K.cl M p0 p j = []) := hid (K.cl_low (by omega))
                    have HRW : Hid (K.rw M p0 p (j + 1) = K.rw M p0 p j ++ [(j : Int)]) := hid (by rw [K.rw, if_pos ⟨hjm, HTT.out⟩])
                    have HCW : Hid (K.cl M p0 p (j + 1) = []) := hid (K.cl_low (by omega))
                    have HI8 := hid (HI7.out.grown ((Below.refl (wr.setCell ⟨tb, j, none⟩ (.bool true)).heap.size _).alloc (Nat.le_refl _) (.cells #[.int .i64 (j : Int)] 3)))
                    have HBASE := hid HI7.out.var.lt
                    clear HII HI7 HMK
                    go_wp2_with (at_builtin; refine wpList_append_own _ rfl _ _ 40 rfl (gv + 1) 3 i0 (.int .i64 0) 1 8 Try.underlying40 hi hz0 hz1 hz2 rfl (by decide) _ _ _ rfl HI8.out.rows ⟨wr.heap.size, 0, none⟩ 1 1 [.int .i64 (j : Int)] rfl rfl ?c1 ?c2 ?c3 ?c4 ?c5 ?_)
                    case c1 =>
                      intro k u hk
                      match k, hk with
                      | 0, hk =>
                        simp at hk; subst hk
                        rw [Addr.add_lit, World.cell?_alloc_at _ _ _ _ (by simp)]
                        rfl
                    case c2 => intro u hu; simp at hu; subst hu; rfl
                    case c3 => have := HRL.out; unfold maxLen; omega
                    case c4 => have := HRL.out; omega
                    case c5 => have := HBASE.out; simp at this ⊢; omega
                    intro v' w8 hown hgrow _
                    obtain ⟨g', cap', rfl, k1, k2, HI9⟩ := HI8.out.rowStep HCV.out HCE.out HRW.out hown hgrow
                    clear hown hgrow HI8 y1 y2 y3 y4 y5 y0 f1 f2 v0 v1
                    go_wp2
                    go_roundw
                    case rel => exact ⟨j + 1, by omega, by omega, by go_num, _, _, _, by rw [HCW.out]; exact HI9.out, fun _ => rfl⟩
                    case measure => simp [intOf]; omega
                  · have HRW : Hid (K.rw M p0 p (j + 1) = K.rw M p0 p j) := hid (by rw [K.rw, if_neg (fun h => hjm h.1)])
                    have HCW : Hid (K.cl M p0 p (j + 1) = K.cl M p0 p j ++ [((j - p0 : Nat) : Int)]) := hid (by rw [K.cl, if_pos ⟨hjm, HTT.out⟩])
                    obtain ⟨d, hd⟩ : ∃ d : Nat, d = j - p0 := ⟨_, rfl⟩
                    rw [← hd] at HCW
                    have hsub : (j : Int) - (p0 : Int) = (d : Int) := by omega
                    have HI8 := hid (HI7.out.grown ((Below.refl (wr.setCell ⟨tb, j, none⟩ (.bool true)).heap.size _).alloc (Nat.le_refl _) (.cells #[.int .i64 (d : Int)] 3)))
                    have HBASE := hid HI8.out.b2'
                    clear HII HI7 HMK hd
                    go_wp2_with (at_builtin; refine wpList_append_own _ rfl _ _ 40 rfl b2 3 i0 (.int .i64 0) 1 8 Try.underlying40 hi hz0 hz1 hz2 rfl (by decide) _ _ _ rfl HI8.out.cols ⟨wr.heap.size, 0, none⟩ 1 1 [.int .i64 (d : Int)] rfl rfl ?c1 ?c2 ?c3 ?c4 ?c5 ?_)
                    case c1 =>
                      intro k u hk
                      match k, hk with
                      | 0, hk =>
                        simp at hk; subst hk
                        rw [Addr.add_lit, World.cell?_alloc_at _ _ _ _ (by simp)]
                        rfl
                    case c2 => intro u hu; simp at hu; subst hu; rfl
                    case c3 => have := HCL.out; unfold maxLen; omega
                    case c4 => have := HCL.out; omega
                    case c5 => exact HBASE.out
                    intro v' w8 hown hgrow _
                    obtain ⟨g', cap', rfl, k1, k2, HI9⟩ := HI8.out.colStep HCW.out hown hgrow
                    clear hown hgrow HI8 y1 y2 y3 y4 y5 y0 f1 f2 v0 v1
                    go_wp2
                    go_roundw
                    case rel => exact ⟨j + 1, by omega, by omega, by go_num, _, _, _, by rw [HRW.out]; exact HI9.out, fun h => absurd h (by omega)⟩
                    case measure => simp [intOf]; omega
            · have hje : N = j := by omega
              subst hje
              obtain ⟨rv, cv, b2, hin, _⟩ := hinn
              obtain ⟨ra, rc, rfl, _⟩ := hin.rows.rd
              obtain ⟨ca, cc, rfl, _⟩ := hin.cols.rd
              obtain ⟨vs, e1, e2, e3⟩ := hin.gs'.ex
              have v0 : wr.cell? ⟨gv, 0, none⟩ = some (.slice ra (K.rw M p0 p N).length rc) := hin.var.cell (i := 0) (by omega)
              have v1 : wr.cell? ⟨gv, 1, none⟩ = some (.slice ca (K.cl M p0 p N).length cc) := hin.var.cell (i := 1) (by omega)
              have g1 : gv < wr.heap.size := hin.var.lt
              have hgsl := K.gs_len M p0 N p
              have hal : Below wr.heap.size wr (wr.alloc (.cells #[.slice ra (K.rw M p0 p N).length rc, .slice ca (K.cl M p0 p N).length cc] 94)) := (Below.refl _ _).alloc (Nat.le_refl _) _
              have HI8 := hid (hin.grown hal)
              have HE1 := hid e1
              have HE2 := hid (World.ownsRow.kept e2 (grown_below hal) (Classical.em _))
              have HE3 := hid (show ∀ k (h : k < (K.gs M p0 N p).length) (h' : k < vs.length), RowI _ (tb + 1) vs[k].1 _ ∧ RowI _ (tb + 1) vs[k].2 _ ∧ Lower gv vs[k].1 ∧ Lower gv vs[k].2 from fun k h h' => by
                obtain ⟨q1, q2, q3, q4⟩ := e3 k h h'
                exact ⟨q1.kept (grown_below hal) (Classical.em _), q2.kept (grown_below hal) (Classical.em _), q3, q4⟩)
              have HMK := hid (K.mk_end M N p)
              have HLO := hid hin.o2
              clear hin e1 e2 e3 hal
              go_wp2_with (at_builtin; refine wpList_append_own _ rfl _ _ 37 rfl (tb + 1) 94 i1 (.agg #[.slice none 0 0, .slice none 0 0]) 2 48 Try.underlying37 ji jz0 jz1 jz2 rfl (by decide) _ _ _ rfl HE2.out ⟨wr.heap.size, 0, none⟩ 1 1 [.slice ra (K.rw M p0 p N).length rc, .slice ca (K.cl M p0 p N).length cc] rfl rfl ?c1 ?c2 ?c3 ?c4 ?c5 ?_)
              case c1 =>
                intro k u hk
                match k, hk with
                | 0, hk =>
                  simp at hk; subst hk
                  rw [Addr.add_lit, World.cell?_alloc_at _ _ _ _ rfl]
                  rfl
                | 1, hk =>
                  simp at hk; subst hk
                  rw [Addr.add_lit, World.cell?_alloc_at _ _ _ _ rfl]
                  rfl
              case c2 => intro u hu; simp at hu; rcases hu with rfl | rfl <;> rfl
              case c3 => unfold maxLen; omega
              case c4 => omega
              case c5 => have := HLO.out; simp; omega
              intro v' w8 hown hgrow _
              have HO8 : Hid (K.OuterR w1 bo tb p0 N ib F M (p + 1) v' w8) := hid (by
                unfold K.OuterR
                rw [HN.out, ← HMK.out]
                exact HI8.out.finish HE1.out HE2.out HE3.out hown hgrow)
              clear hown hgrow HI8 HE1 HE2 HE3 v0 v1
              go_wp2
              go_roundw
              case rel => exact ⟨p + 1, by omega, by go_num, HO8.out⟩
              case measure => simp [intOf]; omega
      · have hpe : N = p := by omega
        subst hpe
        have HFB := hid (HBW.out.trans (HBL.out.mono HBW.out.size))
        go_wp2
        go_ret2
        exact ⟨_, _, _, rfl, HGS.out, HFB.out⟩
  · have hne : (K.chk m n bs != 0) = true := by simpa using h0
    have HRS : Hid (K.gsr m n bs = []) := hid (by unfold K.gsr; rw [if_neg h0])
    rw [HRS.out]
    generalize K.chk m n bs = err at *
    clear h0 hm
    unfold K.rk at HCK ⊢
    go_enter Try.func20, Try.ntmps20
    go_wp2_with fail
    refine HCK.out.mono ?_
    rintro e w1 ⟨rfl, hb⟩
    have HBW := hid (HB0.out.trans (hb.mono HB0.out.size))
    clear hb
    go_wp2
    go_ret2
    exact ⟨_, 0, 0, rfl, ⟨⟨[], rfl, World.ownsRow_nil _ _ _ _, fun k h => absurd h (Nat.not_lt_zero _)⟩, fun q hq => by cases hq⟩, HBW.out⟩
end Go.Proofs.Ytmbfpekcfeeifaa
