/- The walk of the law RackMoves. -/
import Derived.Test.YtmbfpekcfeeifaaKRVer
import Derived.Test.YtmbfpekcfeeifaaKWorks
import Derived.Deep.RegionHeld3
namespace Go.Proofs.Ytmbfpekcfeeifaa
open Go.RowKit Ev

set_option maxHeartbeats 8000000 in
set_option maxRecDepth 100000 in
theorem rackMoves_walk (m n : Int) (a : Option Addr) (c : Nat) (bs : List Br) (a1 : Option Addr) (c1 : Nat) (R : List Int) (a2 : Option Addr) (c2 : Nat) (C : List Int) (w : World) (hc1 : bs.length ≤ c) (hc2 : c ≤ maxLen) (hR : RdB w a bs) (hl1 : R.length ≤ maxLen) (hl2 : C.length ≤ maxLen) (h1 : RdI w a1 R) (h2 : RdI w a2 C) :
    Calls Try.prog 4 #[K.rk m n a bs.length c, .agg #[.slice a1 R.length c1, .slice a2 C.length c2]] w fun e w' => e = .returned (.bool true) ∧ Below w.heap.size w w' := by
  have hm : bs.length ≤ maxLen := by omega
  obtain ⟨hb0, hbx⟩ := K.vf_box w 24 50 m n (.slice a bs.length c) (.slice a1 R.length c1) (.slice a2 C.length c2)
  have HBX := hid hbx
  have HB0 := hid hb0
  have HRB := hid (hR.stays hb0)
  have HR1 := hid (h1.stays2 hb0)
  have HR2 := hid (h2.stays2 hb0)
  have HWK := hid works_gives
  clear hb0 hbx hR h1 h2
  by_cases hbig : 60 < bs.length ∨ 40 < R.length ∨ 40 < C.length
  · unfold maxLen at hm hc2 hl1 hl2
    unfold K.rk
    by_cases h60 : 60 < bs.length
    · go_enter Try.func4, Try.ntmps4
      go_wp2_with fail
      refine (HWK.out _).mono ?_
      rintro e w3 ⟨rfl, hb⟩
      have HB3 := hid (HB0.out.trans (hb.mono HB0.out.size))
      clear hb
      go_wp2
      go_ret
      exact ⟨rfl, HB3.out⟩
    · by_cases h40 : 40 < R.length
      · go_enter Try.func4, Try.ntmps4
        go_wp2_with fail
        refine (HWK.out _).mono ?_
        rintro e w3 ⟨rfl, hb⟩
        have HB3 := hid (HB0.out.trans (hb.mono HB0.out.size))
        clear hb
        go_wp2
        go_ret
        exact ⟨rfl, HB3.out⟩
      · have h41 : 40 < C.length := by omega
        go_enter Try.func4, Try.ntmps4
        go_wp2_with fail
        refine (HWK.out _).mono ?_
        rintro e w3 ⟨rfl, hb⟩
        have HB3 := hid (HB0.out.trans (hb.mono HB0.out.size))
        clear hb
        go_wp2
        go_ret
        exact ⟨rfl, HB3.out⟩
  have g60 : ¬ 60 < bs.length := by omega
  have g40 : ¬ 40 < R.length := by omega
  have g41 : ¬ 40 < C.length := by omega
  clear hbig
  have HGV := hid (given_any m n a c bs _ (by omega) HRB.out)
  have HMV := hid (fun W hx => move_any m n a c bs W hm hx)
  have HLS := hid (fun a9 c9 W hx => refLoose_any m n a9 c9 bs W hm hx)
  have HV1 := hid (fun W hx hr1 hr2 => verify_any m n a c bs a1 c1 R a2 c2 C W hm (by omega) (by omega) hx hr1 hr2)
  have HV2 := hid (fun a9 c9 W hx hr1 hr2 => refVerify_any m n a9 c9 bs a1 c1 R a2 c2 C W hm (by omega) (by omega) hx hr1 hr2)
  have HV3 := hid (fun a9 c9 r1 s1 R' r2 s2 C' W (h1 : R'.length ≤ 6) (h2 : C'.length ≤ 6) hx hr1 hr2 => refVerify_any m n a9 c9 bs r1 s1 R' r2 s2 C' W hm (by omega) (by omega) hx hr1 hr2)
  unfold K.Gvn at HGV
  unfold K.MvE at HMV
  unfold K.rk at HGV HMV HLS HV1 HV2 HV3 ⊢
  generalize K.ver m n bs R C = ver at *
  unfold maxLen at hm hc2 hl1 hl2
  go_enter Try.func4, Try.ntmps4
  go_wp2_with fail
  refine HGV.out.mono ?_
  rintro e w1 ⟨a9, c9, rfl, h91, h92, hr9, hb⟩
  obtain ⟨hx, hy⟩ := HBX.out w1 hb
  have HB1 := hid (HB0.out.trans (hb.mono HB0.out.size))
  have HX := hid hx
  have HY := hid hy
  have HRB1 := hid (HRB.out.stays hb)
  have HR11 := hid (HR1.out.stays2 hb)
  have HR21 := hid (HR2.out.stays2 hb)
  have HR91 := hid hr9
  have hz := World.rowIs_alloc w1 #[.int .i64 m, .int .i64 n, .slice a9 bs.length c9] 28 (K.rkF m n (.slice a9 bs.length c9)) (fun i hi => by
    have h : i < 3 := hi
    have h2 : i = 0 ∨ i = 1 ∨ i = 2 := by omega
    rcases h2 with rfl | rfl | rfl <;> rfl)
  have HZ := hid hz
  have HA1 : Hid (Below w1.heap.size w1 (w1.alloc (.cells #[.int .i64 m, .int .i64 n, .slice a9 bs.length c9] 28))) := hid ((Below.refl _ _).alloc (Nat.le_refl _) _)
  have k0 : w1.cell? ⟨w.heap.size, 0, none⟩ = some (.int .i64 m) := hx.cell (i := 0) (by omega)
  have k1 : w1.cell? ⟨w.heap.size, 1, none⟩ = some (.int .i64 n) := hx.cell (i := 1) (by omega)
  have k2 : w1.cell? ⟨w.heap.size, 2, none⟩ = some (.slice a bs.length c) := hx.cell (i := 2) (by omega)
  have hsz : w.heap.size + 1 < w1.heap.size := hy.lt
  have hsz0 : w.heap.size < w1.heap.size := hx.lt
  clear hb hx hy hr9 h91 h92 hz HBX HB0 HRB HR1 HR2 HGV
  go_wp2_with fail
  refine (HMV.out _ (HRB1.out.stays HA1.out)).mono ?_
  rintro e w4 ⟨R', C', r1, s1, r2, s2, rfl, hr1, hr2, hb4, hmvd⟩
  have HMD := hid hmvd
  have HG : Hid (w.heap.size + 1 < w1.heap.size) := hid hsz
  have HB4 := hid (HA1.out.trans (hb4.mono HA1.out.size))
  have HZ4 := hid (HZ.out.of_block (hb4.block _ HZ.out.lt))
  generalize hg : w1.heap.size = g at *
  have HGG := hid hg
  have ho := World.rowIs_alloc w4 #[.slice r1 R'.length s1, .slice r2 C'.length s2] 50 (K.moF (.slice r1 R'.length s1) (.slice r2 C'.length s2)) (fun i hi => by
    have h : i < 2 := hi
    have h2 : i = 0 ∨ i = 1 := by omega
    rcases h2 with rfl | rfl <;> rfl)
  have HO := hid ho
  have HRR1 := hid hr1
  have HRR2 := hid hr2
  have HZL := hid HZ4.out.lt
  have u0 : w4.cell? ⟨g, 0, none⟩ = some (.int .i64 m) := HZ4.out.cell (i := 0) (show _ < 3 by omega)
  have u1 : w4.cell? ⟨g, 1, none⟩ = some (.int .i64 n) := HZ4.out.cell (i := 1) (show _ < 3 by omega)
  have u2 : w4.cell? ⟨g, 2, none⟩ = some (.slice a9 bs.length c9) := HZ4.out.cell (i := 2) (show _ < 3 by omega)
  have hgl : g < w4.heap.size := HZ4.out.lt
  clear k0 k1 k2 hr1 hr2 hb4 hmvd ho HMV hg hsz hsz0
  go_wp2_with fail
  have HA4 : Hid (Below w4.heap.size w4 (w4.alloc (.cells #[.slice r1 R'.length s1, .slice r2 C'.length s2] 50))) := hid ((Below.refl _ _).alloc (Nat.le_refl _) _)
  have HB5 : Hid (Below g w1 (w4.alloc (.cells #[.slice r1 R'.length s1, .slice r2 C'.length s2] 50))) := hid (HB4.out.trans (HA4.out.mono (by rw [← HGG.out]; exact HB4.out.size)))
  have HZ5 := hid (HZ4.out.of_block (HA4.out.block _ HZ4.out.lt))
  have HRR15 := hid (HRR1.out.stays2 HA4.out)
  have HRR25 := hid (HRR2.out.stays2 HA4.out)
  clear u0 u1 u2 hgl HZL HRR1 HRR2 HZ4 HB4 HA4
  generalize w4.alloc (.cells #[.slice r1 R'.length s1, .slice r2 C'.length s2] 50) = w5 at *
  generalize w4.heap.size = g4 at *
  clear w4
  have HB15 : Hid (Below w1.heap.size w1 w5) := hid (by rw [HGG.out]; exact HB5.out)
  have HALL := hid (fun W (h : Below w5.heap.size w5 W) => show W.cell? ⟨w.heap.size, 0, none⟩ = some (.int .i64 m) ∧ W.cell? ⟨w.heap.size, 1, none⟩ = some (.int .i64 n) ∧ W.cell? ⟨w.heap.size, 2, none⟩ = some (.slice a bs.length c) ∧ W.cell? ⟨w.heap.size + 1, 0, none⟩ = some (.slice a1 R.length c1) ∧ W.cell? ⟨w.heap.size + 1, 1, none⟩ = some (.slice a2 C.length c2) ∧ W.cell? ⟨g, 0, none⟩ = some (.int .i64 m) ∧ W.cell? ⟨g, 1, none⟩ = some (.int .i64 n) ∧ W.cell? ⟨g, 2, none⟩ = some (.slice a9 bs.length c9) ∧ W.cell? ⟨g4, 0, none⟩ = some (.slice r1 R'.length s1) ∧ W.cell? ⟨g4, 1, none⟩ = some (.slice r2 C'.length s2) from
    have hx := (HX.out.of_block (HB15.out.block _ HX.out.lt)).of_block (h.block _ (Nat.lt_of_lt_of_le HX.out.lt HB15.out.size))
    have hy := (HY.out.of_block (HB15.out.block _ HY.out.lt)).of_block (h.block _ (Nat.lt_of_lt_of_le HY.out.lt HB15.out.size))
    have hz := HZ5.out.of_block (h.block _ HZ5.out.lt)
    have ho := HO.out.of_block (h.block _ HO.out.lt)
    ⟨hx.cell (i := 0) (by omega), hx.cell (i := 1) (by omega), hx.cell (i := 2) (by omega), hy.cell (i := 0) (by omega), hy.cell (i := 1) (by omega), hz.cell (i := 0) (show _ < 3 by omega), hz.cell (i := 1) (show _ < 3 by omega), hz.cell (i := 2) (show _ < 3 by omega), ho.cell (i := 0) (show _ < 2 by omega), ho.cell (i := 1) (show _ < 2 by omega)⟩)
  have HRBW := hid (fun W (h : Below w5.heap.size w5 W) => (HRB1.out.stays HB15.out).stays h)
  have HR9W := hid (fun W (h : Below w5.heap.size w5 W) => (HR91.out.stays HB15.out).stays h)
  have HR1W := hid (fun W (h : Below w5.heap.size w5 W) => (HR11.out.stays2 HB15.out).stays2 h)
  have HR2W := hid (fun W (h : Below w5.heap.size w5 W) => (HR21.out.stays2 HB15.out).stays2 h)
  have HQ1W := hid (fun W (h : Below w5.heap.size w5 W) => HRR15.out.stays2 h)
  have HQ2W := hid (fun W (h : Below w5.heap.size w5 W) => HRR25.out.stays2 h)
  have HBW5 := hid (HB1.out.trans (HB15.out.mono HB1.out.size))
  have HLS5 := hid (HLS.out a9 c9 w5 (HR9W.out w5 (Below.refl _ _)))
  clear HX HY HRB1 HR11 HR21 HR91 HZ HA1 HB5 HZ5 HRR15 HRR25 HO HLS HG HGG HB15
  refine HLS5.out.mono ?_
  rintro e w6 ⟨rfl, hb6⟩
  have HB6 := hid hb6
  have H1 := hid (fun W (h : Hid (Below w5.heap.size w5 W)) => (HV1.out W (HRBW.out W h.out) (HR1W.out W h.out) (HR2W.out W h.out)).mono (R' := fun e w' => e = .returned (.int .i64 ver) ∧ Hid (Below w5.heap.size w5 w')) (fun e w' hq => ⟨hq.1, hid (h.out.trans (hq.2.mono h.out.size))⟩))
  have H2 := hid (fun W (h : Hid (Below w5.heap.size w5 W)) => (HV2.out a9 c9 W (HR9W.out W h.out) (HR1W.out W h.out) (HR2W.out W h.out)).mono (R' := fun e w' => e = .returned (.int .i64 ver) ∧ Hid (Below w5.heap.size w5 w')) (fun e w' hq => ⟨hq.1, hid (h.out.trans (hq.2.mono h.out.size))⟩))
  have hd : Hid (Below w5.heap.size w5 w6.drew) := hid hb6.drew
  clear hb6 HLS5 HV1 HV2 HRBW HR1W HR2W
  have hle : (K.lse m n bs != K.lse m n bs) = false := by simp
  obtain ⟨p0, p1, p2, p3, p4, p5, p6, p7, p8, p9⟩ := HALL.out _ hd.out
  have HK5 := hid (fun W (h : Below w5.heap.size w5 W) => show W.cell? ⟨w.heap.size, 0, none⟩ = some (.int .i64 m) ∧ W.cell? ⟨w.heap.size, 1, none⟩ = some (.int .i64 n) ∧ W.cell? ⟨w.heap.size, 2, none⟩ = some (.slice a bs.length c) ∧ W.cell? ⟨w.heap.size + 1, 0, none⟩ = some (.slice a1 R.length c1) ∧ W.cell? ⟨w.heap.size + 1, 1, none⟩ = some (.slice a2 C.length c2) ∧ W.cell? ⟨g, 0, none⟩ = some (.int .i64 m) ∧ W.cell? ⟨g, 1, none⟩ = some (.int .i64 n) ∧ W.cell? ⟨g, 2, none⟩ = some (.slice a9 bs.length c9) from
    let q := HALL.out W h
    ⟨q.1, q.2.1, q.2.2.1, q.2.2.2.1, q.2.2.2.2.1, q.2.2.2.2.2.1, q.2.2.2.2.2.2.1, q.2.2.2.2.2.2.2.1⟩)
  generalize hleq : K.lse m n bs = le at *
  have HLE := hid hleq
  clear hleq
  go_wp2
  go_region_held3 (fun W => W.cell? ⟨w.heap.size, 0, none⟩ = some (.int .i64 m) ∧ W.cell? ⟨w.heap.size, 1, none⟩ = some (.int .i64 n) ∧ W.cell? ⟨w.heap.size, 2, none⟩ = some (.slice a bs.length c) ∧ W.cell? ⟨w.heap.size + 1, 0, none⟩ = some (.slice a1 R.length c1) ∧ W.cell? ⟨w.heap.size + 1, 1, none⟩ = some (.slice a2 C.length c2) ∧ W.cell? ⟨g, 0, none⟩ = some (.int .i64 m) ∧ W.cell? ⟨g, 1, none⟩ = some (.int .i64 n) ∧ W.cell? ⟨g, 2, none⟩ = some (.slice a9 bs.length c9)) (first | exact HK5.out _ (Hid.out (by assumption)) | go_keep) (first | (go_at_call 29; (with_reducible refine (H1.out _ (by assumption)).mono ?_); rintro e w10 ⟨rfl, hb10⟩) | (go_at_call 30; (with_reducible refine (H2.out _ (by assumption)).mono ?_); rintro e w11 ⟨rfl, hb11⟩))
  all_goals
    have HE11 := hid hb11.out
    obtain ⟨p0, p1, p2, p3, p4, p5, p6, p7, p8, p9⟩ := HALL.out _ hb11.out
    have HBF := hid (HBW5.out.trans (hb11.out.mono HBW5.out.size))
    clear hb10 hb11 H1 H2 hd HK5
    by_cases hl0 : le = 0
    · subst hl0
      obtain ⟨h1, h2, h3, h4, h5⟩ := HMD.out.2 HLE.out
      have HX1 := hid h1
      have HX2 := hid h2
      have HR3 := hid (HQ1W.out _ HE11.out)
      have HR4 := hid (HQ2W.out _ HE11.out)
      have HV := hid (fun W (h : Below w5.heap.size w5 W) => HV3.out a9 c9 r1 s1 R' r2 s2 C' W h3 h4 (HR9W.out W h) (HQ1W.out W h) (HQ2W.out W h))
      rw [h5] at HV
      clear h1 h2 h5 HV3 HR9W HMD HLE
      go_wp2

      go_loop [9] (fun i => ∃ k : Nat, k ≤ R'.length ∧ i = .int .i64 k) (fun i => R'.length - (intOf i).toNat)
      case atStart => exact ⟨0, Nat.zero_le _, rfl⟩
      case round =>
        obtain ⟨k, hk, rfl⟩ := hrel
        by_cases hlt : k < R'.length
        · obtain ⟨b, off, rfl, ck⟩ := HR3.out k hlt
          have h01 := HX1.out _ (List.getElem_mem hlt)
          generalize R'[k] = x at *
          have hix : (0 : Int) ≤ (k : Int) ∧ (k : Int) < (R'.length : Int) := by omega
          rcases h01 with rfl | rfl
          · go_wp2
            go_round
            case rel => exact ⟨k + 1, by omega, by go_num⟩
            case measure => simp [intOf]; omega
          · go_wp2
            go_round
            case rel => exact ⟨k + 1, by omega, by go_num⟩
            case measure => simp [intOf]; omega
        · have hke : k = R'.length := by omega
          subst hke
          go_wp2

          go_loop [10] (fun i => ∃ k : Nat, k ≤ C'.length ∧ i = .int .i64 k) (fun i => C'.length - (intOf i).toNat)
          case atStart => exact ⟨0, Nat.zero_le _, rfl⟩
          case round =>
            obtain ⟨k, hk, rfl⟩ := hrel
            by_cases hlt : k < C'.length
            · obtain ⟨b, off, rfl, ck⟩ := HR4.out k hlt
              have h01 := HX2.out _ (List.getElem_mem hlt)
              generalize C'[k] = x at *
              have hix : (0 : Int) ≤ (k : Int) ∧ (k : Int) < (C'.length : Int) := by omega
              rcases h01 with rfl | rfl
              · go_wp2
                go_round
                case rel => exact ⟨k + 1, by omega, by go_num⟩
                case measure => simp [intOf]; omega
              · go_wp2
                go_round
                case rel => exact ⟨k + 1, by omega, by go_num⟩
                case measure => simp [intOf]; omega
            · have hke : k = C'.length := by omega
              subst hke
              go_wp2_with fail
              refine (HV.out w11 HE11.out).mono ?_
              rintro e w12 ⟨rfl, hb12⟩
              have HBG := hid (HBF.out.trans (hb12.mono HBF.out.size))
              clear hb12
              go_wp2_with fail
              refine (HWK.out _).mono ?_
              rintro e w13 ⟨rfl, hb13⟩
              have HBH := hid (HBG.out.trans (hb13.mono HBG.out.size))
              clear hb13
              go_wp2
              go_ret
              exact ⟨rfl, HBH.out⟩
    · obtain ⟨rfl, rfl⟩ := HMD.out.1 (by rw [HLE.out]; exact hl0)
      have hne : (le != 0) = true := by simpa using hl0
      clear hl0 HMD HLE HV3
      simp only [List.length_nil] at p8 p9
      go_wp2_with fail
      refine (HWK.out _).mono ?_
      rintro e w12 ⟨rfl, hb12⟩
      have HBG := hid (HBF.out.trans (hb12.mono HBF.out.size))
      clear hb12
      go_wp2
      go_ret
      exact ⟨rfl, HBG.out⟩
end Go.Proofs.Ytmbfpekcfeeifaa
