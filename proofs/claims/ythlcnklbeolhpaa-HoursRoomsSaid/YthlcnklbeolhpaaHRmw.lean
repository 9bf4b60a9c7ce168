/- The walk of the law HoursRooms. -/
import Derived.Test.YthlcnklbeolhpaaHRef6
import Derived.Test.YthlcnklbeolhpaaHSumw
namespace Go.Proofs.Ythlcnklbeolhpaa
open Go.RowKit Ev

set_option maxHeartbeats 8000000 in
set_option maxRecDepth 100000 in
theorem hoursRooms_any (a : Option Addr) (c : Nat) (T : List (List Int)) (s x y L : Int) (w : World) (hLw : L ≤ 9223372036854775807) (hx : RdM w a T) :
    Calls Try.prog 6 #[.slice a T.length c, .int .i64 s, .int .i64 x, .int .i64 y, .int .i64 L] w fun e w' => e = .returned (.bool true) ∧ Below w.heap.size w w' := by
  have HLG := hid (large_any a c T w hx)
  cases hlg : H.lrg T with
  | true =>
    rw [hlg] at HLG
    have HWK := hid works_gives
    clear hx hlg
    go_enter Try.func6, Try.ntmps6
    go_wp2_with fail
    refine HLG.out.mono ?_
    rintro e w' ⟨rfl, rfl⟩
    go_wp2_with fail
    refine (HWK.out _).mono ?_
    rintro e w3 ⟨rfl, hb⟩
    have HB3 := hid hb
    clear hb
    go_wp2
    go_ret
    exact ⟨rfl, HB3.out⟩
  | false =>
  rw [hlg] at HLG
  obtain ⟨hT20, hR20⟩ := H.lrg_small hlg
  have hm : T.length ≤ maxLen := by unfold maxLen; omega
  have hl : ∀ i (h : i < T.length), T[i].length ≤ maxLen := fun i h => by have := hR20 i h; unfold maxLen; omega
  have HS1 := hid (fun W (h : Below w.heap.size w W) => busy_any a c T s W hm hl (hx.stays h))
  have HS2 := hid (fun W (h : Below w.heap.size w W) => refBusy_any a c T s W hm hl (hx.stays h))
  have HH1 := hid (fun W (h : Below w.heap.size w W) => room_any a c T s x y W hm hl (hx.stays h))
  have HH2 := hid (fun W (h : Below w.heap.size w W) => refRoom_any a c T s x y W hm hl (hx.stays h))
  have HD1 := hid (fun W (h : Below w.heap.size w W) => enough_any a c T L W hm hl (hx.stays h))
  have HD2 := hid (fun W (h : Below w.heap.size w W) => refEnough_any a c T L W hLw hm hl (hx.stays h))
  have HL1 : Hid ((if H.chks T s = 0 then H.plc (H.rows T) (H.sht T s) else []).length ≤ maxLen) := hid (by
    split
    · have h1 := H.plcAt_len (H.rows T) (H.sht T s) (H.rows T).length
      have h2 : (H.rows T).length = T.length := by unfold H.rows; simp
      unfold H.plc maxLen
      omega
    · exact Nat.zero_le _)
  have HL2 : Hid ((if H.chks T s = 0 then H.plc (H.cols T) (H.sht T s) else []).length ≤ maxLen) := hid (by
    split
    · rename_i h
      have h1 := H.plcAt_len (H.cols T) (H.sht T s) (H.cols T).length
      have h2 : (H.cols T).length = H.wid T := by unfold H.cols; simp
      have h3 := (H.chks_ok h).1.n6
      unfold H.plc maxLen
      omega
    · exact Nat.zero_le _)
  have HN := hid (fun r1 r2 c1 c2 l W (h : l.length ≤ maxLen) => numbers_eq r1 r2 c1 c2 l W h)
  have HWK := hid works_gives
  unfold H.Two3 at HS1 HS2
  clear hx hlg hT20 hR20 hm hl
  generalize (if H.chks T s = 0 then H.plc (H.rows T) (H.sht T s) else []) = R at *
  generalize (if H.chks T s = 0 then H.plc (H.cols T) (H.sht T s) else []) = C at *
  generalize H.chks T s = es at *
  generalize H.rmE T s x y = q at *
  generalize H.rmX T s x y = qx at *
  generalize H.enE T L = z at *
  generalize H.enX T L = zx at *
  go_enter Try.func6, Try.ntmps6
  go_wp2_with fail
  refine HLG.out.mono ?_
  rintro e w' ⟨rfl, rfl⟩
  go_wp2_with fail
  refine (HS1.out _ (Below.refl _ _)).mono ?_
  rintro e w1 ⟨a1, c1, a2, c2, rfl, r1, r2, hb1⟩
  have HB1 := hid hb1
  have R1 := hid r1
  have R2 := hid r2
  clear hb1 r1 r2
  go_wp2_with fail
  refine (HS2.out _ HB1.out).mono ?_
  rintro e w2 ⟨a3, c3, a4, c4, rfl, r3, r4, hb⟩
  have HB2 := hid (HB1.out.trans (hb.mono HB1.out.size))
  have R12 := hid (R1.out.stays hb)
  have R22 := hid (R2.out.stays hb)
  have R3 := hid r3
  have R4 := hid r4
  clear hb r3 r4 R1 R2
  go_wp2_with fail
  refine (HH1.out _ HB2.out).mono ?_
  rintro e w3 ⟨rfl, hb⟩
  have HE3 := hid hb
  have HB3 := hid (HB2.out.trans (hb.mono HB2.out.size))
  clear hb
  go_wp2_with fail
  refine (HH2.out _ HB3.out).mono ?_
  rintro e w4 ⟨rfl, hb⟩
  have HE4 := hid (HE3.out.trans (hb.mono HE3.out.size))
  have HB4 := hid (HB3.out.trans (hb.mono HB3.out.size))
  clear hb
  go_wp2_with fail
  refine (HD1.out _ HB4.out).mono ?_
  rintro e w5 ⟨rfl, hb⟩
  have HE5 := hid (HE4.out.trans (hb.mono HE4.out.size))
  have HB5 := hid (HB4.out.trans (hb.mono HB4.out.size))
  clear hb
  go_wp2_with fail
  refine (HD2.out _ HB5.out).mono ?_
  rintro e w10 ⟨rfl, hb⟩
  have HE10 := hid (HE5.out.trans (hb.mono HE5.out.size))
  have HB10 := hid (HB5.out.trans (hb.mono HB5.out.size))
  have HN1 := hid (HN.out a1 a3 c1 c3 R w10 HL1.out (R12.out.stays HE10.out) (R3.out.stays HE10.out))
  have HN2 := hid (fun q => HN.out a2 a4 c2 c4 C (w10.drewN q) HL2.out ((R22.out.stays HE10.out).drewN q) ((R4.out.stays HE10.out).drewN q))
  clear hb R12 R22 R3 R4
  go_wp2_with fail
  refine HN1.out.mono ?_
  rintro e w' ⟨rfl, q1, rfl⟩
  go_wp2_with fail
  refine (HN2.out q1).mono ?_
  rintro e w' ⟨rfl, q2, rfl⟩
  have HB11 := hid (below_drewN (below_drewN HB10.out q1) q2)
  generalize (w10.drewN q1).drewN q2 = w11 at *
  have t1 : (es == es) = true := by simp
  have t2 : (q == q) = true := by simp
  have t3 : (qx == qx) = true := by simp
  have t4 : (z == z) = true := by simp
  have t5 : (zx == zx) = true := by simp
  go_wp2_with fail
  refine (HWK.out _).mono ?_
  rintro e w12 ⟨rfl, hb⟩
  have HBE := hid (HB11.out.trans (hb.mono HB11.out.size))
  clear hb
  go_wp2
  go_ret
  exact ⟨rfl, HBE.out⟩
end Go.Proofs.Ythlcnklbeolhpaa
