/- Package rack: the walks of Stiff and Groups. -/
import Derived.Test.YtmbfpekcfeeifaaKStiff
namespace Go.Proofs.Ytmbfpekcfeeifaa
open Go.RowKit

/-- Groups, returned with an error. -/
def K.GsE (gs : List (List Int × List Int)) (err : Int) (w : World) (e : Ending) (w' : World) : Prop := ∃ v lo hi, e = .returned (.tuple #[v, .int .i64 err]) ∧ GsAt w' lo hi v gs ∧ Below w.heap.size w w'
/-- A rack in a box. -/
theorem box_rack (w : World) (m n : Int) (a : Option Addr) (c : Nat) (bs : List Br) (hR : RdB w a bs) : Hid (Below w.heap.size w (w.alloc (.cells #[.int .i64 m, .int .i64 n, .slice a bs.length c] 24))) ∧
    (∀ w', Below (w.alloc (.cells #[.int .i64 m, .int .i64 n, .slice a bs.length c] 24)).heap.size (w.alloc (.cells #[.int .i64 m, .int .i64 n, .slice a bs.length c] 24)) w' →
      w'.cell? ⟨w.heap.size, 0, none⟩ = some (.int .i64 m) ∧ w'.cell? ⟨w.heap.size, 1, none⟩ = some (.int .i64 n) ∧ w'.cell? ⟨w.heap.size, 2, none⟩ = some (.slice a bs.length c) ∧ RdB w' a bs ∧ Below w.heap.size w w' ∧ w.heap.size < w'.heap.size) := by
  have hb0 : Below w.heap.size w (w.alloc (.cells #[.int .i64 m, .int .i64 n, .slice a bs.length c] 24)) := (Below.refl _ _).alloc (Nat.le_refl _) _
  have k0 : (w.alloc (.cells #[.int .i64 m, .int .i64 n, .slice a bs.length c] 24)).cell? ⟨w.heap.size, 0, none⟩ = some (.int .i64 m) := by rw [World.cell?_alloc_at _ _ _ _ rfl]; rfl
  have k1 : (w.alloc (.cells #[.int .i64 m, .int .i64 n, .slice a bs.length c] 24)).cell? ⟨w.heap.size, 1, none⟩ = some (.int .i64 n) := by rw [World.cell?_alloc_at _ _ _ _ rfl]; rfl
  have k2 : (w.alloc (.cells #[.int .i64 m, .int .i64 n, .slice a bs.length c] 24)).cell? ⟨w.heap.size, 2, none⟩ = some (.slice a bs.length c) := by rw [World.cell?_alloc_at _ _ _ _ rfl]; rfl
  refine ⟨hid hb0, fun w' hb => ⟨cell_stays hb (Nat.le_refl _) k0, cell_stays hb (Nat.le_refl _) k1, cell_stays hb (Nat.le_refl _) k2, (hR.stays hb0).stays hb, hb0.trans (hb.mono hb0.size), Nat.lt_of_lt_of_le (World.block_lt_of_cell? _ _ k0) hb.size⟩⟩

set_option maxHeartbeats 2000000 in
set_option maxRecDepth 100000 in
theorem stiff_any (m n : Int) (a : Option Addr) (c : Nat) (bs : List Br) (w : World) (hm : bs.length ≤ maxLen) (hR : RdB w a bs) :
    Calls Try.prog 17 #[K.rk m n a bs.length c] w fun e w' => e = .returned (.tuple #[.bool (K.stf m n bs), .int .i64 (K.chk m n bs)]) ∧ Below w.heap.size w w' := by
  obtain ⟨HB0, hbx⟩ := box_rack w m n a c bs hR
  have HBX := hid hbx
  have HCK := hid (check_any m n a c bs _ hm (hR.stays HB0.out))
  clear hbx hR
  by_cases h0 : K.chk m n bs = 0
  · obtain ⟨p, q, rfl, rfl, hok⟩ := K.chk_ok h0
    have HRS : Hid (K.stf p q bs = decide ((K.gsv p q bs).length = 1) ∧ K.chk p q bs = 0) := hid ⟨by unfold K.stf; rw [if_pos h0]; simp, h0⟩
    rw [h0] at HCK
    have HC0 := hid (fun w1 hr => isStiff_any p q a c bs w1 hm hr hok.m6 hok.n6 hok.inb)
    clear h0 hok hm
    rw [HRS.out.1, HRS.out.2]
    generalize decide ((K.gsv p q bs).length = 1) = r at *
    clear HRS
    unfold K.rk at HCK HC0 ⊢
    go_enter Try.func17, Try.ntmps17
    go_wp2_with fail
    refine HCK.out.mono ?_
    rintro e w1 ⟨rfl, hb⟩
    obtain ⟨k0, k1, k2, hr, hbw, hsz⟩ := HBX.out w1 hb
    have HC := hid (HC0.out w1 hr)
    have HBW := hid hbw
    clear hb hr hbw
    go_wp2_with fail
    refine HC.out.mono ?_
    rintro e w2 ⟨rfl, hb⟩
    have HB2 := hid (HBW.out.trans (hb.mono HBW.out.size))
    clear hb
    go_wp2
    go_ret2
    exact ⟨rfl, HB2.out⟩
  · have hne : (K.chk m n bs != 0) = true := by simpa using h0
    have HRS : Hid (K.stf m n bs = false) := hid (by unfold K.stf; rw [if_neg h0])
    rw [HRS.out]
    generalize K.chk m n bs = err at *
    clear h0 hm
    unfold K.rk at HCK ⊢
    go_enter Try.func17, Try.ntmps17
    go_wp2_with fail
    refine HCK.out.mono ?_
    rintro e w1 ⟨rfl, hb⟩
    have HBW := hid (HB0.out.trans (hb.mono HB0.out.size))
    clear hb
    go_wp2
    go_ret2
    exact ⟨rfl, HBW.out⟩
set_option maxHeartbeats 2000000 in
set_option maxRecDepth 100000 in
theorem groups_any (m n : Int) (a : Option Addr) (c : Nat) (bs : List Br) (w : World) (hm : bs.length ≤ maxLen) (hR : RdB w a bs) :
    Calls Try.prog 19 #[K.rk m n a bs.length c] w (K.GsE (K.gsr m n bs) (K.chk m n bs) w) := by
  obtain ⟨HB0, hbx⟩ := box_rack w m n a c bs hR
  have HBX := hid hbx
  have HCK := hid (check_any m n a c bs _ hm (hR.stays HB0.out))
  clear hbx hR
  by_cases h0 : K.chk m n bs = 0
  · obtain ⟨p, q, rfl, rfl, hok⟩ := K.chk_ok h0
    have HRS : Hid (K.gsr p q bs = K.gsv p q bs ∧ K.chk p q bs = 0) := hid ⟨by unfold K.gsr; rw [if_pos h0]; simp, h0⟩
    rw [h0] at HCK
    have HC0 := hid (fun w1 hr => groupsOf_any p q a c bs w1 hm hr hok.m6 hok.n6 hok.inb)
    clear h0 hok hm
    rw [HRS.out.1, HRS.out.2]
    have HG : Hid (K.gs (K.leads p bs) p (p + q) (p + q) = K.gsv p q bs) := hid rfl
    rw [HG.out] at HC0
    generalize K.gsv p q bs = gs at *
    clear HRS HG
    unfold K.rk at HCK HC0 ⊢
    go_enter Try.func19, Try.ntmps19
    go_wp2_with fail
    refine HCK.out.mono ?_
    rintro e w1 ⟨rfl, hb⟩
    obtain ⟨k0, k1, k2, hr, hbw, hsz⟩ := HBX.out w1 hb
    have HC := hid (HC0.out w1 hr)
    have HBW := hid hbw
    clear hb hr hbw
    go_wp2_with fail
    refine HC.out.mono ?_
    rintro e w2 ⟨v, lo, hi, rfl, hgs, hb⟩
    have HGS := hid hgs
    have HB2 := hid (HBW.out.trans (hb.mono HBW.out.size))
    clear hgs hb
    go_wp2
    go_ret2
    exact ⟨v, lo, hi, rfl, HGS.out, HB2.out⟩
  · have hne : (K.chk m n bs != 0) = true := by simpa using h0
    have HRS : Hid (K.gsr m n bs = []) := hid (by unfold K.gsr; rw [if_neg h0])
    rw [HRS.out]
    generalize K.chk m n bs = err at *
    clear h0 hm
    unfold K.rk at HCK ⊢
    go_enter Try.func19, Try.ntmps19
    go_wp2_with fail
    refine HCK.out.mono ?_
    rintro e w1 ⟨rfl, hb⟩
    have HBW := hid (HB0.out.trans (hb.mono HB0.out.size))
    clear hb
    go_wp2
    go_ret2
    exact ⟨_, 0, 0, rfl, GsAt.nil _ _ _, HBW.out⟩
end Go.Proofs.Ytmbfpekcfeeifaa
