/- Package ink: the walks of Gives, the program's and the reference's. -/
import Derived.Test.YtapndndbibgjoaaIGive
namespace Go.Proofs.Ytapndndbibgjoaa
open Go.RowKit

/-- The colours that a sequence gives, or none. -/
def K.gvl (n : Int) (T : List (List Int)) (l : List Int) : List Int := if K.sq n T l 12 ≠ 0 then [] else K.list (K.seq (K.rowsOf T l) 1)
theorem K.list_len (s : Nat) : (K.list s).length ≤ 7 := by
  unfold K.list
  rw [List.length_map]
  exact Nat.le_trans (List.length_filter_le _ _) (Nat.le_of_eq (List.length_range))
theorem K.gvl_len (n : Int) (T : List (List Int)) (l : List Int) : (K.gvl n T l).length ≤ 7 := by
  unfold K.gvl
  split
  · exact Nat.zero_le _
  · exact K.list_len _

set_option maxHeartbeats 4000000 in
set_option maxRecDepth 100000 in
theorem inkGivesP_any (n : Int) (a al : Option Addr) (c cl : Nat) (T : List (List Int)) (l : List Int) (w : World) (hm : T.length ≤ maxLen) (hml : l.length ≤ maxLen) (hT : RdM w a T) (hl : RdI w al l) :
    Calls Try.prog 17 #[K.pal n a T.length c, .slice al l.length cl] w fun e w' => ∃ r cr, e = .returned (.tuple #[.slice r (K.gvl n T l).length cr, .int .i64 (K.sq n T l 12)]) ∧ RdI w' r (K.gvl n T l) ∧ Below w.heap.size w w' := by
  have hb0 : Below w.heap.size w (w.alloc (.cells #[.int .i64 n, .slice a T.length c] 24)) := (Below.refl _ _).alloc (Nat.le_refl _) _
  have k0 : (w.alloc (.cells #[.int .i64 n, .slice a T.length c] 24)).cell? ⟨w.heap.size, 0, none⟩ = some (.int .i64 n) := by rw [World.cell?_alloc_at _ _ _ _ rfl]; rfl
  have k1 : (w.alloc (.cells #[.int .i64 n, .slice a T.length c] 24)).cell? ⟨w.heap.size, 1, none⟩ = some (.slice a T.length c) := by rw [World.cell?_alloc_at _ _ _ _ rfl]; rfl
  have HB0 := hid hb0
  have HK0 := hid k0
  have HK1 := hid k1
  have HC := hid (checkStones_any n a al c cl T l 12 _ hm hml (hT.stays hb0) (hl.stays hb0))
  have HT := hid (hT.stays hb0)
  have HL := hid (hl.stays hb0)
  have HE : Hid (K.gvl n T l = if K.sq n T l 12 ≠ 0 then [] else K.list (K.seq (K.rowsOf T l) 1)) := hid rfl
  clear hb0 hT hl
  unfold maxLen at hml
  unfold K.pal at HC ⊢
  by_cases h0 : K.sq n T l 12 = 0
  · obtain ⟨hg0, h12, hin⟩ := K.sq_good h0
    have hg := K.good_of hg0
    rw [h0] at HC ⊢
    have hE : K.gvl n T l = K.list (K.seq (K.rowsOf T l) 1) := by rw [HE.out, if_neg (by omega)]
    rw [hE]
    clear hE HE h0
    have h7 : n.toNat ≤ 7 := by have := hg.hi; omega
    have hn1 : 1 ≤ n.toNat := by have := hg.lo; omega
    have HROW := hid (K.rowsOf_rows hg hin)
    have hs := K.lt_128 (K.seq_lt h7 (T := K.rowsOf T l) HROW.out (K.one_lt hn1)) h7
    have HS := hid (fun W hx hy => stonesOf_any n a al c cl T l W hg hin h12 hx hy)
    have hlr := K.rowsOf_length T l
    unfold K.pal at HS
    have HLI := hid (fun W => setList_any (K.seq (K.rowsOf T l) 1) W hs)
    clear hg hin hg0 hs
    rw [hlr] at HS
    generalize K.rowsOf T l = R at *
    go_enter Try.func17, Try.ntmps17
    go_wp2_with fail
    generalize w.alloc (.cells #[.int .i64 n, .slice a T.length c] 24) = w1 at *
    refine HC.out.mono ?_
    rintro e w2 ⟨rfl, hb⟩
    have HB2 := hid (HB0.out.trans (hb.mono HB0.out.size))
    have q0 := cell_stays hb (Nat.le_refl _) HK0.out
    have q1 := cell_stays hb (Nat.le_refl _) HK1.out
    have HS2 := hid (HS.out w2 (HT.out.stays hb) (HL.out.stays hb))
    clear hb HC HS HT HL k0 k1
    go_wp2_with fail
    refine HS2.out.mono ?_
    rintro e w3 ⟨rs, rc, rfl, hrc, hrd, hb⟩
    have HB3 := hid (HB2.out.trans (hb.mono HB2.out.size))
    have HGA := hid (inkGives_any n.toNat hn1 h7 rs rc R w3 (by unfold maxLen; omega) HROW.out hrd)
    clear hb hrd HS2 HB2 q0 q1
    rw [hlr] at HGA
    go_wp2_with fail
    refine HGA.out.mono ?_
    rintro e w4 ⟨rfl, hb⟩
    have HB4 := hid (HB3.out.trans (hb.mono HB3.out.size))
    clear hb HGA HROW
    go_wp2_with fail
    refine (HLI.out _).mono ?_
    rintro e w5 ⟨r5, c5, rfl, hc5, hr5, hb⟩
    have HR5 := hid hr5
    have HB5 := hid (HB4.out.trans (hb.mono HB4.out.size))
    clear hb hr5 HLI HB4
    go_wp2
    go_ret2
    exact ⟨r5, c5, rfl, HR5.out, HB5.out⟩
  · have hE : K.gvl n T l = [] := by rw [HE.out, if_pos h0]
    rw [hE]
    have h0b : (K.sq n T l 12 == 0) = false := by simpa using h0
    clear hE HE
    generalize K.sq n T l 12 = q at *
    clear h0
    go_enter Try.func17, Try.ntmps17
    go_wp2_with fail
    generalize w.alloc (.cells #[.int .i64 n, .slice a T.length c] 24) = w1 at *
    refine HC.out.mono ?_
    rintro e w2 ⟨rfl, hb⟩
    have HB2 := hid (HB0.out.trans (hb.mono HB0.out.size))
    clear hb HC k0 k1
    go_wp2
    go_ret2
    exact ⟨none, 0, rfl, RdI.nil _ _, HB2.out⟩

set_option maxHeartbeats 4000000 in
set_option maxRecDepth 100000 in
theorem refGives_any (n : Int) (a al : Option Addr) (c cl : Nat) (T : List (List Int)) (l : List Int) (w : World) (hm : T.length ≤ maxLen) (hml : l.length ≤ maxLen) (hT : RdM w a T) (hl : RdI w al l) :
    Calls Try.prog 18 #[K.pal n a T.length c, .slice al l.length cl] w fun e w' => ∃ r cr, e = .returned (.tuple #[.slice r (K.gvl n T l).length cr, .int .i64 (K.sq n T l 12)]) ∧ RdI w' r (K.gvl n T l) ∧ Below w.heap.size w w' := by
  have hb0 : Below w.heap.size w (w.alloc (.cells #[.int .i64 n, .slice a T.length c] 29)) := (Below.refl _ _).alloc (Nat.le_refl _) _
  have k0 : (w.alloc (.cells #[.int .i64 n, .slice a T.length c] 29)).cell? ⟨w.heap.size, 0, none⟩ = some (.int .i64 n) := by rw [World.cell?_alloc_at _ _ _ _ rfl]; rfl
  have k1 : (w.alloc (.cells #[.int .i64 n, .slice a T.length c] 29)).cell? ⟨w.heap.size, 1, none⟩ = some (.slice a T.length c) := by rw [World.cell?_alloc_at _ _ _ _ rfl]; rfl
  have HB0 := hid hb0
  have HK0 := hid k0
  have HK1 := hid k1
  have HC := hid (sequenced_any n a al c cl T l 12 _ hm hml (hT.stays hb0) (hl.stays hb0))
  have HT := hid (hT.stays hb0)
  have HL := hid (hl.stays hb0)
  have HE : Hid (K.gvl n T l = if K.sq n T l 12 ≠ 0 then [] else K.list (K.seq (K.rowsOf T l) 1)) := hid rfl
  clear hb0 hT hl
  unfold maxLen at hml
  unfold K.pal at HC ⊢
  by_cases h0 : K.sq n T l 12 = 0
  · obtain ⟨hg0, h12, hin⟩ := K.sq_good h0
    have hg := K.good_of hg0
    rw [h0] at HC ⊢
    have hE : K.gvl n T l = K.list (K.seq (K.rowsOf T l) 1) := by rw [HE.out, if_neg (by omega)]
    rw [hE]
    clear hE HE h0
    have h7 : n.toNat ≤ 7 := by have := hg.hi; omega
    have hn1 : 1 ≤ n.toNat := by have := hg.lo; omega
    have HROW := hid (K.rowsOf_rows hg hin)
    have hs := K.lt_128 (K.seq_lt h7 (T := K.rowsOf T l) HROW.out (K.one_lt hn1)) h7
    have HS := hid (fun W hx hy => refGives0_any n a al c cl T l W hg hin h12 hx hy)
    unfold K.pal at HS
    have HLI := hid (fun W => refListed_any (K.seq (K.rowsOf T l) 1) W hs)
    clear hg hin hg0 hs HROW
    generalize K.seq (K.rowsOf T l) 1 = s at *
    go_enter Try.func18, Try.ntmps18
    go_wp2_with fail
    generalize w.alloc (.cells #[.int .i64 n, .slice a T.length c] 29) = w1 at *
    refine HC.out.mono ?_
    rintro e w2 ⟨rfl, hb⟩
    have HB2 := hid (HB0.out.trans (hb.mono HB0.out.size))
    have q0 := cell_stays hb (Nat.le_refl _) HK0.out
    have q1 := cell_stays hb (Nat.le_refl _) HK1.out
    have HS2 := hid (HS.out w2 (HT.out.stays hb) (HL.out.stays hb))
    clear hb HC HS HT HL k0 k1
    go_wp2_with fail
    refine HS2.out.mono ?_
    rintro e w4 ⟨rfl, hb⟩
    have HB4 := hid (HB2.out.trans (hb.mono HB2.out.size))
    clear hb HS2 HB2 q0 q1
    go_wp2_with fail
    refine (HLI.out _).mono ?_
    rintro e w5 ⟨r5, c5, rfl, hc5, hr5, hb⟩
    have HR5 := hid hr5
    have HB5 := hid (HB4.out.trans (hb.mono HB4.out.size))
    clear hb hr5 HLI HB4
    go_wp2
    go_ret2
    exact ⟨r5, c5, rfl, HR5.out, HB5.out⟩
  · have hE : K.gvl n T l = [] := by rw [HE.out, if_pos h0]
    rw [hE]
    have h0b : (K.sq n T l 12 == 0) = false := by simpa using h0
    clear hE HE
    generalize K.sq n T l 12 = q at *
    clear h0
    go_enter Try.func18, Try.ntmps18
    go_wp2_with fail
    generalize w.alloc (.cells #[.int .i64 n, .slice a T.length c] 29) = w1 at *
    refine HC.out.mono ?_
    rintro e w2 ⟨rfl, hb⟩
    have HB2 := hid (HB0.out.trans (hb.mono HB0.out.size))
    clear hb HC k0 k1
    go_wp2
    go_ret2
    exact ⟨none, 0, rfl, RdI.nil _ _, HB2.out⟩
end Go.Proofs.Ytapndndbibgjoaa
