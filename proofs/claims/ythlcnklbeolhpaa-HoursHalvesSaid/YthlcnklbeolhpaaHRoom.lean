/- Package hours: the walks of placesOf, Busy, Room, Enough. -/
import Derived.Test.YthlcnklbeolhpaaHSht
namespace Go.Proofs.Ythlcnklbeolhpaa
open Go.RowKit

/-- The places of a number in the first part of a list. -/
def H.plcAt (l : List Int) (n : Int) : Nat → List Int
  | 0 => []
  | k + 1 => if l.getD k 0 = n then H.plcAt l n k ++ [(k : Int)] else H.plcAt l n k
def H.plc (l : List Int) (n : Int) : List Int := H.plcAt l n l.length
theorem H.plcAt_len (l : List Int) (n : Int) : ∀ k, (H.plcAt l n k).length ≤ k
  | 0 => Nat.le_refl _
  | k + 1 => by
    have := H.plcAt_len l n k
    unfold H.plcAt
    split
    · rw [List.length_append]; simp; omega
    · omega
theorem H.getD_at' {l : List Int} {k : Nat} (h : k < l.length) : l.getD k 0 = l[k] := by simp only [List.getD, List.getElem?_eq_getElem h, Option.getD_some]
theorem H.plcAt_hit {l : List Int} {n : Int} {k : Nat} (h : k < l.length) (e : l[k] = n) : H.plcAt l n (k + 1) = H.plcAt l n k ++ [(k : Int)] := by
  rw [H.plcAt, if_pos (by rw [H.getD_at' h]; exact e)]
theorem H.plcAt_miss {l : List Int} {n : Int} {k : Nat} (h : k < l.length) (e : l[k] ≠ n) : H.plcAt l n (k + 1) = H.plcAt l n k := by
  rw [H.plcAt, if_neg (by rw [H.getD_at' h]; exact e)]

set_option maxHeartbeats 2000000 in
set_option maxRecDepth 100000 in
theorem placesOf_any (a : Option Addr) (c : Nat) (l : List Int) (n : Int) (w : World) (hm : l.length ≤ 1000) (hx : RdI w a l) :
    Calls Try.prog 73 #[.slice a l.length c, .int .i64 n] w fun e w' => ∃ a1 c1, e = .returned (.slice a1 (H.plc l n).length c1) ∧ RdI w' a1 (H.plc l n) ∧ Below w.heap.size w w' := by
  obtain ⟨i0, hi, hz0, hz1, hz2⟩ := info_parts (show (Try.prog.info? 3).map (fun i => (i.zero, i.size, i.bytes)) = some (some (.int .i64 0), 1, 8) by kernel_rfl)
  have HX := hid hx
  have HL := hid (H.plcAt_len l n)
  have HH := hid (fun k (h : k < l.length) => H.plcAt_hit (n := n) h)
  have HN := hid (fun k (h : k < l.length) => H.plcAt_miss (n := n) h)
  have HE : Hid (H.plcAt l n l.length = H.plc l n) := hid rfl
  clear hx
  go_enter Try.func73, Try.ntmps73
  go_wp2
  go_loopw [5, 10] (fun v i wr => ∃ k : Nat, k ≤ l.length ∧ i = .int .i64 k ∧ RowI wr w.heap.size v (H.plcAt l n k) ∧ Below w.heap.size w wr) (fun _ i _ => l.length - (intOf i).toNat)
  case atStart => exact ⟨0, Nat.zero_le _, rfl, RowI.nil _ _, Below.refl _ _⟩
  case round =>
    obtain ⟨k, hk, rfl, hrow, hb⟩ := hrel
    have HROW := hid hrow
    have HB := hid hb
    have hxr := HX.out.stays hb
    clear hrow hb
    by_cases hlt : k < l.length
    · obtain ⟨b, off, rfl, hc⟩ := hxr k hlt
      have HH1 := hid (HH.out k hlt)
      have HN1 := hid (HN.out k hlt)
      have hlk := HL.out k
      have hix : (0 : Int) ≤ (k : Int) ∧ (k : Int) < (l.length : Int) := by omega
      generalize l[k] = x at *
      have HM1 : Hid ((H.plcAt l n k).length + 1 ≤ maxLen) := hid (by unfold maxLen; omega)
      have HM2 : Hid (((H.plcAt l n k).length + 1) * 8 ≤ 140737488355328) := hid (by omega)
      clear hlk hxr
      by_cases e : x = n
      · have HE2 := hid (HH1.out e)
        subst e
        have hxx : (x == x) = true := by simp
        generalize H.plcAt l x k = F at *
        go_wp2_with (at_builtin; refine wpList_append_own _ rfl _ _ 27 rfl w.heap.size 3 i0 (.int .i64 0) 1 8 Try.underlying27 hi hz0 hz1 hz2 rfl (by decide) _ _ _ rfl (World.ownsRow.alloc HROW.out _) ⟨wr.heap.size, 0, none⟩ 1 1 [.int .i64 (k : Int)] rfl rfl ?pa ?pb HM1.out HM2.out ?pc ?_)
        case pb => rfl
        case pc => exact Nat.le_trans HB.out.size (by simp)
        intro v' w9 hown' hgrow _
        have HB9 := hid (Below.grown (HB.out.alloc HB.out.size (.cells #[.int .i64 (k : Int)] 3)) hgrow (by simp; have := HB.out.size; omega) (fun q hq => (World.ownsRow.lt HROW.out q hq).1))
        have HO9 := hid (RowI.push hown')
        clear hown' hgrow
        go_wp2
        go_roundw
        case rel => exact ⟨k + 1, by omega, by go_num, by rw [HE2.out]; exact HO9.out, HB9.out⟩
        case measure => simp [intOf]; omega
      · have HE2 := hid (HN1.out e)
        have hxx : (x == n) = false := by simpa using e
        clear e
        go_wp2
        go_roundw
        case rel => exact ⟨k + 1, by omega, by go_num, by rw [HE2.out]; exact HROW.out, HB.out⟩
        case measure => simp [intOf]; omega
    · have hke : k = l.length := by omega
      subst hke
      rw [HE.out] at HROW
      obtain ⟨a9, c9, rfl, hrd⟩ := HROW.out.rd
      have HRD := hid hrd
      clear hrd
      go_wp2
      go_ret
      exact ⟨_, _, rfl, HRD.out, HB.out⟩
set_option maxHeartbeats 1000000 in
set_option maxRecDepth 100000 in
theorem busy_any (a : Option Addr) (c : Nat) (T : List (List Int)) (s : Int) (w : World) (hm : T.length ≤ maxLen) (hl : ∀ i (h : i < T.length), T[i].length ≤ maxLen) (hx : RdM w a T) :
    Calls Try.prog 34 #[.slice a T.length c, .int .i64 s] w (H.Two3 (if H.chks T s = 0 then H.plc (H.rows T) (H.sht T s) else []) (if H.chks T s = 0 then H.plc (H.cols T) (H.sht T s) else []) (H.chks T s) w) := by
  have HC := hid (checkSeats_any a c T s w hm hl hx)
  by_cases h : H.chks T s = 0
  · obtain ⟨hok, hs, _⟩ := H.chks_ok h
    rw [if_pos h, if_pos h]
    have HS := hid (shortest_any a c T s w hok hs hx)
    have HU := hid (fun W (hW : Below w.heap.size w W) => sumsOf_any a c T W hok (hx.stays hW))
    have HP1 := hid (fun a1 c1 W hr => placesOf_any a1 c1 (H.rows T) (H.sht T s) W (by have := hok.m6; unfold H.rows; simp; omega) hr)
    have HP2 := hid (fun a1 c1 W hr => placesOf_any a1 c1 (H.cols T) (H.sht T s) W (by have := hok.n6; unfold H.cols; simp; omega) hr)
    unfold H.TwoE at HU
    rw [h] at HC ⊢
    clear h hm hl hx hok
    generalize H.sht T s = q at *
    generalize H.rows T = R at *
    generalize H.cols T = C at *
    go_enter Try.func34, Try.ntmps34
    go_wp2_with fail
    refine HC.out.mono ?_
    rintro e w' ⟨rfl, rfl⟩
    go_wp2_with fail
    refine HS.out.mono ?_
    rintro e w1 ⟨rfl, hb⟩
    have HB1 := hid hb
    clear hb
    go_wp2_with fail
    refine (HU.out _ HB1.out).mono ?_
    rintro e w2 ⟨a1, c1, a2, c2, rfl, r1, r2, hb⟩
    have HB2 := hid (HB1.out.trans (hb.mono HB1.out.size))
    have HR2 := hid r2
    have HP3 := hid (HP1.out a1 c1 w2 r1)
    clear hb r1 r2
    go_wp2_with fail
    refine HP3.out.mono ?_
    rintro e w3 ⟨a3, c3, rfl, r3, hb⟩
    have HB3 := hid (HB2.out.trans (hb.mono HB2.out.size))
    have HP4 := hid (HP2.out a2 c2 w3 (HR2.out.stays hb))
    have HR3 := hid r3
    clear hb r3
    go_wp2_with fail
    refine HP4.out.mono ?_
    rintro e w4 ⟨a4, c4, rfl, r4, hb⟩
    have HB4 := hid (HB3.out.trans (hb.mono HB3.out.size))
    have HR34 := hid (HR3.out.stays hb)
    have HR4 := hid r4
    clear hb r4
    go_wp2
    go_ret3
    exact ⟨_, _, _, _, rfl, HR34.out, HR4.out, HB4.out⟩
  · rw [if_neg h, if_neg h]
    have hne : (H.chks T s != 0) = true := by simpa using h
    generalize H.chks T s = ec at *
    clear h hx
    go_enter Try.func34, Try.ntmps34
    go_wp2_with fail
    refine HC.out.mono ?_
    rintro e w' ⟨rfl, rfl⟩
    go_wp2
    go_ret3
    exact ⟨none, 0, none, 0, rfl, RdI.nil _ _, RdI.nil _ _, Below.refl _ _⟩
/-- How many hours can be added. -/
def H.room (T : List (List Int)) (s : Int) (i j : Nat) : Int := min (min (H.sht T s - H.sum (T.getD i [])) (H.sht T s - H.col T j)) (s * H.sht T s - H.tot T)
def H.isP (T : List (List Int)) (x y : Int) : Bool := H.inn x T.length && H.inn y (H.wid T)
def H.rmE (T : List (List Int)) (s x y : Int) : Int := if H.chks T s = 0 ∧ H.isP T x y = true then H.room T s x.toNat y.toNat else 0
def H.rmX (T : List (List Int)) (s x y : Int) : Int := if H.chks T s = 0 then (if H.isP T x y = true then 0 else 5) else H.chks T s
theorem H.sht_mul {T : List (List Int)} {s : Int} (hok : H.Ok T) (h1 : 1 ≤ s) (h6 : s ≤ 6) : 0 ≤ s * H.sht T s ∧ s * H.sht T s ≤ 6480 := by
  have h := H.sht_bd hok h1
  refine ⟨Int.mul_nonneg (by omega) h.1, ?_⟩
  have := Int.mul_le_mul h6 h.2 h.1 (show (0 : Int) ≤ 6 by decide)
  omega
set_option maxHeartbeats 2000000 in
set_option maxRecDepth 100000 in
theorem room_any (a : Option Addr) (c : Nat) (T : List (List Int)) (s x y : Int) (w : World) (hm : T.length ≤ maxLen) (hl : ∀ i (h : i < T.length), T[i].length ≤ maxLen) (hx : RdM w a T) :
    Calls Try.prog 36 #[.slice a T.length c, .int .i64 s, .int .i64 x, .int .i64 y] w fun e w' => e = .returned (.tuple #[.int .i64 (H.rmE T s x y), .int .i64 (H.rmX T s x y)]) ∧ Below w.heap.size w w' := by
  have HC := hid (checkSeats_any a c T s w hm hl hx)
  by_cases h : H.chks T s = 0
  case neg =>
    have hne : (H.chks T s != 0) = true := by simpa using h
    have HE : Hid (H.rmE T s x y = 0 ∧ H.rmX T s x y = H.chks T s) := hid ⟨by unfold H.rmE; rw [if_neg (fun e => h e.1)], by unfold H.rmX; rw [if_neg h]⟩
    rw [HE.out.1, HE.out.2]
    clear HE
    generalize H.chks T s = ec at *
    clear h hx
    go_enter Try.func36, Try.ntmps36
    go_wp2_with fail
    refine HC.out.mono ?_
    rintro e w' ⟨rfl, rfl⟩
    go_wp2
    go_ret2
    exact ⟨rfl, Below.refl _ _⟩
  case pos =>
  obtain ⟨hok, hs, hs6⟩ := H.chks_ok h
  have h6 := hok.m6
  have h1 := hok.m1
  have n6 := hok.n6
  have HE : Hid (H.rmE T s x y = (if H.isP T x y = true then H.room T s x.toNat y.toNat else 0) ∧ H.rmX T s x y = if H.isP T x y = true then 0 else 5) := hid ⟨by unfold H.rmE; simp [h], by unfold H.rmX; rw [if_pos h]⟩
  rw [HE.out.1, HE.out.2]
  rw [h] at HC
  clear HE h
  have HWI := hid (fun p q W => within_any p q W)
  have HWD := hid (H.wid_eq (T := T) (by omega))
  obtain ⟨b, off, r0, c0, rfl, q0, _⟩ := hx 0 (by omega)
  rw [← HWD.out] at q0
  simp only [Nat.add_zero] at q0
  have h00 : (0 : Int) < (T.length : Int) := by omega
  unfold H.isP
  cases hi1 : H.inn x T.length with
  | false =>
    simp only [Bool.false_and, Bool.false_eq_true, if_false]
    have HW1 := hid (HWI.out x T.length)
    rw [hi1] at HW1
    clear hi1 hx hok hm hl
    go_enter Try.func36, Try.ntmps36
    go_wp2_with fail
    refine HC.out.mono ?_
    rintro e w' ⟨rfl, rfl⟩
    go_wp2_with fail
    refine (HW1.out _).mono ?_
    rintro e w' ⟨rfl, rfl⟩
    go_wp2
    go_ret2
    exact ⟨rfl, Below.refl _ _⟩
  | true =>
  have HW1 := hid (HWI.out x T.length)
  rw [hi1] at HW1
  cases hi2 : H.inn y (H.wid T) with
  | false =>
    simp only [Bool.and_false, Bool.false_eq_true, if_false]
    have HW2 := hid (HWI.out y (H.wid T))
    rw [hi2] at HW2
    clear hi1 hi2 hx hok hm hl
    go_enter Try.func36, Try.ntmps36
    go_wp2_with fail
    refine HC.out.mono ?_
    rintro e w' ⟨rfl, rfl⟩
    go_wp2_with fail
    refine (HW1.out _).mono ?_
    rintro e w' ⟨rfl, rfl⟩
    go_wp2_with fail
    refine (HW2.out _).mono ?_
    rintro e w' ⟨rfl, rfl⟩
    go_wp2
    go_ret2
    exact ⟨rfl, Below.refl _ _⟩
  | true =>
  have HW2 := hid (HWI.out y (H.wid T))
  rw [hi2] at HW2
  simp only [Bool.and_self, if_true]
  obtain ⟨i, rfl, hi⟩ : ∃ i : Nat, x = (i : Int) ∧ i < T.length := by
    unfold H.inn at hi1
    have := of_decide_eq_true hi1
    exact ⟨x.toNat, by omega, by omega⟩
  obtain ⟨j, rfl, hj⟩ : ∃ j : Nat, y = (j : Int) ∧ j < H.wid T := by
    unfold H.inn at hi2
    have := of_decide_eq_true hi2
    exact ⟨y.toNat, by omega, by omega⟩
  have HRM : Hid (H.room T s i j = min (min (H.sht T s - H.sum T[i]) (H.sht T s - H.col T j)) (s * H.sht T s - H.tot T)) := hid (by unfold H.room; simp only [List.getD, List.getElem?_eq_getElem hi, Option.getD_some])
  have HS := hid (shortest_any _ c T s w hok hs hx)
  have hsb := H.sht_bd hok hs
  have hrb := hok.rowsum _ (List.getElem_mem hi)
  have hcb := hok.col_bd j
  have htb := hok.tot_bd
  have hmb := H.sht_mul hok hs hs6
  obtain ⟨b1, off1, r1, cr, he, hc, hr⟩ := hx i hi
  simp only [Option.some.injEq, Addr.mk.injEq, and_true] at he
  obtain ⟨rfl, rfl⟩ := he
  have HRS := hid (fun W (hW : Below w.heap.size w W) => rowSum_any r1 cr T[i] W (by rw [hok.row _ (List.getElem_mem hi)]; omega) (hok.hrs _ (List.getElem_mem hi)) (hr.stays hW))
  have HCS := hid (fun W (hW : Below w.heap.size w W) => columnSum_any _ c j T W hok hj (hx.stays hW))
  have HTS := hid (fun W (hW : Below w.heap.size w W) => total_any _ c T W hok (hx.stays hW))
  have HC0 := hid hc
  have hix : (0 : Int) ≤ (i : Int) ∧ (i : Int) < (T.length : Int) := by omega
  have hw3 : IntKind.i64.wrap (s * H.sht T s) = s * H.sht T s := IntWalk.i64_in _ (by omega)
  simp only [Int.toNat_natCast]
  clear hi1 hi2 hx hok hm hl hc hr
  generalize T[i].length = nr at *
  generalize H.sht T s = q at *
  generalize H.sum T[i] = z1 at *
  generalize H.col T j = z2 at *
  generalize H.tot T = z3 at *
  generalize hsq : s * q = z4 at *
  generalize H.room T s i j = rm at *
  go_enter Try.func36, Try.ntmps36
  go_wp2_with fail
  refine HC.out.mono ?_
  rintro e w' ⟨rfl, rfl⟩
  go_wp2_with fail
  refine (HW1.out _).mono ?_
  rintro e w' ⟨rfl, rfl⟩
  go_wp2_with fail
  refine (HW2.out _).mono ?_
  rintro e w' ⟨rfl, rfl⟩
  go_wp2_with fail
  refine HS.out.mono ?_
  rintro e w1 ⟨rfl, hb⟩
  have HB1 := hid hb
  have hc := cell_stays hb (Nat.le_refl _) HC0.out
  clear hb q0
  go_wp2_with fail
  refine (HRS.out _ HB1.out).mono ?_
  rintro e w' ⟨rfl, rfl⟩
  go_wp2_with fail
  refine (HCS.out _ HB1.out).mono ?_
  rintro e w2 ⟨rfl, hb⟩
  have HB2 := hid (HB1.out.trans (hb.mono HB1.out.size))
  clear hb
  go_wp2_with fail
  refine (HTS.out _ HB2.out).mono ?_
  rintro e w' ⟨rfl, rfl⟩
  go_wp2
  all_goals
    go_ret2
    exact ⟨ret_int2 (by rw [HRM.out]; omega) rfl, HB2.out⟩
end Go.Proofs.Ythlcnklbeolhpaa
