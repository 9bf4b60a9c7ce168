/- Package mark: the walks of canMake, Makes, Copies. -/
import Derived.Test.YthnklabdjaiplaaDoorMWith
import Derived.Test.YthnklabdjaiplaaDoorMDist
namespace Go.Proofs.YthnklabdjaiplaaDoor
open Go.RowKit

/-- The arguments of canMake. -/
structure M.Arg (m : Int) (T : List (List Int)) (l wd : List Int) : Prop where
  ok : M.Ok m T
  ln : l.length ≤ maxLen
  inn : M.In T.length l
  wl : wd.length = M.pl T
  wm : ∀ k, k < M.pl T → 0 ≤ wd.getD k 0 ∧ wd.getD k 0 < m

set_option maxHeartbeats 4000000 in
theorem canMake_any (m : Int) (a : Option Addr) (c : Nat) (T : List (List Int)) (al : Option Addr) (cl : Nat) (l : List Int) (aw : Option Addr) (cw : Nat) (wd : List Int) (w : World) (H : M.Arg m T l wd) (hT : RdM w a T) (hl : RdI w al l) (hw : RdI w aw wd) :
    Calls Tryd.prog 50 #[M.cv m a T.length c, .slice al l.length cl, .slice aw wd.length cw] w fun e w' => e = .returned (.bool (M.can T l wd)) ∧ Below w.heap.size w w' := by
  obtain ⟨W, hW, c0, c1, hB, hlt⟩ := M.cvNew w m a T.length c
  have HB := hid hB
  have HS := hid (setsOf_any m a c T al cl l W H.ok H.ln H.inn (hT.stays hB) (hl.stays hB))
  have HL := hid (hw.stays hB)
  have hp8 := H.ok.p8
  have hm4 := H.ok.m4
  have HWT := hid (fun w' (h : Below W.heap.size W w') => with_any (M.so T l) aw cw wd w' (by rw [H.wl]; omega) (fun j hj => by rw [H.wl] at hj; have := H.wm j hj; omega) (M.so_lt H.ok H.inn) (HL.out.stays h))
  have HC := hid (M.can_so H.ok H.inn H.wl H.wm)
  rw [← H.wl] at HC
  have hEQ := fun w' => M.eql (M.wth (M.so T l) wd wd.length) (M.so T l) w'
  rw [HC.out] at hEQ
  generalize M.can T l wd = r at *
  generalize M.wth (M.so T l) wd wd.length = u at *
  generalize M.so T l = s at *
  clear hB hT hl hw H hp8 hm4 HC
  unfold M.cv at *
  unfold M.av at *
  go_enter Tryd.func50, Tryd.ntmps50
  go_wp2_with fail
  rw [hW] at *
  go_wp2_with (refine HS.out.mono ?_; rintro e w8 ⟨rfl, hb8⟩; have hb8' := hid hb8; clear hb8)
  have HB8 := hid (hb8'.out.trans (((Below.refl w8.heap.size w8).alloc (Nat.le_refl _) (.cells #[.int .i64 (s 0 : Nat), .int .i64 (s 1 : Nat), .int .i64 (s 2 : Nat), .int .i64 (s 3 : Nat), .int .i64 (s 4 : Nat), .int .i64 (s 5 : Nat), .int .i64 (s 6 : Nat), .int .i64 (s 7 : Nat)] 79)).mono hb8'.out.size))
  have HRW := hid (M.row8 w8 s)
  generalize w8.alloc (.cells #[.int .i64 (s 0 : Nat), .int .i64 (s 1 : Nat), .int .i64 (s 2 : Nat), .int .i64 (s 3 : Nat), .int .i64 (s 4 : Nat), .int .i64 (s 5 : Nat), .int .i64 (s 6 : Nat), .int .i64 (s 7 : Nat)] 79) = V at *
  obtain ⟨g0, g1, g2, g3, g4, g5, g6, g7⟩ := M.c8 HRW.out
  have hlt8 := HRW.out.lt
  go_region_with (first | (go_at_call 69; (with_reducible first | refine (HWT.out _ HB8.out.drew).mono ?_ | refine (HWT.out _ HB8.out).mono ?_); rintro e w5 ⟨rfl, hb5⟩; have R5 : w5.rowIs w8.heap.size 79 8 (M.ac s) := HRW.out.of_block (hb5.block _ HRW.out.lt); obtain ⟨d0, d1, d2, d3, d4, d5, d6, d7⟩ := M.c8 R5; have HB5 := hid ((HB8.out.drew).trans (hb5.mono HB8.out.size)); clear hb5 R5))
  all_goals
    go_wp2
    go_ret
    exact ⟨rfl, HB.out.trans (Below.mono (by first | exact HB5.out | exact HB5.out.drew) HB.out.size)⟩

/-- What Makes returns. -/
def M.mks (m : Int) (T : List (List Int)) (l wd : List Int) : Int :=
  if M.chk m T = 0 then (if M.co T.length l = 0 then (if M.wd m (M.pl T) wd = 0 then (if M.can T l wd then 0 else 13) else M.wd m (M.pl T) wd) else M.co T.length l) else M.chk m T

set_option maxHeartbeats 4000000 in
theorem Makes_any (m : Int) (a : Option Addr) (c : Nat) (T : List (List Int)) (al : Option Addr) (cl : Nat) (l : List Int) (aw : Option Addr) (cw : Nat) (wd : List Int) (w : World) (hm : T.length ≤ maxLen) (hml : ∀ i, i < T.length → (T.getD i []).length ≤ maxLen) (hll : l.length ≤ maxLen) (hwl : wd.length ≤ maxLen) (hT : RdM w a T) (hl : RdI w al l) (hw : RdI w aw wd) :
    Calls Tryd.prog 18 #[M.cv m a T.length c, .slice al l.length cl, .slice aw wd.length cw] w fun e w' => e = .returned (.int .i64 (M.mks m T l wd)) ∧ Below w.heap.size w w' := by
  obtain ⟨W, hW, c0, c1, hB, hlt⟩ := M.cvNew w m a T.length c
  have HB := hid hB
  have HT := hid (hT.stays hB)
  have HL := hid (hl.stays hB)
  have HWD := hid (hw.stays hB)
  have HC := hid (check_any m a c T W hm hml HT.out)
  unfold M.cv at *
  by_cases h0 : M.chk m T = 0
  · have HOK := hid (M.chk_zero.1 h0)
    have HR : Hid (M.mks m T l wd = if M.co T.length l = 0 then (if M.wd m (M.pl T) wd = 0 then (if M.can T l wd then 0 else 13) else M.wd m (M.pl T) wd) else M.co T.length l) := hid (by unfold M.mks; rw [if_pos h0])
    rw [h0] at HC
    have HCO := hid (fun w' (hb : Below W.heap.size W w') => checkCoalition_any m a c T.length al cl l w' hll (HL.out.stays hb))
    unfold M.cv at HCO
    clear hB hT hl hw h0 hml
    by_cases h1 : M.co T.length l = 0
    · have HCI := hid (M.co_zero.1 h1)
      have HR2 : Hid (M.mks m T l wd = if M.wd m (M.pl T) wd = 0 then (if M.can T l wd then 0 else 13) else M.wd m (M.pl T) wd) := hid (by rw [HR.out, if_pos h1])
      rw [h1] at HCO
      have HCW := hid (fun w' (hb : Below W.heap.size W w') => checkWord_any m a c T aw cw wd w' hwl (by have := HOK.out.n1; omega) (HT.out.stays hb) (HWD.out.stays hb))
      unfold M.cv at HCW
      clear h1 HR
      by_cases h2 : M.wd m (M.pl T) wd = 0
      · have hwd := M.wd_zero.1 h2
        have HR3 : Hid (M.mks m T l wd = if M.can T l wd then 0 else 13) := hid (by rw [HR2.out, if_pos h2])
        rw [h2] at HCW
        have HCN := hid (fun w' (hb : Below W.heap.size W w') => canMake_any m a c T al cl l aw cw wd w' ⟨HOK.out, hll, HCI.out.inn, hwd.1, hwd.2⟩ (HT.out.stays hb) (HL.out.stays hb) (HWD.out.stays hb))
        unfold M.cv at HCN
        clear h2 HR2 hwd
        generalize M.can T l wd = r at *
        go_enter Tryd.func18, Tryd.ntmps18
        go_wp2_with fail
        rw [hW] at *
        go_wp2_with (refine HC.out.mono ?_; rintro e w7 ⟨rfl, hb7⟩; have q0 := cell_stays hb7 (Nat.le_refl _) c0; have q1 := cell_stays hb7 (Nat.le_refl _) c1; replace hb7 := hid hb7)
        refine (HCO.out w7 hb7.out).mono ?_
        rintro e w8 ⟨rfl, hb8⟩
        have r0 := cell_stays hb8 (Nat.le_refl _) q0
        have r1 := cell_stays hb8 (Nat.le_refl _) q1
        have HB8 := hid (hb7.out.trans (hb8.mono hb7.out.size))
        clear hb8 q0 q1
        go_wp2_with fail
        refine (HCW.out w8 HB8.out).mono ?_
        rintro e w9 ⟨rfl, hb9⟩
        have s0 := cell_stays hb9 (Nat.le_refl _) r0
        have s1 := cell_stays hb9 (Nat.le_refl _) r1
        have HB9 := hid (HB8.out.trans (hb9.mono HB8.out.size))
        clear hb9 r0 r1
        go_wp2_with fail
        refine (HCN.out w9 HB9.out).mono ?_
        rintro e w10 ⟨rfl, hb10⟩
        have HB10 := hid (HB9.out.trans (hb10.mono HB9.out.size))
        clear hb10
        cases r with
        | true =>
          go_wp2
          go_ret
          exact ⟨ret_int (by rw [HR3.out]; rfl), HB.out.trans (HB10.out.mono HB.out.size)⟩
        | false =>
          go_wp2
          go_ret
          exact ⟨ret_int (by rw [HR3.out]; rfl), HB.out.trans (HB10.out.mono HB.out.size)⟩
      · have HR3 : Hid (M.mks m T l wd = M.wd m (M.pl T) wd) := hid (by rw [HR2.out, if_neg h2])
        have h2' : (M.wd m (M.pl T) wd == 0) = false := beq_eq_false_iff_ne.2 h2
        generalize M.wd m (M.pl T) wd = y at *
        clear h2 HR2
        go_enter Tryd.func18, Tryd.ntmps18
        go_wp2_with fail
        rw [hW] at *
        go_wp2_with (refine HC.out.mono ?_; rintro e w7 ⟨rfl, hb7⟩; have q0 := cell_stays hb7 (Nat.le_refl _) c0; have q1 := cell_stays hb7 (Nat.le_refl _) c1; replace hb7 := hid hb7)
        refine (HCO.out w7 hb7.out).mono ?_
        rintro e w8 ⟨rfl, hb8⟩
        have r0 := cell_stays hb8 (Nat.le_refl _) q0
        have r1 := cell_stays hb8 (Nat.le_refl _) q1
        have HB8 := hid (hb7.out.trans (hb8.mono hb7.out.size))
        clear hb8 q0 q1
        go_wp2_with fail
        refine (HCW.out w8 HB8.out).mono ?_
        rintro e w9 ⟨rfl, hb9⟩
        have HB9 := hid (HB8.out.trans (hb9.mono HB8.out.size))
        clear hb9
        go_wp2
        go_ret
        exact ⟨ret_int HR3.out.symm, HB.out.trans (HB9.out.mono HB.out.size)⟩
    · have HR2 : Hid (M.mks m T l wd = M.co T.length l) := hid (by rw [HR.out, if_neg h1])
      have h1' : (M.co T.length l == 0) = false := beq_eq_false_iff_ne.2 h1
      generalize M.co T.length l = y at *
      clear h1 HR
      go_enter Tryd.func18, Tryd.ntmps18
      go_wp2_with fail
      rw [hW] at *
      go_wp2_with (refine HC.out.mono ?_; rintro e w7 ⟨rfl, hb7⟩; have q0 := cell_stays hb7 (Nat.le_refl _) c0; have q1 := cell_stays hb7 (Nat.le_refl _) c1; replace hb7 := hid hb7)
      refine (HCO.out w7 hb7.out).mono ?_
      rintro e w8 ⟨rfl, hb8⟩
      have HB8 := hid (hb7.out.trans (hb8.mono hb7.out.size))
      clear hb8
      go_wp2
      go_ret
      exact ⟨ret_int HR2.out.symm, HB.out.trans (HB8.out.mono HB.out.size)⟩
  · have HR : Hid (M.mks m T l wd = M.chk m T) := hid (by unfold M.mks; rw [if_neg h0])
    have h0' : (M.chk m T == 0) = false := beq_eq_false_iff_ne.2 h0
    generalize M.chk m T = y at *
    clear hB hT hl hw h0 hml
    go_enter Tryd.func18, Tryd.ntmps18
    go_wp2_with fail
    rw [hW] at *
    go_wp2_with (refine HC.out.mono ?_; rintro e w7 ⟨rfl, hb7⟩; replace hb7 := hid hb7)
    go_ret
    exact ⟨ret_int HR.out.symm, HB.out.trans (hb7.out.mono HB.out.size)⟩

/-- How many marks a set has. -/
def M.pc (i : Nat) : Nat := i % 2 + i / 2 % 2 + i / 4 % 2 + i / 8 % 2
theorem M.pc_le (i : Nat) : M.pc i ≤ 4 := by unfold M.pc; omega
/-- The table of constants. -/
def M.TB (w : World) : Prop := ∀ i, i < 16 → w.cell? ⟨0, i, none⟩ = some (.int .i64 (M.pc i : Nat))
theorem M.TB.stays {w w' : World} (h : M.TB w) (hb : Below w.heap.size w w') : M.TB w' := fun i hi => cell_stays hb (Nat.le_refl _) (h i hi)
/-- The copies at the first k places. -/
def M.cpk (T : List (List Int)) (l : List Int) : Nat → Nat
  | 0 => 1
  | k + 1 => M.cpk T l k * M.pc (M.so T l k)
theorem M.cpk_le (T : List (List Int)) (l : List Int) (k : Nat) : M.cpk T l k ≤ 4 ^ k := by
  induction k with
  | zero => exact Nat.le_refl _
  | succ k ih => rw [M.cpk, Nat.pow_succ]; exact Nat.mul_le_mul ih (M.pc_le _)
def M.cps (m : Int) (T : List (List Int)) (l : List Int) : Int × Int :=
  if M.chk m T = 0 then (if M.co T.length l = 0 then (M.cpk T l (M.pl T), 0) else (0, M.co T.length l)) else (0, M.chk m T)

set_option maxHeartbeats 4000000 in
theorem Copies_any (m : Int) (a : Option Addr) (c : Nat) (T : List (List Int)) (al : Option Addr) (cl : Nat) (l : List Int) (w : World) (htb : M.TB w) (hm : T.length ≤ maxLen) (hml : ∀ i, i < T.length → (T.getD i []).length ≤ maxLen) (hll : l.length ≤ maxLen) (hT : RdM w a T) (hl : RdI w al l) :
    Calls Tryd.prog 16 #[M.cv m a T.length c, .slice al l.length cl] w fun e w' => e = .returned (.tuple #[.int .i64 (M.cps m T l).1, .int .i64 (M.cps m T l).2]) ∧ Below w.heap.size w w' := by
  obtain ⟨W, hW, c0, c1, hB, hlt⟩ := M.cvNew w m a T.length c
  have HB := hid hB
  have HT := hid (hT.stays hB)
  have HTB := hid (htb.stays hB)
  have HL := hid (hl.stays hB)
  have HC := hid (check_any m a c T W hm hml HT.out)
  unfold M.cv at *
  by_cases h0 : M.chk m T = 0
  · have HOK := hid (M.chk_zero.1 h0)
    have HR : Hid (M.cps m T l = if M.co T.length l = 0 then ((M.cpk T l (M.pl T) : Int), 0) else (0, M.co T.length l)) := hid (by unfold M.cps; rw [if_pos h0])
    rw [h0] at HC
    have HCO := hid (fun w' (hb : Below W.heap.size W w') => checkCoalition_any m a c T.length al cl l w' hll (HL.out.stays hb))
    unfold M.cv at HCO
    clear hB hT hl h0 hml htb
    by_cases h1 : M.co T.length l = 0
    · have HCI := hid (M.co_zero.1 h1)
      have HR2 : Hid (M.cps m T l = ((M.cpk T l (M.pl T) : Int), 0)) := hid (by rw [HR.out, if_pos h1])
      rw [h1] at HCO
      rw [HR2.out]
      have HST := hid (fun w' (hb : Below W.heap.size W w') => setsOf_any m a c T al cl l w' HOK.out hll HCI.out.inn (HT.out.stays hb) (HL.out.stays hb))
      unfold M.cv at HST
      have HSO := hid (M.so_lt HOK.out HCI.out.inn)
      have HCP : Hid (∀ k, M.cpk T l (k + 1) = M.cpk T l k * M.pc (M.so T l k)) := hid (fun _ => rfl)
      have hp1 := HOK.out.p1
      have hp8 := HOK.out.p8
      have hn1 := HOK.out.n1
      have HLE := hid (fun k => M.cpk_le T l k)
      obtain ⟨b, off, r, cr, rfl, hc0, -⟩ := M.row0 HT.out (by omega)
      have HC0 := hid hc0
      have hix : (0 : Int) < (T.length : Int) := by omega
      clear h1 HR hc0
      have HS0 : Hid (M.cpk T l 0 = 1) := hid rfl
      generalize M.cpk T l = q at *
      generalize M.so T l = s at *
      unfold M.av at HST
      go_enter Tryd.func16, Tryd.ntmps16
      go_wp2_with fail
      rw [hW] at *
      go_wp2_with (refine HC.out.mono ?_; rintro e w7 ⟨rfl, hb7⟩; have q0 := cell_stays hb7 (Nat.le_refl _) c0; have q1 := cell_stays hb7 (Nat.le_refl _) c1; replace hb7 := hid hb7)
      refine (HCO.out w7 hb7.out).mono ?_
      rintro e w8 ⟨rfl, hb8⟩
      have r0 := cell_stays hb8 (Nat.le_refl _) q0
      have r1 := cell_stays hb8 (Nat.le_refl _) q1
      have HB8 := hid (hb7.out.trans (hb8.mono hb7.out.size))
      clear hb8 q0 q1
      go_wp2_with fail
      refine (HST.out w8 HB8.out).mono ?_
      rintro e w9 ⟨rfl, hb9⟩
      have s1 := cell_stays hb9 (Nat.le_refl _) r1
      have HB9 := hid (HB8.out.trans (hb9.mono HB8.out.size))
      have s2 := cell_stays HB9.out (Nat.le_refl _) HC0.out
      have HTB9 := hid (HTB.out.stays HB9.out)
      clear hb9 r0 r1 c0 c1
      have HRW := hid (M.row8 w9 s)
      have HBV := hid (((Below.refl w9.heap.size w9).alloc (Nat.le_refl _) (.cells #[.int .i64 (s 0 : Nat), .int .i64 (s 1 : Nat), .int .i64 (s 2 : Nat), .int .i64 (s 3 : Nat), .int .i64 (s 4 : Nat), .int .i64 (s 5 : Nat), .int .i64 (s 6 : Nat), .int .i64 (s 7 : Nat)] 79)))
      have v1 := cell_stays HBV.out (Nat.le_refl _) s1
      have v2 := cell_stays HBV.out (Nat.le_refl _) s2
      go_wp2
      generalize w9.alloc (.cells #[.int .i64 (s 0 : Nat), .int .i64 (s 1 : Nat), .int .i64 (s 2 : Nat), .int .i64 (s 3 : Nat), .int .i64 (s 4 : Nat), .int .i64 (s 5 : Nat), .int .i64 (s 6 : Nat), .int .i64 (s 7 : Nat)] 79) = V at *
      have HTV := hid (HTB9.out.stays HBV.out)
      have HF : Hid (Below w.heap.size w V) := hid (HB.out.trans ((HB9.out.trans (HBV.out.mono HB9.out.size)).mono HB.out.size))
      clear s1 s2
      go_loop [9, 30] (fun p i => ∃ k : Nat, k ≤ M.pl T ∧ i = .int .i64 k ∧ p = .int .i64 (q k : Nat)) (fun _ i => M.pl T - (intOf i).toNat)
      case atStart => exact ⟨0, Nat.zero_le _, rfl, by rw [HS0.out]; rfl⟩
      case round =>
        obtain ⟨k, hk, rfl, rfl⟩ := hrel
        by_cases hlt2 : k < M.pl T
        · have t1 : V.cell? ⟨w9.heap.size, k, none⟩ = some (.int .i64 (s k : Nat)) := HRW.out.cell (show k < 8 by omega)
          have hsk := HSO.out k
          have t2 := HTV.out (s k) hsk
          have HM := hid (HCP.out k)
          have hle := HLE.out k
          have h4 : 4 ^ k ≤ 4 ^ 8 := Nat.pow_le_pow_right (by omega) (by omega)
          have hpc := M.pc_le (s k)
          have hix1 : (0 : Int) ≤ (k : Int) ∧ (k : Int) < 8 := by omega
          have hix2 : (0 : Int) ≤ (s k : Int) ∧ (s k : Int) < 16 := by omega
          have hpr : q k * M.pc (s k) ≤ 4 ^ 8 * 4 := Nat.mul_le_mul (Nat.le_trans hle h4) hpc
          have hw : IntKind.i64.wrap ((q k : Int) * (M.pc (s k) : Int)) = ((q k * M.pc (s k) : Nat) : Int) := by
            rw [← Int.natCast_mul]
            exact IntWalk.i64_in _ (by have : (4 : Nat) ^ 8 * 4 = 262144 := by decide
                                       omega)
          clear hle h4 hpr
          generalize M.pc (s k) = z at *
          generalize q k = y at *
          generalize s k = x at *
          go_wp2
          go_round
          case rel => exact ⟨k + 1, by omega, by go_num, by rw [HM.out, Int.natCast_mul]⟩
          case measure => simp [intOf]; omega
        · have hke : k = M.pl T := by omega
          subst hke
          go_wp2
          go_ret2
          exact ⟨rfl, HF.out⟩
    · have HR2 : Hid (M.cps m T l = (0, M.co T.length l)) := hid (by rw [HR.out, if_neg h1])
      rw [HR2.out]
      have h1' : (M.co T.length l == 0) = false := beq_eq_false_iff_ne.2 h1
      generalize M.co T.length l = y at *
      clear h1 HR
      go_enter Tryd.func16, Tryd.ntmps16
      go_wp2_with fail
      rw [hW] at *
      go_wp2_with (refine HC.out.mono ?_; rintro e w7 ⟨rfl, hb7⟩; have q0 := cell_stays hb7 (Nat.le_refl _) c0; have q1 := cell_stays hb7 (Nat.le_refl _) c1; replace hb7 := hid hb7)
      refine (HCO.out w7 hb7.out).mono ?_
      rintro e w8 ⟨rfl, hb8⟩
      have HB8 := hid (hb7.out.trans (hb8.mono hb7.out.size))
      clear hb8
      go_wp2
      go_ret2
      exact ⟨rfl, HB.out.trans (HB8.out.mono HB.out.size)⟩
  · have HR : Hid (M.cps m T l = (0, M.chk m T)) := hid (by unfold M.cps; rw [if_neg h0])
    rw [HR.out]
    have h0' : (M.chk m T == 0) = false := beq_eq_false_iff_ne.2 h0
    generalize M.chk m T = y at *
    clear hB hT hl h0 hml
    go_enter Tryd.func16, Tryd.ntmps16
    go_wp2_with fail
    rw [hW] at *
    go_wp2_with (refine HC.out.mono ?_; rintro e w7 ⟨rfl, hb7⟩; replace hb7 := hid hb7)
    go_ret2
    exact ⟨rfl, HB.out.trans (hb7.out.mono HB.out.size)⟩
end Go.Proofs.YthnklabdjaiplaaDoor
