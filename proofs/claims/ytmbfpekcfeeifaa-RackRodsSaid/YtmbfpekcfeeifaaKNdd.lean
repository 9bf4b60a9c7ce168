/- Package rack: the walk of Needed. -/
import Derived.Test.YtmbfpekcfeeifaaKConc
import Derived.StillTailTactics
namespace Go.Proofs.Ytmbfpekcfeeifaa
open Go.RowKit

/-- All braces but one. -/
def K.wo (bs : List Br) (i : Nat) : List Br := bs.take i ++ bs.drop (i + 1)
theorem K.wo_sub {bs : List Br} {i : Nat} {b : Br} (h : b ∈ K.wo bs i) : b ∈ bs := by
  unfold K.wo at h
  rcases List.mem_append.1 h with h | h
  · exact List.mem_of_mem_take h
  · exact List.mem_of_mem_drop h
theorem K.wo_len {bs : List Br} {i : Nat} (h : i < bs.length) : (K.wo bs i).length + 1 = bs.length := by unfold K.wo; simp; omega
/-- The braces below a bound without which a rack is not stiff. -/
noncomputable def K.nd (m n : Nat) (bs : List Br) : Nat → List Int
  | 0 => []
  | k + 1 => if (K.gsv m n (K.wo bs k)).length = 1 then K.nd m n bs k else K.nd m n bs k ++ [(k : Int)]
theorem K.nd_len (m n : Nat) (bs : List Br) : ∀ k, (K.nd m n bs k).length ≤ k
  | 0 => Nat.le_refl _
  | k + 1 => by
    have := K.nd_len m n bs k
    unfold K.nd
    split
    · omega
    · simp; omega
noncomputable def K.ndl (m n : Int) (bs : List Br) : List Int := if K.chk m n bs = 0 then (if K.stf m n bs = true then K.nd m.toNat n.toNat bs bs.length else []) else []
noncomputable def K.nde (m n : Int) (bs : List Br) : Int := if K.chk m n bs = 0 then (if K.stf m n bs = true then 0 else 22) else K.chk m n bs
/-- A list that is returned with an error. -/
def K.LsE (xs : List Int) (err : Int) (w : World) (e : Ending) (w' : World) : Prop := ∃ a c, e = .returned (.tuple #[.slice a xs.length c, .int .i64 err]) ∧ RdI w' a xs ∧ Below w.heap.size w w'

theorem ownsRow_stays {w w' : World} {base : Nat} {e : TypeId} {size : Nat} {v : Value} {n : Nat} {xs : List Value} (h : w.ownsRow base e size v n xs) (hb : Below w.heap.size w w') : w'.ownsRow base e size v n xs :=
  h.kept (grown_below hb) (Classical.em _)
theorem RdB.take {w : World} {a : Option Addr} {bs : List Br} (h : RdB w a bs) (k : Nat) : RdB w a (bs.take k) := fun i hi => by
  obtain ⟨b, off, e, q⟩ := h i (by rw [List.length_take] at hi; omega)
  exact ⟨b, off, e, by simpa using q⟩
theorem RdB.drop {w : World} {b off : Nat} {bs : List Br} (h : RdB w (some ⟨b, off, none⟩) bs) (k : Nat) : RdB w (some ⟨b, off + k * 3, none⟩) (bs.drop k) := fun i hi => by
  obtain ⟨b', off', e, q⟩ := h (k + i) (by rw [List.length_drop] at hi; omega)
  simp only [Option.some.injEq, Addr.mk.injEq, and_true] at e
  obtain ⟨rfl, rfl⟩ := e
  refine ⟨b, _, rfl, ?_⟩
  rw [show off + k * 3 + i * 3 = off + (k + i) * 3 by omega]
  simpa using q
set_option maxHeartbeats 2000000 in
set_option maxRecDepth 100000 in
theorem needed_any (m n : Int) (a : Option Addr) (c : Nat) (bs : List Br) (w : World) (hc1 : bs.length ≤ c) (hc2 : c ≤ maxLen) (hR : RdB w a bs) :
    Calls Try.prog 21 #[K.rk m n a bs.length c] w (K.LsE (K.ndl m n bs) (K.nde m n bs) w) := by
  have hm : bs.length ≤ maxLen := by omega
  obtain ⟨HB0, hbx⟩ := box_rack w m n a c bs hR
  have HBX := hid hbx
  have HCK := hid (check_any m n a c bs _ hm (hR.stays HB0.out))
  clear hbx hR
  by_cases h0 : K.chk m n bs = 0
  · have HD : Hid (K.ndl m n bs = (if K.stf m n bs = true then K.nd m.toNat n.toNat bs bs.length else []) ∧ K.nde m n bs = (if K.stf m n bs = true then 0 else 22) ∧ K.stf m n bs = decide ((K.gsv m.toNat n.toNat bs).length = 1)) := hid (by unfold K.ndl K.nde K.stf; rw [if_pos h0, if_pos h0, if_pos h0]; exact ⟨rfl, rfl, rfl⟩)
    obtain ⟨p, q, rfl, rfl, hok⟩ := K.chk_ok h0
    rw [h0] at HCK
    have HST0 := hid (fun w1 hr => isStiff_any p q a c bs w1 hm hr hok.m6 hok.n6 hok.inb)
    have HST := hid (fun i (hi : i < bs.length) (W : World) (r : Option Addr) (cr : Nat) (hr : RdB W r (K.wo bs i)) => isStiff_any p q r cr (K.wo bs i) W (by have := K.wo_len hi; omega) hr hok.m6 hok.n6 (fun b hb => hok.inb b (K.wo_sub hb)))
    have hfew := hok.few
    rw [HD.out.1, HD.out.2.1, HD.out.2.2]
    clear h0 HD hok
    simp only [Int.toNat_natCast]
    unfold K.rk at HCK HST0 HST ⊢
    unfold maxLen at hc2 hm
    by_cases hst : (K.gsv p q bs).length = 1
    case neg =>
      have hst' := decide_eq_false hst
      simp only [hst', Bool.false_eq_true, if_false] at HST0 ⊢
      clear hst hst'
      go_enter Try.func21, Try.ntmps21
      go_wp2_with fail
      refine HCK.out.mono ?_
      rintro e w1 ⟨rfl, hb⟩
      obtain ⟨k0, k1, k2, hr, hbw, hsz⟩ := HBX.out w1 hb
      have HC := hid (HST0.out w1 hr)
      have HBW := hid hbw
      clear hb hr hbw
      go_wp2_with fail
      refine HC.out.mono ?_
      rintro e w2 ⟨rfl, hb⟩
      have HB2 := hid (HBW.out.trans (hb.mono HBW.out.size))
      clear hb
      go_wp2
      go_ret2
      exact ⟨_, _, rfl, (fun k hk => absurd hk (Nat.not_lt_zero _)), HB2.out⟩
    case pos =>
      have hst' := decide_eq_true hst
      simp only [hst', if_true] at HST0 ⊢
      clear hst hst'
      go_enter Try.func21, Try.ntmps21
      go_wp2_with fail
      refine HCK.out.mono ?_
      rintro e w1 ⟨rfl, hb⟩
      obtain ⟨k0, k1, k2, hr, hbw, hsz⟩ := HBX.out w1 hb
      have HC := hid (HST0.out w1 hr)
      have HBW := hid hbw
      have HBZ := hid hb
      clear hb hr hbw
      go_wp2_with fail
      refine HC.out.mono ?_
      rintro e w2 ⟨rfl, hb⟩
      have HB2 := hid (HBW.out.trans (hb.mono HBW.out.size))
      have HBY := hid (HBZ.out.trans (hb.mono HBZ.out.size))
      obtain ⟨k0, k1, k2, _, _, hsz⟩ := HBX.out w2 HBY.out
      clear hb
      go_wp2
      go_loopw [5, 19] (fun v s wr => ∃ k : Nat, k ≤ bs.length ∧ s = .int .i64 k ∧ RowI wr w2.heap.size v (K.nd p q bs k) ∧ Below w2.heap.size w2 wr) (fun _ s _ => bs.length - (intOf s).toNat)
      case atStart => exact ⟨0, Nat.zero_le _, rfl, World.ownsRow_nil _ _ _ _, Below.refl _ _⟩
      case round =>
        obtain ⟨k, hk, rfl, hrow, hb⟩ := hrel
        have HROW := hid hrow
        have HBL := hid hb
        obtain ⟨k0, k1, k2, hr, hbw, hsz⟩ := HBX.out wr (HBY.out.trans (hb.mono HBY.out.size))
        have HR := hid hr
        clear hrow hb hbw
        by_cases hlt : k < bs.length
        · obtain ⟨b, off, rfl, _, _, _⟩ := hr k hlt
          obtain ⟨i0, hi, hz0, hz1, hz2⟩ := info_parts (show (Try.prog.info? 3).map (fun i => (i.zero, i.size, i.bytes)) = some (some (.int .i64 0), 1, 8) by kernel_rfl)
          have HNX : Hid (K.nd p q bs (k + 1) = if (K.gsv p q (K.wo bs k)).length = 1 then K.nd p q bs k else K.nd p q bs k ++ [(k : Int)]) := hid rfl
          have HNL := hid (K.nd_len p q bs k)
          have HSK := hid (fun W r cr hr => HST.out k hlt W r cr hr)
          have HWO : Hid (K.wo bs k = bs.take k ++ bs.drop (k + 1)) := hid rfl
          have hl1 : (bs.take k).length = k := by rw [List.length_take]; omega
          have hl2 : (bs.drop (k + 1)).length = bs.length - (k + 1) := by rw [List.length_drop]
          have HCC := hid (fun (W : World) (P : Nat) (hW : Below wr.heap.size wr W) (c1 o2 c2 : Nat) (ho : o2 = off + (k + 1) * 3 ∨ bs.length = k + 1) hp1 hp2 => concat2_any P 0 b off c1 b o2 c2 2 (bs.take k) (bs.drop (k + 1)) W (by omega) (by omega) hp1 hp2 ((HR.out.stays hW).take k) (by
            rcases ho with rfl | ho
            · exact (HR.out.stays hW).drop (k + 1)
            · intro i hi; omega))
          rw [hl1, hl2] at HCC
          rw [← HWO.out] at HCC
          have HOV := hid (World.rowIs_alloc wr #[.int .i64 p, .int .i64 q, .slice (some ⟨b, off, none⟩) bs.length c] 24 (K.rkF p q (.slice (some ⟨b, off, none⟩) bs.length c)) (fun i hi => by
            have h : i < 3 := hi
            have h2 : i = 0 ∨ i = 1 ∨ i = 2 := by omega
            rcases h2 with rfl | rfl | rfl <;> rfl))
          have HBA : Hid (Below wr.heap.size wr (wr.alloc (.cells #[.int .i64 p, .int .i64 q, .slice (some ⟨b, off, none⟩) bs.length c] 24))) := hid ((Below.refl _ _).alloc (Nat.le_refl _) _)
          generalize (K.gsv p q (K.wo bs k)).length = L at *
          generalize K.wo bs k = wo at *
          clear hr hl1 hl2 HR HWO
          have h1 : (0 : Int) ≤ (k : Int) ∧ (k : Int) ≤ (c : Int) := by omega
          have h2 : IntKind.i64.wrap ((k : Int) + 1) = ((k + 1 : Nat) : Int) := by rw [IntWalk.i64_in _ (by omega)]; rfl
          have h3 : (0 : Int) ≤ ((k + 1 : Nat) : Int) ∧ ((k + 1 : Nat) : Int) ≤ (bs.length : Int) ∧ (bs.length : Int) ≤ (c : Int) := by omega
          have h4 : ¬ c = 0 := by omega
          go_wp2
          obtain ⟨q0, q1, q2, _, _, _⟩ := HBX.out _ (HBY.out.trans ((HBL.out.trans (HBA.out.mono HBL.out.size)).mono HBY.out.size))
          generalize wr.alloc (.cells #[.int .i64 p, .int .i64 q, .slice (some ⟨b, off, none⟩) bs.length c] 24) = W4 at *
          have n1 : ({ heap := W4.heap, tape := W4.tape, drawn := W4.drawn + 1, os := W4.os, output := W4.output } : World).cell? ⟨w.heap.size, 2, none⟩ = _ := q2
          refine wp_region_still_tail 9 (by kernel_rfl) (by kernel_rfl) ?_
          simp only [List.take_succ_cons, List.take_zero, List.drop_succ_cons, List.drop_zero]
          refine still_of_quiet _ _ ?_
          repeat go_big_quiet_step (fail)
          refine wpQuiet_nil ?_
          change wpList _ _ _ _ _ W4.drew
          clear n1
          have HB4 := hid (HBA.out.drew)
          have HO4 := hid (HOV.out.of_block (w' := W4.drew) rfl)
          generalize W4.drew = W5 at *
          clear HBA HOV q0 q1 q2
          go_wp2_with fail
          all_goals try (rename_i h; subst h)
          all_goals
            first
              | refine (HCC.out _ W5.heap.size (HB4.out.alloc HB4.out.size _) _ (off + (k + 1) * 3) _ (.inl rfl) (by rw [World.cell?_alloc_at _ _ _ _ rfl]; rfl) (by rw [World.cell?_alloc_at _ _ _ _ rfl]; rfl)).mono ?_
              | refine (HCC.out _ W5.heap.size (HB4.out.alloc HB4.out.size _) _ off _ (.inr (by omega)) (by rw [World.cell?_alloc_at _ _ _ _ rfl]; rfl) (by rw [World.cell?_alloc_at _ _ _ _ rfl]; rfl)).mono ?_
            rintro e w6 ⟨v6, rfl, hrow6, hb6⟩
            have HB6 : Hid (Below wr.heap.size wr w6) := hid ((HB4.out.alloc HB4.out.size _).trans (hb6.mono (HB4.out.alloc HB4.out.size _).size))
            have HV6 := hid (row_grown HO4.out (grown_below (((Below.refl _ _).alloc (Nat.le_refl _) _).trans (hb6.mono (by simp)))) (fun e => by cases e))
            have hne : v6.ownBlock = none ∨ v6.ownBlock ≠ some wr.heap.size := by
              cases hq : v6.ownBlock with
              | none => exact .inl rfl
              | some q =>
                refine .inr fun h => ?_
                have h1 := hrow6.lt hq
                have h2 := HO4.out.lt
                have h3 := Option.some.inj h
                simp at h1
                omega
            have HR7 : Hid (RowB (w6.setCell ⟨wr.heap.size, 2, none⟩ v6) _ v6 wo) := hid (World.ownsRow.kept hrow6 (grown_set _ _ _) hne)
            have HB7 := hid (HB6.out.setCell (p := ⟨wr.heap.size, 2, none⟩) (Nat.le_refl _) v6)
            obtain ⟨r7, c7, rfl, hr7⟩ := HR7.out.rd
            have HRR := hid hr7
            have f0 := HV6.out.cell (i := 0) (show _ < 3 by omega)
            have f1 := HV6.out.cell (i := 1) (show _ < 3 by omega)
            have f2 := HV6.out.cell (i := 2) (show _ < 3 by omega)
            have f3 := HV6.out.frozen 2
            simp only [K.rkF] at f0 f1 f2
            clear hrow6 hb6 hne hr7 HR7 HO4 HB4 HV6 HCC
            go_wp2_with fail
            refine (HSK.out _ _ _ HRR.out).mono ?_
            rintro e w8 ⟨rfl, hb8⟩
            have HB8 := hid (HB7.out.trans (hb8.mono HB7.out.size))
            have HO8 := hid (ownsRow_stays (show wr.ownsRow w2.heap.size 3 1 u5 (K.nd p q bs k).length ((K.nd p q bs k).map (Value.int .i64)) from HROW.out) HB8.out)
            have HB9 := hid (HBL.out.trans (HB8.out.mono HBL.out.size))
            clear hb8 HB7 HB6 HRR f0 f1 f2 f3
            by_cases hL : L = 1
            · have hd : decide (L = 1) = true := decide_eq_true hL
              rw [if_pos hL] at HNX
              clear hL
              go_wp2
              go_roundw
              case rel => exact ⟨k + 1, by omega, by go_num, by rw [HNX.out]; exact HO8.out, HB9.out⟩
              case measure => simp [intOf]; omega
            · have hd : decide (L = 1) = false := decide_eq_false hL
              rw [if_neg hL] at HNX
              clear hL
              have hnl := HNL.out
              have HM1 : Hid ((K.nd p q bs k).length + 1 ≤ maxLen) := hid (by unfold maxLen; omega)
              have HM2 : Hid (((K.nd p q bs k).length + 1) * 8 ≤ 140737488355328) := hid (by omega)
              have HSZ : Hid (w2.heap.size ≤ w8.heap.size) := hid HB9.out.size
              clear hnl
              go_wp2_with (at_builtin; refine wpList_append_own _ rfl _ _ 40 rfl w2.heap.size 3 i0 (.int .i64 0) 1 8 Try.underlying40 hi hz0 hz1 hz2 rfl (by decide) _ _ _ rfl (ownsRow_stays HO8.out ((Below.refl _ _).alloc (Nat.le_refl _) _)) ⟨w8.heap.size, 0, none⟩ 1 1 [.int .i64 (k : Int)] rfl rfl ?c1 ?c2 HM1.out HM2.out ?c5 ?_)
              case c1 =>
                intro j u hj
                match j, hj with
                | 0, hj => simp at hj; subst hj; simp [Addr.add]
              case c2 => intro u hu; simp at hu; subst hu; rfl
              case c5 => exact Nat.le_trans HSZ.out (by simp)
              intro v' w9 hown' hgrow _
              have HBZ9 := hid (Below.grown (HB9.out.alloc HB9.out.size (.cells #[.int .i64 (k : Int)] 3)) hgrow (by simp; have := HB9.out.size; omega) (fun q hq => (World.ownsRow.lt HO8.out q hq).1))
              have HO9 := hid hown'
              clear hown' hgrow
              go_wp2
              go_roundw
              case rel => exact ⟨k + 1, by omega, by go_num, by
                rw [HNX.out]
                unfold RowI
                rw [List.length_append, List.map_append]
                exact HO9.out, HBZ9.out⟩
              case measure => simp [intOf]; omega
        · have hke : k = bs.length := by omega
          subst hke
          obtain ⟨ra, rc, rfl, hrd⟩ := HROW.out.rd
          have HRD := hid hrd
          have HBE := hid (HB2.out.trans (HBL.out.mono HB2.out.size))
          clear hrd hr HROW HR
          go_wp2
          go_ret2
          exact ⟨ra, rc, rfl, HRD.out, HBE.out⟩
  · have hne : (K.chk m n bs != 0) = true := by simpa using h0
    have HD : Hid (K.ndl m n bs = [] ∧ K.nde m n bs = K.chk m n bs) := hid (by unfold K.ndl K.nde; rw [if_neg h0, if_neg h0]; exact ⟨rfl, rfl⟩)
    rw [HD.out.1, HD.out.2]
    clear HD
    generalize K.chk m n bs = err at *
    clear h0 hm
    unfold K.rk at HCK ⊢
    go_enter Try.func21, Try.ntmps21
    go_wp2_with fail
    refine HCK.out.mono ?_
    rintro e w1 ⟨rfl, hb⟩
    have HBW := hid (HB0.out.trans (hb.mono HB0.out.size))
    clear hb
    go_wp2
    go_ret2
    exact ⟨_, _, rfl, (fun k hk => absurd hk (Nat.not_lt_zero _)), HBW.out⟩
end Go.Proofs.Ytmbfpekcfeeifaa
