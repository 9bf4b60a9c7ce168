/- Package tuscheref11: the walk of Places. -/
import Derived.Test.YthaoacnaeafbeaaXRPl
namespace Go.Proofs.Ythaoacnaeafbeaa
open Go.RowKit

/-- Whether a place can be added, as the reference asks. -/
theorem X.wf_iff {l : List Int} (hok : X.Ok l) (x : Int) : ((X.wf l x).length > l.length ↔ x ∉ l) ∧ (x ∉ l → X.wf l x = X.ins l x) := by
  refine ⟨⟨fun h hn => ?_, fun hn => ?_⟩, fun hn => X.wf_out hok hn⟩
  · rw [X.wf_in hok hn] at h; exact Nat.lt_irrefl _ h
  · rw [X.wf_out hok hn, X.ins_len]; omega

set_option maxHeartbeats 8000000 in
set_option maxRecDepth 100000 in
theorem refPlaces_any (a : Option Addr) (c : Nat) (l : List Int) (mo : Int) (w : World) (hm : l.length ≤ maxLen) (hl : RdI w a l) :
    Calls Try.prog 30 #[.slice a l.length c, .int .i64 mo] w (X.LE (X.plV l mo) (X.plE l mo) w) := by
  obtain ⟨i0, hi, hz0, hz1, hz2⟩ := info_parts (show (Try.prog.info? 3).map (fun i => (i.zero, i.size, i.bytes)) = some (some (.int .i64 0), 1, 8) by kernel_rfl)
  have HC := hid (refCheck_any a c l w hm hl)
  unfold X.plV
  by_cases h0 : X.chk l = 0
  · have hok := X.chk_zero.1 h0
    have h2 := hok.two
    have h8 := hok.eight
    rw [h0] at HC
    have HIC := hid (fun W (h : Below w.heap.size w W) => refIsClear_any a c l W (hl.stays h) hok)
    have HWI := hid (fun W => is_any mo 0 60 W)
    cases hc : X.clr l with
    | false =>
      have HE : Hid (X.plE l mo = 13) := hid (by unfold X.plE; rw [if_pos h0, if_neg (by rw [hc]; simp)])
      rw [hc] at HIC
      rw [HE.out, if_neg (show ¬ (13 : Int) = 0 by omega)]
      clear hl hok hc h0
      go_enter Try.func30, Try.ntmps30
      go_wp2_with fail
      refine HC.out.mono ?_
      rintro e w1 ⟨rfl, hb1⟩
      go_wp2_with fail
      refine (HIC.out _ hb1).mono ?_
      rintro e w2 ⟨rfl, hb⟩
      have HB := hid (hb1.trans (hb.mono hb1.size))
      clear hb hb1
      go_wp2
      go_ret2
      exact ⟨none, 0, rfl, RdI.nil _ _, HB.out⟩
    | true =>
      rw [hc] at HIC
      by_cases h88 : l.length = 8
      · have HE : Hid (X.plE l mo = 2) := hid (by unfold X.plE; rw [if_pos h0, if_pos hc, if_pos h88])
        rw [HE.out, if_neg (show ¬ (2 : Int) = 0 by omega)]
        have h8' : ((l.length : Int) == 8) = true := by simp; omega
        clear hl hok hc h0 h88
        go_enter Try.func30, Try.ntmps30
        go_wp2_with fail
        refine HC.out.mono ?_
        rintro e w1 ⟨rfl, hb1⟩
        go_wp2_with fail
        refine (HIC.out _ hb1).mono ?_
        rintro e w2 ⟨rfl, hb⟩
        have HB := hid (hb1.trans (hb.mono hb1.size))
        clear hb hb1
        go_wp2
        go_ret2
        exact ⟨none, 0, rfl, RdI.nil _ _, HB.out⟩
      · have h8' : ((l.length : Int) == 8) = false := by simp; omega
        have h7 : l.length ≤ 7 := by omega
        cases hw : X.wi mo 0 60 with
        | false =>
          have HE : Hid (X.plE l mo = 4) := hid (by unfold X.plE; rw [if_pos h0, if_pos hc, if_neg h88, hw]; rfl)
          rw [hw] at HWI
          rw [HE.out, if_neg (show ¬ (4 : Int) = 0 by omega)]
          clear hl hok hc h0 h88 hw
          go_enter Try.func30, Try.ntmps30
          go_wp2_with fail
          refine HC.out.mono ?_
          rintro e w1 ⟨rfl, hb1⟩
          go_wp2_with fail
          refine (HIC.out _ hb1).mono ?_
          rintro e w2 ⟨rfl, hb⟩
          have HB := hid (hb1.trans (hb.mono hb1.size))
          clear hb hb1
          go_wp2_with fail
          refine (HWI.out _).mono ?_
          rintro e w3 ⟨rfl, rfl⟩
          go_wp2
          go_ret2
          exact ⟨none, 0, rfl, RdI.nil _ _, HB.out⟩
        | true =>
          obtain ⟨M, rfl⟩ : ∃ M : Nat, mo = (M : Int) := ⟨mo.toNat, by have := X.wi_true.1 hw; omega⟩
          have hM60 := (X.wi_true.1 hw).2
          have HE : Hid (X.plE l (M : Int) = 0) := hid (by unfold X.plE; rw [if_pos h0, if_pos hc, if_neg h88, hw]; rfl)
          rw [hw] at HWI
          rw [HE.out, if_pos rfl, Int.toNat_natCast]
          have HWT := hid (fun (k : Nat) W (h : Below w.heap.size w W) => refWith_any a c l (k : Int) W (hl.stays h) h8)
          have HCL := hid (fun (k : Nat) (hk : k ≤ 60) (hn : (k : Int) ∉ l) (x : Option Addr) (cx : Nat) W (hr : RdI W x (X.ins l k)) => refIsClear_any x cx (X.ins l k) W hr (X.ins_ok hok h7 ⟨by omega, by omega⟩ hn))
          have HWF := hid (fun (k : Nat) => X.wf_iff hok (k : Int))
          have HIL := hid (fun (k : Nat) => X.ins_len l (k : Int))
          have HIN := hid (fun (k : Nat) (h : (k : Int) ∈ l) => X.wf_in hok h)
          have HSU := hid (X.pl_succ l)
          have HLL := hid (X.pl_len l)
          have HS0 : Hid (X.pl l 0 = []) := hid rfl
          generalize X.pl l = F at *
          clear hl hok hc h0 h88 hw
          go_enter Try.func30, Try.ntmps30
          go_wp2_with fail
          refine HC.out.mono ?_
          rintro e w1 ⟨rfl, hb1⟩
          go_wp2_with fail
          refine (HIC.out _ hb1).mono ?_
          rintro e w2 ⟨rfl, hb⟩
          have HB2 := hid (hb1.trans (hb.mono hb1.size))
          clear hb hb1
          go_wp2_with fail
          refine (HWI.out _).mono ?_
          rintro e w3 ⟨rfl, rfl⟩
          go_wp2_with fail
          go_loopw [7, 8] (fun v s wr => ∃ k : Nat, k ≤ M + 1 ∧ s = .int .i64 k ∧ RowI wr w.heap.size v (F k) ∧ Below w.heap.size w wr) (fun _ s _ => M + 1 - (intOf s).toNat)
          case atStart => exact ⟨0, Nat.zero_le _, rfl, by rw [HS0.out]; exact RowI.nil _ _, HB2.out⟩
          case round => as_aux_lemma =>
            obtain ⟨k, hk, rfl, hown, hb⟩ := hrel
            have HOW := hid hown
            have HBW := hid hb
            clear hown hb HB2
            by_cases hlt : k < M + 1
            · have hlt' : decide ((k : Int) ≤ (M : Int)) = true := by simp; omega
              have HSK := hid (HSU.out k)
              have hfl := HLL.out k
              have HW1 := hid (HWT.out k wr HBW.out)
              generalize F k = K at *
              by_cases hin : (k : Int) ∈ l
              · have HSK2 : Hid (F (k + 1) = K) := hid (by rw [HSK.out, if_neg (fun h => h.1 hin), List.append_nil])
                have HLE := hid (HIN.out k hin)
                generalize X.wf l (k : Int) = N at *
                clear hin HWF
                have hgt : ¬ l.length < N.length := by have := HLE.out; omega
                have hgt2 : ¬ ((l.length : Int) < (N.length : Int)) := by omega
                go_wp2_with fail
                refine HW1.out.mono ?_
                rintro e w5 ⟨y, cy, rfl, -, hb⟩
                have HB5 := hid (HBW.out.trans (hb.mono HBW.out.size))
                have HO5 := hid (RowI.stays HOW.out hb)
                clear hb
                go_wp2
                go_roundw
                case rel => exact ⟨k + 1, by omega, by go_num, by rw [HSK2.out]; exact HO5.out, HB5.out⟩
                case measure => simp [intOf]; omega
              · have HC2 := hid (HCL.out k (by omega) hin)
                have HEQ := hid ((HWF.out k).2 hin)
                have HLE := hid (HIL.out k)
                have HSK3 : Hid (F (k + 1) = K ++ (if X.clr (X.ins l k) = true then [(k : Int)] else [])) := hid (by
                  rw [HSK.out]
                  congr 1
                  by_cases hcc : X.clr (X.ins l k) = true
                  · rw [if_pos ⟨hin, hcc⟩, if_pos hcc]
                  · rw [if_neg (fun h => hcc h.2), if_neg hcc])
                rw [HEQ.out] at HW1
                clear hin HSK HWF HEQ
                generalize X.clr (X.ins l k) = cl at *
                generalize X.ins l k = N at *
                have hgt : l.length < N.length := by have := HLE.out; omega
                have hgt2 : (l.length : Int) < (N.length : Int) := by omega
                cases cl with
                | true =>
                  have HSK2 : Hid (F (k + 1) = K ++ [(k : Int)]) := hid HSK3.out
                  have HM1' : Hid (K.length + 1 ≤ maxLen) := hid (by unfold maxLen; omega)
                  have HM2' : Hid ((K.length + 1) * 8 ≤ 140737488355328) := hid (by omega)
                  go_wp2_with fail
                  refine HW1.out.mono ?_
                  rintro e w5 ⟨y, cy, rfl, hr, hb⟩
                  have HC3 := hid (HC2.out y cy w5 hr)
                  have HB5 := hid (HBW.out.trans (hb.mono HBW.out.size))
                  have HO5 := hid (RowI.stays HOW.out hb)
                  clear hr hb
                  go_wp2_with fail
                  refine HC3.out.mono ?_
                  rintro e w6 ⟨rfl, hb⟩
                  have HB6 := hid (HB5.out.trans (hb.mono HB5.out.size))
                  have HO6 := hid (RowI.stays HO5.out hb)
                  clear hb
                  go_wp2_with (at_builtin; refine wpList_append_own _ rfl _ _ 22 rfl w.heap.size 3 i0 (.int .i64 0) 1 8 Try.underlying22 hi hz0 hz1 hz2 rfl (by decide) _ _ _ rfl (World.ownsRow.alloc HO6.out _) ⟨w6.heap.size, 0, none⟩ 1 1 [.int .i64 (k : Int)] rfl rfl (X.Lit.one' _ _ _ _ rfl) (X.one1 _) HM1'.out HM2'.out (Nat.le_trans HB6.out.size (by simp)) ?_; intro v' w9 hown' hgrow _)
                  have HB9 := hid (Below.grown (HB6.out.alloc HB6.out.size (.cells #[.int .i64 (k : Int)] 3)) hgrow (by simp; have := HB6.out.size; omega) (fun q hq => (World.ownsRow.lt HO6.out q hq).1))
                  have HO9 := hid (RowI.push hown')
                  clear hown' hgrow
                  go_wp2
                  go_roundw
                  case rel => exact ⟨k + 1, by omega, by go_num, by rw [HSK2.out]; exact HO9.out, HB9.out⟩
                  case measure => simp [intOf]; omega
                | false =>
                  have HSK2 : Hid (F (k + 1) = K) := hid (by rw [HSK3.out, if_neg (by simp), List.append_nil])
                  go_wp2_with fail
                  refine HW1.out.mono ?_
                  rintro e w5 ⟨y, cy, rfl, hr, hb⟩
                  have HC3 := hid (HC2.out y cy w5 hr)
                  have HB5 := hid (HBW.out.trans (hb.mono HBW.out.size))
                  have HO5 := hid (RowI.stays HOW.out hb)
                  clear hr hb
                  go_wp2_with fail
                  refine HC3.out.mono ?_
                  rintro e w6 ⟨rfl, hb⟩
                  have HB6 := hid (HB5.out.trans (hb.mono HB5.out.size))
                  have HO6 := hid (RowI.stays HO5.out hb)
                  clear hb
                  go_wp2
                  go_roundw
                  case rel => exact ⟨k + 1, by omega, by go_num, by rw [HSK2.out]; exact HO6.out, HB6.out⟩
                  case measure => simp [intOf]; omega
            · have hke : k = M + 1 := by omega
              subst hke
              have hlt' : decide ((((M + 1 : Nat)) : Int) ≤ (M : Int)) = false := by simp; omega
              obtain ⟨x, cx, rfl, hr⟩ := HOW.out.rd
              have HR := hid hr
              clear hr
              go_wp2
              go_ret2
              exact ⟨x, cx, rfl, HR.out, HBW.out⟩
  · have HE : Hid (X.plE l mo = X.chk l) := hid (by unfold X.plE; rw [if_neg h0])
    rw [HE.out, if_neg h0]
    have hne : (X.chk l != 0) = true := by rw [bne_iff_ne]; exact h0
    have hne2 : (X.chk l == 0) = false := by rw [beq_eq_false_iff_ne]; exact h0
    generalize X.chk l = z at *
    clear hl h0
    go_enter Try.func30, Try.ntmps30
    go_wp2_with fail
    refine HC.out.mono ?_
    rintro e w1 ⟨rfl, hb⟩
    have HB := hid hb
    clear hb
    go_wp2
    go_ret2
    exact ⟨none, 0, rfl, RdI.nil _ _, HB.out⟩
end Go.Proofs.Ythaoacnaeafbeaa
