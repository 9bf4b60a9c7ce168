/- Package repeat: Covers. -/
import Derived.Test.YtiodcgdjphmffaaBPer
namespace Go.Proofs.Ytiodcgdjphmffaa
open Go.RowKit

def B.coversV (s : ByteArray) : List Int × Int := if B.chk s = 0 then (B.sel (B.cov s.data.toList) s.size, 0) else ([], B.chk s)
/-- A list of numbers and an error, returned. -/
def B.ListE (l : List Int) (err : Int) (w : World) (e : Ending) (w' : World) : Prop := ∃ a c, e = .returned (.tuple #[.slice a l.length c, .int .i64 err]) ∧ RdI w' a l ∧ Below w.heap.size w w'

set_option maxHeartbeats 1000000 in
set_option maxRecDepth 100000 in
theorem coversL_any (s : ByteArray) (w : World) (hm : s.size ≤ maxLen) :
    Calls Try.prog 20 #[.string s] w (B.ListE (B.coversV s).1 (B.coversV s).2 w) := by
  have CC := hid (fun w => check_any s w hm)
  by_cases h0 : B.chk s = 0
  · have HV : Hid (B.coversV s = (B.sel (B.cov s.data.toList) s.size, 0)) := hid (by unfold B.coversV; rw [if_pos h0])
    have h24 := (B.chk_zero h0).2.1
    have CF := hid (fun k w (h : k ≤ s.size) => covers_any s k w (by omega) h)
    rw [h0] at CC
    clear h0
    rw [HV.out]
    have HH := hid (fun k => B.sel_hit (f := B.cov s.data.toList) (k := k))
    have HN := hid (fun k => B.sel_miss (f := B.cov s.data.toList) (k := k))
    have HL := hid (B.sel_len (B.cov s.data.toList))
    obtain ⟨i0, hi, hz0, hz1, hz2⟩ := info_parts (show (Try.prog.info? 3).map (fun i => (i.zero, i.size, i.bytes)) = some (some (.int .i64 0), 1, 8) by kernel_rfl)
    go_enter Try.func20, Try.ntmps20
    go_wp2_with (refine (CC.out _).mono ?_; rintro e w1 ⟨rfl, b1⟩; replace b1 := hid b1)
    go_loopw [5, 6] (fun v i wr => ∃ k : Nat, k ≤ s.size ∧ i = .int .i64 ((k : Int) + 1) ∧ RowI wr w.heap.size v (B.sel (B.cov s.data.toList) k) ∧ Below w.heap.size w wr) (fun _ i _ => s.size + 1 - (intOf i).toNat)
    case atStart => exact ⟨0, Nat.zero_le _, rfl, RowI.nil _ _, b1.out⟩
    case round =>
      obtain ⟨k, hk, rfl, hrow, hb⟩ := hrel
      have HROW := hid hrow
      have HB := hid hb
      clear hrow hb
      by_cases hlt : k < s.size
      · have HH1 := hid (HH.out k)
        have HN1 := hid (HN.out k)
        have hlk := HL.out k
        have CF1 := hid (fun w => CF.out (k + 1) w (by omega))
        have HM1 : Hid ((B.sel (B.cov s.data.toList) k).length + 1 ≤ maxLen) := hid (by unfold maxLen; omega)
        have HM2 : Hid (((B.sel (B.cov s.data.toList) k).length + 1) * 8 ≤ 140737488355328) := hid (by omega)
        have hwk : ((k + 1 : Nat) : Int) = (k : Int) + 1 := by omega
        have HG : Hid (∃ F, B.sel (B.cov s.data.toList) k = F) := hid ⟨_, rfl⟩
        rw [hwk] at CF1
        have HWK := hid hwk
        clear hlk hwk
        generalize B.cov s.data.toList (k + 1) = c at *
        cases c with
        | true =>
          have HE2 := hid (HH1.out rfl)
          rw [HWK.out] at HE2
          clear HH1 HN1
          obtain ⟨F, hF⟩ := HG.out
          rw [hF] at HROW HE2 HM1 HM2
          clear HG hF
          go_wp2_with (first | (go_at_call 51; refine (CF1.out _).mono ?_; rintro e w2 ⟨rfl, hb2⟩; have HB2 := hid (HB.out.trans (hb2.mono HB.out.size)); have HROW2 := hid (HROW.out.stays hb2); clear hb2) | (at_builtin; refine wpList_append_own _ rfl _ _ 23 rfl w.heap.size 3 i0 (.int .i64 0) 1 8 Try.underlying23 hi hz0 hz1 hz2 rfl (by decide) _ _ _ rfl (World.ownsRow.alloc HROW2.out _) ⟨w2.heap.size, 0, none⟩ 1 1 [.int .i64 ((k : Int) + 1)] rfl rfl ?pa ?pb HM1.out HM2.out ?pc ?_))
          case pa =>
            intro i u hi
            match i, hi with
            | 0, hi => simp at hi; subst hi; rw [show Addr.add ⟨w2.heap.size, 0, none⟩ 0 = ⟨w2.heap.size, 0, none⟩ from rfl, World.cell?_alloc_at _ _ _ _ rfl]; rfl
          case pb => intro u hu; simp at hu; subst hu; rfl
          case pc => exact Nat.le_trans HB2.out.size (by simp)
          intro v' w9 hown' hgrow _
          have HB9 := hid (Below.grown (HB2.out.alloc HB2.out.size (.cells #[.int .i64 ((k : Int) + 1)] 3)) hgrow (by simp; have := HB2.out.size; omega) (fun q hq => (World.ownsRow.lt HROW2.out q hq).1))
          have HO9 := hid (RowI.push hown')
          clear hown' hgrow
          go_wp2
          go_roundw
          case rel => exact ⟨k + 1, by omega, by go_num, by rw [HE2.out]; exact HO9.out, HB9.out⟩
          case measure => simp [intOf]; omega
        | false =>
          have HE2 := hid (HN1.out rfl)
          clear HH1 HN1
          go_wp2_with (go_at_call 51; refine (CF1.out _).mono ?_; rintro e w2 ⟨rfl, hb2⟩; have HB2 := hid (HB.out.trans (hb2.mono HB.out.size)); have HROW2 := hid (HROW.out.stays hb2); clear hb2)
          go_roundw
          case rel => exact ⟨k + 1, by omega, by go_num, by rw [HE2.out]; exact HROW2.out, HB2.out⟩
          case measure => simp [intOf]; omega
      · have hke : k = s.size := by omega
        subst hke
        obtain ⟨a9, c9, rfl, hrd⟩ := HROW.out.rd
        have HRD := hid hrd
        clear hrd
        go_wp2
        go_ret2
        exact ⟨_, _, rfl, HRD.out, HB.out⟩
  · have HV : Hid (B.coversV s = ([], B.chk s)) := hid (by unfold B.coversV; rw [if_neg h0])
    have hn : (B.chk s != 0) = true := by simpa using h0
    rw [HV.out]
    clear h0
    generalize B.chk s = c at *
    go_enter Try.func20, Try.ntmps20
    go_wp2_with (refine (CC.out _).mono ?_; rintro e w1 ⟨rfl, b1⟩; replace b1 := hid b1)
    go_ret2
    exact ⟨_, _, rfl, fun k hk => absurd hk (Nat.not_lt_zero _), b1.out⟩
end Go.Proofs.Ytiodcgdjphmffaa
