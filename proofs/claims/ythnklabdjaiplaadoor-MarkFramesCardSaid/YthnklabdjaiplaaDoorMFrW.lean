/- The walk of the law MarkFrames. -/
import Derived.Test.YthnklabdjaiplaaDoorMFrR
import Derived.Test.YthnklabdjaiplaaDoorMLrg
import Derived.Test.YthnklabdjaiplaaDoorMWorks
namespace Go.Proofs.YthnklabdjaiplaaDoor
open Go.RowKit

theorem M.fra_len (m : Int) (T : List (List Int)) (sz : Int) : (M.fraV m T sz).1.length ≤ 10 := by
  unfold M.fraV
  by_cases h0 : M.chk m T = 0
  · rw [if_pos h0]
    by_cases h1 : M.sz sz = 0
    · rw [if_pos h1]
      cases hf : M.fra T sz.toNat with
      | none => exact Nat.zero_le _
      | some c =>
        have hm := List.mem_of_find?_eq_some hf
        have h2 := (M.mem_all.1 hm).2.1
        have h3 : sz ≤ 10 := by
          unfold M.sz at h1
          by_cases h : 1 ≤ sz ∧ sz ≤ 10
          · exact h.2
          · rw [if_neg h] at h1; omega
        show (M.toI c).length ≤ 10
        rw [M.toI_len]
        omega
    · rw [if_neg h1]; exact Nat.zero_le _
  · rw [if_neg h0]; exact Nat.zero_le _

set_option maxHeartbeats 4000000 in
set_option maxRecDepth 100000 in
theorem markFrames_any (m : Int) (a : Option Addr) (c : Nat) (T : List (List Int)) (sz : Int) (w : World) (htb : M.TB w) (hm : T.length ≤ maxLen) (hml : ∀ i, i < T.length → (T.getD i []).length ≤ maxLen) (hT : RdM w a T) :
    Calls Tryd.prog 4 #[M.cv m a T.length c, .int .i64 sz] w fun e w' => e = .returned (.bool true) ∧ Below w.heap.size w w' := by
  obtain ⟨W, hW, c0, c1, hB, hlt⟩ := M.newT w 24 (.int .i64 m) (.slice a T.length c)
  have HB := hid hB
  have HTB := hid (htb.stays hB)
  have HT := hid (hT.stays hB)
  have HLG := hid (large_any m a c T W hm HT.out)
  have KWK := hid (fun (w1 : World) (hb : Below W.heap.size W w1) => works_any w1 (HTB.out.stays hb))
  have KF1 := hid (fun (w1 : World) (hb : Below W.heap.size W w1) => (callsIn_wide (n := 6)).1 (Frames_in 6 (Nat.le_refl _) m a c T sz w1 hm hml (HT.out.stays hb)))
  have KF2 := hid (fun (w1 : World) (hb : Below W.heap.size W w1) => refFrames_any m a c T sz w1 hm hml (HT.out.stays hb))
  have hfl := M.fra_len m T sz
  unfold M.cv at *
  cases hlr : M.lrg T with
  | true =>
    rw [hlr] at HLG
    clear hB htb hT hlr hfl
    go_enter Tryd.func4, Tryd.ntmps4
    go_wp2_with fail
    rw [hW] at *
    refine HLG.out.mono ?_
    rintro e w2 ⟨rfl, hb2⟩
    have HB2 := hid hb2
    clear hb2
    go_wp2_with fail
    refine (KWK.out w2 HB2.out).mono ?_
    rintro e w3 ⟨rfl, hb3⟩
    have HB3 := hid (HB.out.trans ((HB2.out.trans (hb3.mono HB2.out.size)).mono HB.out.size))
    clear hb3
    go_wp2
    go_ret
    exact ⟨rfl, HB3.out⟩
  | false =>
    rw [hlr] at HLG
    clear hB htb hT hlr hml hm
    generalize M.fraV m T sz = r at *
    obtain ⟨L, cu, er⟩ := r
    have HFL := hid hfl
    unfold M.FE at KF1 KF2
    dsimp only at KF1 KF2 HFL
    clear hfl
    go_enter Tryd.func4, Tryd.ntmps4
    go_wp2_with fail
    rw [hW] at *
    refine HLG.out.mono ?_
    rintro e w2 ⟨rfl, hb2⟩
    have HB2 := hid hb2
    have q0 := cell_stays hb2 (Nat.le_refl _) c0
    have q1 := cell_stays hb2 (Nat.le_refl _) c1
    clear hb2 c0 c1
    go_wp2_with fail
    refine (KF1.out w2 HB2.out).mono ?_
    rintro e w3 ⟨x1, y1, rfl, hr1, hb3⟩
    replace q0 := cell_stays hb3 (Nat.le_refl _) q0
    replace q1 := cell_stays hb3 (Nat.le_refl _) q1
    have HB3 := hid (HB2.out.trans (hb3.mono HB2.out.size))
    have HR1 := hid hr1
    clear hb3 hr1
    go_wp2_with fail
    refine (KF2.out w3 HB3.out).mono ?_
    rintro e w4 ⟨x2, y2, rfl, hr2, hb4⟩
    have HB4 := hid (HB3.out.trans (hb4.mono HB3.out.size))
    have HR2 := hid hr2
    replace HR1 := hid (HR1.out.stays hb4)
    clear hb4 hr2 q0 q1
    go_wp2_with fail
    refine (numbers_eq x1 x2 y1 y2 L w4 (by have := HFL.out; unfold maxLen; omega) HR1.out HR2.out).mono ?_
    rintro e w5 ⟨rfl, nn, hn⟩
    have HB5 := hid (show Below W.heap.size W w5 by rw [hn]; exact below_drewN HB4.out nn)
    clear hn
    have he1 : (cu == cu) = true := by simp
    have he2 : (er == er) = true := by simp
    go_wp2_with fail
    refine (KWK.out w5 HB5.out).mono ?_
    rintro e w6 ⟨rfl, hb6⟩
    have HB6 := hid (HB.out.trans ((HB5.out.trans (hb6.mono HB5.out.size)).mono HB.out.size))
    clear hb6
    go_wp2
    go_ret
    exact ⟨rfl, HB6.out⟩
end Go.Proofs.YthnklabdjaiplaaDoor
