/- Package tuscheref04: the walks of is and Check. -/
import Derived.Test.YtffcnjcglfkbnaaTChk
namespace Go.Proofs.Ytffcnjcglfkbnaa
open Go.RowKit

set_option maxHeartbeats 1000000 in
theorem refIs_any (x : Int) (w : World) : Calls Try.prog 53 #[.int .i64 x, .int .i64 1, .int .i64 46] w fun e w' => e = .returned (.bool (K.img x)) ∧ w' = w := by
  by_cases h1 : 1 ≤ x
  · by_cases h2 : x ≤ 46
    · have h : K.img x = true := by unfold K.img; simp [h1, h2]
      rw [h]
      go_enter Try.func53, Try.ntmps53
      go_wp2
      go_ret
      exact ⟨ret_bool (by simp), rfl⟩
    · have h : K.img x = false := by unfold K.img; simp [h1, h2]
      rw [h]
      go_enter Try.func53, Try.ntmps53
      go_wp2
      go_ret
      exact ⟨ret_bool (by simp), rfl⟩
  · have h : K.img x = false := by unfold K.img; simp [h1]
    rw [h]
    go_enter Try.func53, Try.ntmps53
    go_wp2
    go_ret
    exact ⟨rfl, rfl⟩

theorem index0 (W : World) (p q : Int) : (Instr.index 58 (.agg #[.int .i64 p, .int .i64 q]) (.int .i64 0)).run Try.prog W = .ok (.int .i64 p) W := by
  simp [Instr.index, go_sem]

set_option maxHeartbeats 4000000 in
set_option maxRecDepth 100000 in
theorem refCheck_any (a : Option Addr) (c : Nat) (l : List Int) (w : World) (hc : l.length ≤ c) (hcm : c ≤ maxLen) (hx : RdI w a l) :
    Calls Try.prog 22 #[.slice a l.length c] w fun e w' => e = .returned (.int .i64 (K.chk l)) ∧ Below w.heap.size w w' := by
  have hcm' := hcm
  unfold maxLen at hcm'
  have hrefl := Below.refl w.heap.size w
  have HB := hid hrefl
  by_cases h0 : l.length = 0
  · have HK : Hid (K.chk l = 1) := hid (by unfold K.chk; rw [if_pos h0])
    clear hrefl hx
    rw [HK.out]
    generalize l.length = n at *
    subst h0
    go_enter Try.func22, Try.ntmps22
    go_wp2
    go_ret
    exact ⟨rfl, HB.out⟩
  by_cases h20 : 20 < l.length
  · have HK : Hid (K.chk l = 2) := hid (by unfold K.chk; rw [if_neg h0, if_pos h20])
    clear hrefl hx
    rw [HK.out]
    have h0' : ((l.length : Int) == 0) = false := by rw [beq_eq_false_iff_ne]; omega
    go_enter Try.func22, Try.ntmps22
    go_wp2
    go_ret
    exact ⟨rfl, HB.out⟩
  obtain ⟨b, off, ha, _⟩ := hx 0 (by omega)
  subst ha
  have hx' : ∀ k, k < l.length → w.cell? ⟨b, off + k, none⟩ = some (.int .i64 (l.getD k 0)) := fun k hk => by
    obtain ⟨b', off', he, hcell⟩ := hx k hk
    simp only [Option.some.injEq, Addr.mk.injEq, and_true] at he
    obtain ⟨rfl, rfl⟩ := he
    rw [hcell]; simp [List.getD, hk]
  have HX := hid hx'
  have HC0 : Hid (K.chk l = if K.asc 0 l ≠ 0 then K.asc 0 l else if l.getD 0 0 ≠ 1 then 13 else if K.allWay l (l.length - 1) 1 = true then 0 else 13) := hid (by unfold K.chk; rw [if_neg h0, if_neg h20])
  clear hrefl hx hx'
  have h0' : ((l.length : Int) == 0) = false := by rw [beq_eq_false_iff_ne]; omega
  go_enter Try.func22, Try.ntmps22
  go_wp2
  go_loopw [3] (fun i wr => ∃ k : Nat, k ≤ l.length ∧ i = .int .i64 k ∧ K.asc 0 l = K.asc (K.bef l k) (l.drop k) ∧ ∃ q, wr = w.drewN q) (fun i _ => l.length - (intOf i).toNat)
  case atStart => exact ⟨0, Nat.zero_le _, rfl, rfl, 0, rfl⟩
  case round =>
    obtain ⟨k, hk, rfl, hasc, qq, rfl⟩ := hrel
    have HA := hid hasc
    clear hasc
    by_cases hlt : k < l.length
    · have hck := HX.out k hlt
      have HD := hid (K.asc_drop (p := K.bef l k) hlt)
      have HI := hid (refIs_any (l.getD k 0) (w.drewN qq))
      have hix : (0 : Int) ≤ (k : Int) ∧ (k : Int) < (l.length : Int) := by omega
      generalize hxk : l.getD k 0 = x at *
      have HXK := hid hxk
      clear hxk
      cases hi : K.img x with
      | false =>
        have HR : Hid (K.chk l = 3) := hid (by rw [HC0.out, HA.out, HD.out, if_pos hi]; simp)
        rw [hi] at HI
        clear hi
        go_wp2_with fail
        refine HI.out.mono ?_
        rintro e w2 ⟨rfl, rfl⟩
        go_wp2
        go_ret
        rw [HR.out]
        exact ⟨rfl, below_drewN HB.out qq⟩
      | true =>
        have hx1 := K.img_iff hi
        rw [hi] at HI
        by_cases hk0 : k = 0
        · subst hk0
          rw [Nat.add_zero] at hck
          have HN : Hid (K.asc 0 l = K.asc (K.bef l (0 + 1)) (l.drop (0 + 1))) := hid (by rw [HA.out, HD.out, if_neg (by rw [hi]; simp), if_neg (by unfold K.bef; rw [if_pos rfl]; omega)])
          clear hi
          go_wp2_with fail
          refine HI.out.mono ?_
          rintro e w2 ⟨rfl, rfl⟩
          go_wp2
          go_quiet (fail)
          go_wp2
          go_roundw
          case rel => exact ⟨0 + 1, by omega, by go_num, HN.out, _, rfl⟩
          case measure => simp [intOf]; omega
        · have hcp := HX.out (k - 1) (by omega)
          have hbf : K.bef l k = l.getD (k - 1) 0 := by unfold K.bef; rw [if_neg hk0]
          generalize l.getD (k - 1) 0 = p at *
          have hdk : decide ((0 : Int) < (k : Int)) = true := by rw [decide_eq_true_eq]; omega
          have hdk2 : decide (0 < k) = true := by rw [decide_eq_true_eq]; omega
          have hwr : IntKind.i64.wrap ((k : Int) - 1) = ((k - 1 : Nat) : Int) := by rw [IntWalk.i64_in _ (by omega)]; omega
          have hsub : (k : Int) - 1 = ((k - 1 : Nat) : Int) := by omega
          have hsub3 : (0 : Int) ≤ ((k - 1 : Nat) : Int) ∧ ((k - 1 : Nat) : Int) < (l.length : Int) := by omega
          have hsub2 : ((k - 1 : Nat) : Int) < (l.length : Int) := by omega
          by_cases hp : x ≤ p
          · have HR : Hid (K.chk l = 7) := hid (by
              have h7 : K.asc 0 l = 7 := by rw [HA.out, HD.out, if_neg (by rw [hi]; simp), hbf, if_pos hp]
              rw [HC0.out, h7]; simp)
            clear hi hbf
            go_wp2_with fail
            refine HI.out.mono ?_
            rintro e w2 ⟨rfl, rfl⟩
            go_wp2
            go_quiet (fail)
            go_wp2
            go_ret
            rw [HR.out]
            exact ⟨rfl, below_drewN (below_drewN HB.out qq) _⟩
          · have HN : Hid (K.asc 0 l = K.asc (K.bef l (k + 1)) (l.drop (k + 1))) := hid (by rw [HA.out, HD.out, if_neg (by rw [hi]; simp), hbf, if_neg hp])
            clear hi hbf
            go_wp2_with fail
            refine HI.out.mono ?_
            rintro e w2 ⟨rfl, rfl⟩
            go_wp2
            go_quiet (fail)
            go_wp2
            go_roundw
            case rel => exact ⟨k + 1, by omega, by go_num, HN.out, _, rfl⟩
            case measure => simp [intOf]; omega
    · have hke : k = l.length := by omega
      subst hke
      have HZ : Hid (K.asc 0 l = 0) := hid (by rw [HA.out, List.drop_length]; rfl)
      have HC1 : Hid (K.chk l = if l.getD 0 0 ≠ 1 then 13 else if K.allWay l (l.length - 1) 1 = true then 0 else 13) := hid (by rw [HC0.out, HZ.out]; simp)
      obtain ⟨hz1, hz2⟩ := K.asc_zero HZ.out
      have HZ1 := hid hz1
      have HZ2 := hid hz2
      clear hz1 hz2 HA HC0
      have hc0 := HX.out 0 (by omega)
      rw [Nat.add_zero] at hc0
      by_cases h1 : l.getD 0 0 = 1
      · have HC2 : Hid (K.chk l = if K.allWay l (l.length - 1) 1 = true then 0 else 13) := hid (by rw [HC1.out, if_neg (by simp; exact h1)])
        rw [h1] at hc0
        clear h1 HC1
        go_wp2
        go_loopw [4] (fun s wr => ∃ i : Nat, 1 ≤ i ∧ i ≤ l.length ∧ s = .int .i64 i ∧ K.allWay l (l.length - 1) 1 = K.allWay l (l.length - i) i ∧ Below w.heap.size w wr) (fun s _ => l.length - (intOf s).toNat)
        case atStart => exact ⟨1, Nat.le_refl _, by omega, rfl, rfl, below_drewN HB.out qq⟩
        case round =>
          obtain ⟨i, hi1, hi2, rfl, hw, hb⟩ := hrel
          have HW := hid hw
          have HBR := hid hb
          clear hw hc0
          by_cases hlt : i < l.length
          · have hci := cell_stays hb (Nat.le_refl _) (HX.out i hlt)
            have HWN : Hid (K.allWay l (l.length - 1) 1 = ((K.way (l.take i) (l.getD i 0)).isSome && K.allWay l (l.length - (i + 1)) (i + 1))) := hid (by
              rw [HW.out, show l.length - i = (l.length - (i + 1)) + 1 by omega]; rfl)
            have hmem : ∀ k, k < l.length → K.img (l.getD k 0) = true := fun k hk => by
              have e : l.getD k 0 = l[k] := by simp [List.getD, hk]
              rw [e]; exact (HZ1.out _ (List.getElem_mem hk)).1
            have htl : (l.take i).length = i := by rw [List.length_take]; omega
            have hget : ∀ k, k < i → (l.take i).getD k 0 = l.getD k 0 := fun k hk => by simp [List.getD, hk]
            have HWY := hid (fun W (hW : Hid (Below wr.heap.size wr W)) => by
              have h := refWay_any b off c (l.take i) (l.getD i 0) W (by omega) (fun k hk => by
                rw [hget k (by omega)]
                have := K.img_iff (hmem k (by omega)); omega) (fun k hk => by
                rw [hget k (by omega)]
                exact cell_stays (hb.trans (hW.out.mono hb.size)) (Nat.le_refl _) (HX.out k (by omega)))
              rw [htl] at h
              exact h.mono (R' := fun e w' => e = .returned (K.pairOf (K.way (l.take i) (l.getD i 0)) (-1)) ∧ Hid (Below wr.heap.size wr w')) (fun e w' hq => ⟨hq.1, hid (hW.out.trans (hq.2.mono hW.out.size))⟩))
            have h1 : (0 : Int) ≤ (i : Int) ∧ (i : Int) < (l.length : Int) := by omega
            have h2 : (0 : Int) ≤ (i : Int) ∧ (i : Int) ≤ (c : Int) := by omega
            have h3 : ¬ c = 0 := by omega
            clear hmem htl hget
            generalize hx0 : l.getD i 0 = x at *
            clear hx0
            have IX := fun (W : World) (p q : Int) => index0 W p q
            have HCL := hid (fun W (h : Below wr.heap.size wr W) => show W.cell? ⟨b, off + i, none⟩ = some (.int .i64 x) from cell_stays h (Nat.le_refl _) hci)
            clear hb hci
            have hd : Hid (Below wr.heap.size wr wr.drew) := hid (Below.refl _ _).drew
            have q0 := HCL.out _ hd.out
            cases hbo : K.way (l.take i) x with
            | some pq =>
              obtain ⟨p, q⟩ := pq
              rw [hbo] at HWY HWN
              unfold K.pairOf at HWY
              have HN : Hid (K.allWay l (l.length - 1) 1 = K.allWay l (l.length - (i + 1)) (i + 1)) := hid (by rw [HWN.out]; simp)
              clear hbo
              go_wp2
              go_region_held3 (fun W => W.cell? ⟨b, off + i, none⟩ = some (.int .i64 x)) (first | exact HCL.out _ (Hid.out (by assumption)) | go_keep) (first | (go_at_call 48; (with_reducible refine (HWY.out _ (by assumption)).mono ?_); rintro e w2 ⟨rfl, hb2⟩))
              all_goals (
                clear q0 HWY hd HCL
                go_wp2
                go_roundw
                case rel => exact ⟨i + 1, by omega, by omega, by go_num, HN.out, by first | exact HBR.out.trans (hb2.out.mono HBR.out.size) | exact HBR.out.trans ((hb2.out.alloc hb2.out.size _).mono HBR.out.size) | exact HBR.out.trans (((hb2.out.setCell (p := ⟨wr.heap.size, 0, none⟩) (Nat.le_refl _) _).setCell (p := ⟨wr.heap.size, 1, none⟩) (Nat.le_refl _) _).mono HBR.out.size)⟩
                case measure => simp [intOf]; omega)
            | none =>
              rw [hbo] at HWY HWN
              unfold K.pairOf at HWY
              have HR : Hid (K.chk l = 13) := hid (by rw [HC2.out, HWN.out]; simp)
              clear hbo
              go_wp2
              go_region_held3 (fun W => W.cell? ⟨b, off + i, none⟩ = some (.int .i64 x)) (first | exact HCL.out _ (Hid.out (by assumption)) | go_keep) (first | (go_at_call 48; (with_reducible refine (HWY.out _ (by assumption)).mono ?_); rintro e w2 ⟨rfl, hb2⟩))
              all_goals (
                clear q0 HWY hd HCL
                go_wp2
                go_ret
                rw [HR.out]
                exact ⟨rfl, by first | exact HBR.out.trans (hb2.out.mono HBR.out.size) | exact HBR.out.trans ((hb2.out.alloc hb2.out.size _).mono HBR.out.size) | exact HBR.out.trans (((hb2.out.setCell (p := ⟨wr.heap.size, 0, none⟩) (Nat.le_refl _) _).setCell (p := ⟨wr.heap.size, 1, none⟩) (Nat.le_refl _) _).mono HBR.out.size)⟩)
          · have hie : i = l.length := by omega
            subst hie
            have HR : Hid (K.chk l = 0) := hid (by rw [HC2.out, HW.out, Nat.sub_self]; rfl)
            clear hb
            go_wp2
            go_ret
            rw [HR.out]
            exact ⟨rfl, HBR.out⟩
      · have HR : Hid (K.chk l = 13) := hid (by rw [HC1.out, if_pos h1])
        have hne : (l.getD 0 0 != 1) = true := by rw [bne_iff_ne]; exact h1
        generalize l.getD 0 0 = z at *
        clear h1
        go_wp2
        go_ret
        rw [HR.out]
        exact ⟨rfl, below_drewN HB.out qq⟩
end Go.Proofs.Ytffcnjcglfkbnaa
