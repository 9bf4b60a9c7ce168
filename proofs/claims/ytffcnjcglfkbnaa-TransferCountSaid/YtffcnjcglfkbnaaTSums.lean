/- Package tuschelaw04: the walk of sums. -/
import Derived.Test.YtffcnjcglfkbnaaBase
import Derived.BigQuiet
import Derived.Test.YtffcnjcglfkbnaaRows
namespace Go.Proofs.Ytffcnjcglfkbnaa
open Go.RowKit


/-- Two of these numbers have this sum. -/
def K.row2 (p : List Nat) (a y : Nat) : Bool := p.any fun b => Nat.beq (a + b) y
def K.sum2 (p q : List Nat) (y : Nat) : Bool := p.any fun a => K.row2 q a y
def K.okAt (l : List Nat) (x : Nat) : Bool := K.sum2 (l.take x) (l.take x) (l.getD x 0) && (Nat.blt (l.getD (x - 1) 0) (l.getD x 0) && Nat.ble (l.getD x 0) 1000)
def K.sumsFrom (l : List Nat) : Nat → Nat → Bool
  | 0, _ => true
  | n + 1, x => K.okAt l x && K.sumsFrom l n (x + 1)
def K.sums (l : List Nat) : Bool := match l with
  | [] => false
  | a :: t => Nat.beq a 1 && K.sumsFrom (a :: t) t.length 1

theorem K.row2_take {p : List Nat} {a y k : Nat} (h : k < p.length) : K.row2 (p.take (k + 1)) a y = (K.row2 (p.take k) a y || Nat.beq (a + p.getD k 0) y) := by
  unfold K.row2
  rw [List.take_succ_eq_append_getElem h, List.any_append]
  simp [List.getD, List.getElem?_eq_getElem h]
theorem K.sum2_take {p q : List Nat} {y k : Nat} (h : k < p.length) : K.sum2 (p.take (k + 1)) q y = (K.sum2 (p.take k) q y || K.row2 q (p.getD k 0) y) := by
  unfold K.sum2
  rw [List.take_succ_eq_append_getElem h, List.any_append]
  simp [List.getD, List.getElem?_eq_getElem h]
theorem getD_take {l : List Nat} {x k : Nat} (h : k < x) : (l.take x).getD k 0 = l.getD k 0 := by
  simp [List.getD, h]

set_option maxHeartbeats 4000000 in
set_option maxRecDepth 100000 in
theorem sums_any (b off c : Nat) (l : List Nat) (w : World) (hm : l.length ≤ maxLen) (h1 : 1 ≤ l.length) (hbig : ∀ k, l.getD k 0 ≤ 1000000) (hx : ∀ k, k < l.length → w.cell? ⟨b, off + k, none⟩ = some (.int .i64 ((l.getD k 0 : Nat) : Int))) :
    Calls Try.prog 40 #[.slice (some ⟨b, off, none⟩) l.length c] w fun e w' => e = .returned (.bool (K.sums l)) ∧ ∃ n, w' = w.drewN n := by
  unfold maxLen at hm
  have HX := hid hx
  have HBIG := hid hbig
  clear hx hbig
  have hc0 := HX.out 0 h1
  rw [Nat.add_zero] at hc0
  have hl0 : ((l.length : Int) == 0) = false := by rw [beq_eq_false_iff_ne]; omega
  by_cases h0 : l.getD 0 0 = 1
  · rw [h0] at hc0
    have HS : Hid (K.sums l = K.sumsFrom l (l.length - 1) 1) := hid (by
      cases l with
      | nil => simp at h1
      | cons a t =>
        have ha : a = 1 := h0
        subst ha
        rfl)
    clear h0
    go_enter Try.func40, Try.ntmps40
    go_wp2
    go_loopw [3] (fun s wr => ∃ x : Nat, 1 ≤ x ∧ x ≤ l.length ∧ s = .int .i64 x ∧ K.sums l = K.sumsFrom l (l.length - x) x ∧ ∃ q, wr = w.drewN q) (fun s _ => l.length - (intOf s).toNat)
    case atStart => exact ⟨1, Nat.le_refl _, h1, rfl, HS.out, 0, rfl⟩
    case round =>
      clear HS hc0
      obtain ⟨x, hx1, hx2, rfl, hs, q0, rfl⟩ := hrel
      have HS := hid hs
      clear hs
      by_cases hlt : x < l.length
      · have hcx := HX.out x hlt
        have HOK : Hid (K.sums l = (K.okAt l x && K.sumsFrom l (l.length - (x + 1)) (x + 1))) := hid (by
          rw [HS.out, show l.length - x = (l.length - (x + 1)) + 1 by omega]; rfl)
        have hyb := HBIG.out x
        generalize hy : l.getD x 0 = y at hcx hyb
        have HY := hid hy
        clear hy HS
        have htl : (l.take x).length = x := by rw [List.length_take]; omega
        have HTL := hid htl
        clear htl
        go_wp2
        go_loopw [4, 5] (fun s4 s5 wr => ∃ i : Nat, i ≤ x ∧ s5 = .int .i64 i ∧ s4 = .bool (K.sum2 ((l.take x).take i) (l.take x) y) ∧ ∃ q, wr = w.drewN q) (fun _ s _ => x - (intOf s).toNat)
        case atStart => exact ⟨0, Nat.zero_le _, rfl, rfl, _, rfl⟩
        case round =>
          obtain ⟨i, hi, rfl, rfl, q1, rfl⟩ := hrel
          by_cases hix : i < x
          · have hci := HX.out i (by omega)
            have hab := HBIG.out i
            have HST := hid (K.sum2_take (p := l.take x) (q := l.take x) (y := y) (k := i) (by rw [HTL.out]; exact hix))
            rw [getD_take hix] at HST
            generalize l.getD i 0 = a at hci hab HST
            generalize K.sum2 ((l.take x).take i) (l.take x) y = s at HST ⊢
            go_wp2
            go_loopw [4, 6] (fun s4 s6 wr => ∃ k : Nat, k ≤ x ∧ s6 = .int .i64 k ∧ s4 = .bool (s || K.row2 ((l.take x).take k) a y) ∧ ∃ q, wr = w.drewN q) (fun _ s _ => x - (intOf s).toNat)
            case atStart => exact ⟨0, Nat.zero_le _, rfl, by simp [K.row2], _, rfl⟩
            case round =>
              obtain ⟨k, hk, rfl, rfl, q2, rfl⟩ := hrel
              by_cases hkx : k < x
              · have hck := HX.out k (by omega)
                have hkb := HBIG.out k
                have HRT := hid (K.row2_take (p := l.take x) (a := a) (y := y) (k := k) (by rw [HTL.out]; exact hkx))
                rw [getD_take hkx] at HRT
                generalize l.getD k 0 = d at hck hkb HRT
                generalize hr : (s || K.row2 ((l.take x).take k) a y) = r
                have HR := hid hr
                clear hr
                have hi1 : (0 : Int) ≤ (i : Int) ∧ (i : Int) < (l.length : Int) := by omega
                have hk1 : (0 : Int) ≤ (k : Int) ∧ (k : Int) < (l.length : Int) := by omega
                have hxx : (0 : Int) ≤ (x : Int) ∧ (x : Int) < (l.length : Int) := by omega
                have hdec : (((a : Int) + (d : Int)) == (y : Int)) = Nat.beq (a + d) y := by
                  cases hq : Nat.beq (a + d) y with
                  | true => have := Nat.eq_of_beq_eq_true hq; simp; omega
                  | false => have := Nat.ne_of_beq_eq_false hq; simp; omega
                have HE : Hid ((s || K.row2 ((l.take x).take (k + 1)) a y) = (r || Nat.beq (a + d) y)) := hid (by rw [HRT.out, ← HR.out, Bool.or_assoc])
                generalize Nat.beq (a + d) y = t at hdec HE
                cases r with
                | true =>
                  go_wp2
                  go_quiet (fail)
                  go_wp2
                  go_roundw
                  case rel => exact ⟨k + 1, by omega, by go_num, by rw [HE.out]; rfl, _, rfl⟩
                  case measure => simp [intOf]; omega
                | false =>
                  go_wp2
                  go_quiet (fail)
                  go_wp2
                  go_roundw
                  case rel => exact ⟨k + 1, by omega, by go_num, by rw [HE.out]; simp, _, rfl⟩
                  case measure => simp [intOf]; omega
              · have hke : k = x := by omega
                subst hke
                go_wp2
                go_roundw
                case rel => exact ⟨i + 1, by omega, by go_num, by rw [HST.out, List.take_of_length_le (by rw [HTL.out]; exact Nat.le_refl _)], _, rfl⟩
                case measure => simp [intOf]; omega
          · have hie : i = x := by omega
            subst hie
            have HT2 : Hid ((l.take i).take i = l.take i) := hid (List.take_of_length_le (by rw [HTL.out]; exact Nat.le_refl _))
            rw [HT2.out]
            have hcp := HX.out (i - 1) (by omega)
            have hpb := HBIG.out (i - 1)
            have HOK2 : Hid (K.okAt l i = (K.sum2 (l.take i) (l.take i) y && (Nat.blt (l.getD (i - 1) 0) y && Nat.ble y 1000))) := hid (by unfold K.okAt; rw [HY.out])
            generalize l.getD (i - 1) 0 = p at hcp hpb HOK2
            generalize K.sum2 (l.take i) (l.take i) y = s at HOK2 ⊢
            have hsub : (i : Int) - 1 = ((i - 1 : Nat) : Int) := by omega
            have hi1 : (0 : Int) ≤ ((i - 1 : Nat) : Int) ∧ ((i - 1 : Nat) : Int) < (l.length : Int) := by omega
            have hxx : (0 : Int) ≤ (i : Int) ∧ (i : Int) < (l.length : Int) := by omega
            cases s with
            | false =>
              have HF : Hid (K.sums l = false) := hid (by rw [HOK.out, HOK2.out]; simp)
              go_wp2
              go_quiet (fail)
              go_wp2
              go_ret
              exact ⟨ret_bool HF.out.symm, _, World.drewN_drewN _ _ _⟩
            | true =>
              by_cases hyp : y ≤ p
              · have HF : Hid (K.sums l = false) := hid (by
                  rw [HOK.out, HOK2.out, show Nat.blt p y = false by rw [Bool.eq_false_iff]; intro h; rw [Nat.blt_eq] at h; omega]; simp)
                have hd : ((y : Int) ≤ (p : Int)) := by omega
                go_wp2
                go_quiet (fail)
                go_wp2
                go_ret
                exact ⟨ret_bool HF.out.symm, _, World.drewN_drewN _ _ _⟩
              · have hb1 : Nat.blt p y = true := by rw [Nat.blt_eq]; omega
                have hd : ¬ ((y : Int) ≤ (p : Int)) := by omega
                by_cases hyk : 1000 < y
                · have HF : Hid (K.sums l = false) := hid (by
                    rw [HOK.out, HOK2.out, show Nat.ble y 1000 = false by rw [Bool.eq_false_iff]; intro h; have := Nat.le_of_ble_eq_true h; omega]; simp)
                  have hd2 : ((1000 : Int) < (y : Int)) := by omega
                  go_wp2
                  go_quiet (fail)
                  go_wp2
                  go_ret
                  exact ⟨ret_bool HF.out.symm, _, World.drewN_drewN _ _ _⟩
                · have HN : Hid (K.sums l = K.sumsFrom l (l.length - (i + 1)) (i + 1)) := hid (by
                    rw [HOK.out, HOK2.out, hb1, Nat.ble_eq_true_of_le (show y ≤ 1000 by omega)]; simp)
                  have hd2 : ¬ ((1000 : Int) < (y : Int)) := by omega
                  clear hb1
                  go_wp2
                  go_quiet (fail)
                  go_wp2
                  go_roundw
                  case rel => exact ⟨i + 1, by omega, by omega, by go_num, HN.out, _, rfl⟩
                  case measure => simp [intOf]; omega
      · have hxe : x = l.length := by omega
        have HT : Hid (K.sums l = true) := hid (by rw [HS.out, hxe, Nat.sub_self]; rfl)
        go_wp2
        go_ret
        exact ⟨ret_bool HT.out.symm, _, rfl⟩
  · have HF : Hid (K.sums l = false) := hid (by
      cases l with
      | nil => simp at h1
      | cons a t =>
        have ha : a ≠ 1 := h0
        show (Nat.beq a 1 && _) = false
        cases hb : Nat.beq a 1 with
        | true => exact absurd (Nat.eq_of_beq_eq_true hb) ha
        | false => rfl)
    have hd : ((((l.getD 0 0 : Nat) : Int) != 1)) = true := by
      rw [bne_iff_ne]; omega
    generalize l.getD 0 0 = z at *
    go_enter Try.func40, Try.ntmps40
    go_wp2
    go_ret
    exact ⟨ret_bool HF.out.symm, 0, rfl⟩
end Go.Proofs.Ytffcnjcglfkbnaa
