/- The walk of the document's own Check. -/
import Derived.Test.YtafpfcjemlonpaaChk
import Derived.Test.YtafpfcjemlonpaaRefText
import Derived.Test.YtafpfcjemlonpaaCmp
namespace Go.Proofs.Ytafpfcjemlonpaa
open Go.RowKit

/-- One of the first b numbers of row s is the one at a, or the same in column s. -/
def P.badB (T : List (List Int)) (s a b : Nat) : Bool := (List.range b).any fun j => P.at T s j == P.at T s a || P.at T j s == P.at T a s

theorem P.badB_succ (T : List (List Int)) (s a b : Nat) : P.badB T s a (b + 1) = (P.badB T s a b || (P.at T s b == P.at T s a || P.at T b s == P.at T a s)) := by
  unfold P.badB
  rw [List.range_succ, List.any_append]
  simp

theorem P.bad_of {T : List (List Int)} {s a b : Nat} (hb : b < a) (h : P.at T s a = P.at T s b ∨ P.at T a s = P.at T b s) : P.bad T s a = true := by
  unfold P.bad
  rw [List.any_eq_true]
  refine ⟨b, List.mem_range.2 hb, ?_⟩
  simp only [Bool.or_eq_true, beq_iff_eq]
  rcases h with h | h
  · exact Or.inl h.symm
  · exact Or.inr h.symm

set_option maxHeartbeats 4000000 in
set_option maxRecDepth 100000 in
/-- The last part: all rows are as long as there are rows, and their numbers are digits. -/
theorem refCheck_any (a : Option Addr) (c : Nat) (T : List (List Int)) (w : World) (hT : RdM w a T) :
    Calls Try.prog 30 #[.slice a T.length c] w fun e w' => e = .returned (.int .i64 (P.check T)) ∧ Below w.heap.size w w' := by
  by_cases h2' : ¬ (2 ≤ T.length ∧ T.length ≤ 10)
  · have HI := hid (is_no (n := (T.length : Int)) (lo := 2) (hi := 10) (by omega) w)
    have HR := hid (P.check_size (T := T) (by omega))
    clear hT h2'
    go_enter Try.func30, Try.ntmps30
    go_wp2_with (go_at_call 57; refine HI.out.mono ?_; rintro e w' ⟨rfl, rfl⟩)
    go_ret
    exact ⟨ret_int HR.out.symm, Below.refl _ _⟩
  have h2 : 2 ≤ T.length ∧ T.length ≤ 10 := by omega
  clear h2'
  have HI := hid (is_yes (n := (T.length : Int)) (lo := 2) (hi := 10) (by omega) w)
  have HNO : Hid (¬ (T.length < 2 ∨ 10 < T.length)) := hid (by omega)
  have HT := hid hT; clear hT
  go_enter Try.func30, Try.ntmps30
  go_wp2_with (go_at_call 57; refine HI.out.mono ?_; rintro e w' ⟨rfl, rfl⟩)
  go_loop [3] (fun i => ∃ k : Nat, k ≤ T.length ∧ i = .int .i64 k ∧ ∀ j (hj : j < T.length), j < k → T[j].length = T.length) (fun i => T.length - (intOf i).toNat)
  case atStart => exact ⟨0, Nat.zero_le _, rfl, fun j _ hj => absurd hj (Nat.not_lt_zero _)⟩
  case round =>
    obtain ⟨k, hk, rfl, hl⟩ := hrel
    have HL := hid hl; clear hl
    by_cases hlt : k < T.length
    · obtain ⟨b, off, r, c', rfl, hc, _⟩ := HT.out k hlt
      have hcl := P.check_len k hlt
      have hix : (0 : Int) ≤ (k : Int) ∧ (k : Int) < (T.length : Int) := by omega
      by_cases he : T[k].length = T.length
      · rw [he] at hc
        have HE := hid he; clear he hcl
        have ht : ((T.length : Int) != (T.length : Int)) = false := by simp
        go_wp2
        go_round
        case rel => exact ⟨k + 1, by omega, by go_num, fun j hj hjk => by
          by_cases e : j = k
          · subst e; exact HE.out
          · exact HL.out j hj (by omega)⟩
        case measure => simp [intOf]; omega
      · have HC := hid (hcl he)
        clear hcl
        generalize T[k].length = L at *
        have ht : ((L : Int) != (T.length : Int)) = true := by simp; omega
        clear he
        go_wp2
        go_ret
        exact ⟨ret_int HC.out.symm, Below.refl _ _⟩
    · have HL2 : Hid (∀ j (hj : j < T.length), T[j].length = T.length) := hid (fun j hj => HL.out j hj (by omega))
      clear HL
      go_wp2
      go_loop [4] (fun i => ∃ k : Nat, k ≤ T.length ∧ i = .int .i64 k ∧ ∀ j (hj : j < T.length), j < k → P.outside T[j] T.length = false) (fun i => T.length - (intOf i).toNat)
      case atStart => exact ⟨0, Nat.zero_le _, rfl, fun j _ hj => absurd hj (Nat.not_lt_zero _)⟩
      case round =>
        obtain ⟨k, hk, rfl, ho⟩ := hrel
        have HO := hid ho; clear ho
        by_cases hlt : k < T.length
        · obtain ⟨b, off, r, c', rfl, hc, hr⟩ := HT.out k hlt
          have hlen := HL2.out k hlt
          rw [hlen] at hc
          have hix : (0 : Int) ≤ (k : Int) ∧ (k : Int) < (T.length : Int) := by omega
          have HCO := hid (P.check_out HNO.out HL2.out k hlt)
          have HRR := hid hr
          clear hr
          go_wp2
          go_loop [5] (fun i => ∃ d : Nat, d ≤ T.length ∧ i = .int .i64 d ∧ P.outside (T[k].take d) T.length = false) (fun i => T.length - (intOf i).toNat)
          case atStart => exact ⟨0, Nat.zero_le _, rfl, rfl⟩
          case round =>
            obtain ⟨d, hd, rfl, hod⟩ := hrel
            have HOD := hid hod; clear hod
            by_cases hdl : d < T.length
            · have hdk : d < T[k].length := by omega
              obtain ⟨b', off', rfl, hcd⟩ := HRR.out d hdk
              have hs := P.outside_take_succ T[k] (T.length : Int) d hdk
              have ha := P.outside_of_at T[k] (T.length : Int) d hdk
              have hix2 : (0 : Int) ≤ (d : Int) ∧ (d : Int) < (T.length : Int) := by omega
              generalize T[k][d] = x at *
              by_cases hx : 0 ≤ x ∧ x ≤ (T.length : Int) - 1
              · have HI2 := hid (is_yes hx w)
                have HS : Hid (P.outside (T[k].take (d + 1)) T.length = false) := hid (by
                  rw [hs, HOD.out, decide_eq_false (show ¬ x < 0 by omega), decide_eq_false (show ¬ (T.length : Int) ≤ x by omega)]; rfl)
                clear hs ha hx hlen hdk
                go_wp2_with (go_at_call 57; refine HI2.out.mono ?_; rintro e w' ⟨rfl, rfl⟩)
                go_round
                case rel => exact ⟨d + 1, by omega, by go_num, HS.out⟩
                case measure => simp [intOf]; omega
              · have HI2 := hid (is_no hx w)
                have HF := hid (HCO.out (ha (by omega)))
                clear hs ha hx hlen hdk
                go_wp2_with (go_at_call 57; refine HI2.out.mono ?_; rintro e w' ⟨rfl, rfl⟩)
                go_ret
                exact ⟨ret_int HF.out.symm, Below.refl _ _⟩
            · have hdn : d = T.length := by omega
              have HF : Hid (P.outside T[k] T.length = false) := hid (by
                have := HOD.out
                rwa [hdn, ← hlen, List.take_length, hlen] at this)
              clear HOD hlen
              go_wp2
              go_round
              case rel => exact ⟨k + 1, by omega, by go_num, fun j hj hjk => by
                by_cases e : j = k
                · subst e; exact HF.out
                · exact HO.out j hj (by omega)⟩
              case measure => simp [intOf]; omega
        · have HO2 : Hid (∀ j (hj : j < T.length), P.outside T[j] T.length = false) := hid (fun j hj => HO.out j hj (by omega))
          have HQ := hid (P.sq_of HL2.out HO2.out)
          have HLA := hid (P.check_last HNO.out HL2.out HO2.out)
          clear HO
          go_wp2
          go_loopw [6] (fun i wr => ∃ s : Nat, s ≤ T.length ∧ i = .int .i64 s ∧ Quiet w wr ∧ ∀ j, j < s → P.good T j T.length) (fun i _ => T.length - (intOf i).toNat)
          case atStart => exact ⟨0, Nat.zero_le _, rfl, ⟨0, rfl⟩, fun j hj => absurd hj (Nat.not_lt_zero _)⟩
          case round =>
            obtain ⟨s, hs, rfl, hq1, hg1⟩ := hrel
            have Q1 := hid hq1
            have G1 := hid hg1
            clear hq1 hg1
            by_cases hsl : s < T.length
            · go_wp2
              obtain ⟨wo, rfl⟩ : ∃ wo : World, wo = wr := ⟨_, rfl⟩
              go_loopw [7] (fun i wr => ∃ k : Nat, k ≤ T.length ∧ i = .int .i64 k ∧ Quiet w wr ∧ P.good T s k) (fun i _ => T.length - (intOf i).toNat)
              case atStart => exact ⟨0, Nat.zero_le _, rfl, Q1.out, fun j hj => absurd hj (Nat.not_lt_zero _)⟩
              case round =>
                obtain ⟨k, hk2, rfl, hq2, hg2⟩ := hrel
                have Q2 := hid hq2
                have G2 := hid hg2
                clear hq2 hg2
                by_cases hkl : k < T.length
                · go_wp2
                  obtain ⟨wp, rfl⟩ : ∃ wp : World, wp = wr := ⟨_, rfl⟩
                  go_loopw [8] (fun i wr => ∃ d : Nat, d ≤ k ∧ i = .int .i64 d ∧ Quiet w wr ∧ P.badB T s k d = false) (fun i _ => T.length - (intOf i).toNat)
                  case atStart => exact ⟨0, Nat.zero_le _, rfl, Q2.out, rfl⟩
                  case round =>
                    obtain ⟨d, hd, rfl, hq3, hg3⟩ := hrel
                    have Q3 := hid hq3
                    have G3 := hid hg3
                    have hT3 := HT.out.stays hq3.below
                    clear hq3 hg3
                    by_cases hdl : d < k
                    · obtain ⟨b0, o0, b1, o1, c1, rfl, r1, k1⟩ := hT3.row HQ.out hsl
                      obtain ⟨b0', o0', b2, o2, c2, he, r2, k2⟩ := hT3.row HQ.out hkl
                      simp only [Option.some.injEq, Addr.mk.injEq, and_true] at he
                      obtain ⟨rfl, rfl⟩ := he
                      obtain ⟨b0', o0', b3, o3, c3, he, r3, k3⟩ := hT3.row HQ.out (show d < T.length by omega)
                      simp only [Option.some.injEq, Addr.mk.injEq, and_true] at he
                      obtain ⟨rfl, rfl⟩ := he
                      have x1 := k1 k hkl
                      have x2 := k1 d (by omega)
                      have x3 := k2 s hsl
                      have x4 := k3 s hsl
                      clear k1 k2 k3 hT3
                      have hbs := P.badB_succ T s k d
                      have hbt := fun h => P.repeats_true hsl hkl (@P.bad_of T s k d hdl h)
                      have i1 : (0 : Int) ≤ (s : Int) ∧ (s : Int) < (T.length : Int) := by omega
                      have i2 : (0 : Int) ≤ (k : Int) ∧ (k : Int) < (T.length : Int) := by omega
                      have i3 : (0 : Int) ≤ (d : Int) ∧ (d : Int) < (T.length : Int) := by omega
                      generalize P.at T s k = x at *
                      generalize P.at T s d = y at *
                      generalize P.at T k s = x' at *
                      generalize P.at T d s = y' at *
                      have HBS := hid hbs
                      have HBT := hid hbt
                      clear hbs hbt
                      by_cases e1 : x = y
                      · have t1 : ((x : Int) == (y : Int)) = true := by rw [beq_iff_eq]; omega
                        have HF : Hid (P.check T = 6) := hid (by rw [HLA.out, if_pos (HBT.out (Or.inl e1))])
                        clear e1 HBT
                        go_wp2
                        go_quiet (fail)
                        go_wp2
                        go_ret
                        exact ⟨ret_int HF.out.symm, (Q3.out.drewN _).below⟩
                      · have t1 : ((x : Int) == (y : Int)) = false := by rw [beq_eq_false_iff_ne]; omega
                        by_cases e2 : x' = y'
                        · have t2 : ((x' : Int) == (y' : Int)) = true := by rw [beq_iff_eq]; omega
                          have HF : Hid (P.check T = 6) := hid (by rw [HLA.out, if_pos (HBT.out (Or.inr e2))])
                          clear e1 e2 HBT
                          go_wp2
                          go_quiet (fail)
                          go_wp2
                          go_ret
                          exact ⟨ret_int HF.out.symm, (Q3.out.drewN _).below⟩
                        · have t2 : ((x' : Int) == (y' : Int)) = false := by rw [beq_eq_false_iff_ne]; omega
                          have HF : Hid (P.badB T s k (d + 1) = false) := hid (by
                            rw [HBS.out, G3.out, beq_eq_false_iff_ne.2 (Ne.symm e1), beq_eq_false_iff_ne.2 (Ne.symm e2)]; rfl)
                          clear e1 e2 HBT
                          go_wp2
                          go_quiet (fail)
                          go_wp2
                          go_roundw
                          case rel => exact ⟨d + 1, by omega, by go_num, Q3.out.drewN _, HF.out⟩
                          case measure => simp [intOf]; omega
                    · have hdk : d = k := by omega
                      subst hdk
                      clear hT3
                      go_wp2
                      go_roundw
                      case rel => exact ⟨d + 1, by omega, by go_num, Q3.out, P.good_succ G2.out G3.out⟩
                      case measure => simp [intOf]; omega
                · have hkn : k = T.length := by omega
                  subst hkn
                  go_wp2
                  go_roundw
                  case rel => exact ⟨s + 1, by omega, by go_num, Q2.out, fun j hj => by
                    by_cases e : j = s
                    · subst e; exact G2.out
                    · exact G1.out j (by omega)⟩
                  case measure => simp [intOf]; omega
            · have HF : Hid (P.check T = 0) := hid (by
                rw [HLA.out, if_neg]
                rw [P.repeats_false (fun i hi => G1.out i (by omega))]
                simp)
              go_wp2
              go_ret
              exact ⟨ret_int HF.out.symm, Q1.out.below⟩

end Go.Proofs.Ytafpfcjemlonpaa
