/- The walk of RepeatAll. -/
import Derived.Test.YtiodcgdjphmffaaBAllQ
import Derived.Test.YtiodcgdjphmffaaBWid2
import Derived.Test.YtiodcgdjphmffaaBWorks
namespace Go.Proofs.Ytiodcgdjphmffaa
open Go.RowKit

theorem B.size_byt (N : List Nat) : (B.str (B.byt N)).size = N.length := by rw [B.str_size, B.byt_len]
theorem B.asc_byt {N : List Nat} (hN : ∀ x ∈ N, x < 24) (i : Nat) (h : i < (B.str (B.byt N)).size) : ((B.str (B.byt N))[i]'h).toNat < 128 := by
  have hi : i < N.length := by rw [B.size_byt] at h; exact h
  have hc := hN _ (List.getElem_mem hi)
  have e : (B.str (B.byt N))[i]'h = (B.byt N)[i]'(by rw [B.byt_len]; exact hi) := rfl
  rw [e]
  simp only [B.byt, List.getElem_map, UInt8.toNat_ofNat']
  omega
theorem B.kinds_of {N : List Nat} (hN : ∀ x ∈ N, x < 24) (hl : N.length ≤ 24) (w : World) :
    Calls Try.prog 40 #[.string (B.str (B.byt N))] w fun e w' => e = .returned (.int .i64 (B.kdN N [] : Nat)) ∧ Below w.heap.size w w' := by
  have h := kinds_any (B.str (B.byt N)) w (by rw [B.size_byt]; omega) (B.asc_byt hN)
  rwa [B.str_data, B.size_byt, B.kd_eq N (fun x hx => by have := hN x hx; omega)] at h
theorem B.goes_of {N : List Nat} (hN : ∀ x ∈ N, x < 24) (k : Nat) (h1 : 1 ≤ k) (h2 : k ≤ N.length) (hl : N.length ≤ 24) (w : World) :
    Calls Try.prog 38 #[.string (B.str (B.byt N)), .int .i64 k] w fun e w' => e = .returned (.bool (B.per (B.byt N) k)) ∧ Below w.heap.size w w' := by
  have h := goes_any (B.str (B.byt N)) k w (by rw [B.size_byt]; omega) (by omega) (B.asc_byt hN)
  rwa [B.str_data, B.goes_in h1 (by rw [B.byt_len]; exact h2)] at h

set_option maxHeartbeats 8000000 in
set_option maxRecDepth 100000 in
theorem repeatAll_any (f : Nat → Nat) (w : World) (hm : MaxL w) (hf : ∀ k, f k < 256) :
    Calls Try.prog 8 #[arr8 f 3] w fun e w' => e = .returned (.bool true) ∧ Below w.heap.size w w' := by
  unfold arr8
  have hb1 := (Below.refl w.heap.size w).alloc (Nat.le_refl _) (.cells (cells8 f 3).toArray 44)
  have hx1 := box8 f 3 44 w
  generalize hw1 : w.alloc (.cells (cells8 f 3).toArray 44) = w2 at *
  have HB2 := hid hb1
  have HM := hid hm
  have k0 := hx1 0 (by omega)
  have k1 := hx1 1 (by omega)
  have k2 := hx1 2 (by omega)
  clear hb1 hx1 hm
  obtain ⟨n, hn⟩ : ∃ n : Nat, n = 1 + f 0 % 8 := ⟨_, rfl⟩
  obtain ⟨p, hp⟩ : ∃ p : Nat, p = 1 + f 1 % n := ⟨_, rfl⟩
  obtain ⟨q, hq⟩ : ∃ q : Nat, q = 1 + f 2 % n := ⟨_, rfl⟩
  have hn0 : (1 : Int) + (((f 0 : Nat) : Int) % 8) = (n : Int) := by omega
  have hn1 : 1 ≤ n ∧ n ≤ 8 := by omega
  have hr1 : ((f 1 : Nat) : Int).tmod (n : Int) = ((f 1 % n : Nat) : Int) := by rw [Int.tmod_eq_emod_of_nonneg (by omega)]; push_cast; rfl
  have hr2 : ((f 2 : Nat) : Int).tmod (n : Int) = ((f 2 % n : Nat) : Int) := by rw [Int.tmod_eq_emod_of_nonneg (by omega)]; push_cast; rfl
  have hpm := Nat.mod_lt (f 1) (show 0 < n by omega)
  have hqm := Nat.mod_lt (f 2) (show 0 < n by omega)
  have hp0 : (1 : Int) + ((f 1 : Nat) : Int) % (n : Int) = (p : Int) := by rw [hp]; push_cast; rfl
  have hq0 : (1 : Int) + ((f 2 : Nat) : Int) % (n : Int) = (q : Int) := by rw [hq]; push_cast; rfl
  have hp1 : 1 ≤ p ∧ p ≤ n := by omega
  have hq1 : 1 ≤ q ∧ q ≤ n := by omega
  have hw0 : IntKind.i64.wrap ((f 0 : Nat) : Int) = (f 0 : Int) := IntWalk.i64_in _ (by have := hf 0; omega)
  have hwp : IntKind.i64.wrap ((f 1 : Nat) : Int) = (f 1 : Int) := IntWalk.i64_in _ (by have := hf 1; omega)
  have hwq : IntKind.i64.wrap ((f 2 : Nat) : Int) = (f 2 : Int) := IntWalk.i64_in _ (by have := hf 2; omega)
  have hne : ¬ (n : Int) = 0 := by omega
  have hne2 : ¬ n = 0 := by omega
  have hpos : (0 : Int) < (n : Int) := by omega
  have HFI := hid (B.fine_all (n := n) ⟨hn1.1, by omega⟩ hp1 hq1)
  have HKW := hid (B.widk_at hn1 hp1 hq1)
  generalize B.widN n p q = N at *
  have hlen := HFI.out.len
  have hsz : (B.str (B.byt N)).size = n := by rw [B.size_byt, hlen]
  have KC := hid (fun w => common_any p q w (by omega) (by omega))
  have KWD : Hid (∀ w, Calls Try.prog 25 #[.int .i64 p, .int .i64 q, .int .i64 n] w fun e w' => e = .returned (.tuple #[.string (B.str (B.byt N)), .int .i64 0]) ∧ Below w.heap.size w w') := hid (fun w => by
    rw [HFI.out.row]; exact wide_good p q n w hn1.1 (by omega) hp1 hq1)
  have hg1 : 1 ≤ Nat.gcd p q ∧ Nat.gcd p q ≤ n := ⟨Nat.gcd_pos_of_pos_left q (by omega), Nat.le_trans (Nat.gcd_le_left q (by omega)) hp1.2⟩
  have HALL := hid (fun x (hx : x < 3 ^ n) => B.all_at hn1 hx hp1 hq1)
  have KKW := hid (fun w => B.kinds_of (N := N) HFI.out.lt (by omega) w)
  rw [HKW.out] at KKW
  generalize Nat.gcd p q = g at *
  generalize hF : max g (p + q - n) = F at *
  have hF8 : F ≤ 16 := by omega
  clear hlen hn hp hq HKW HFI hF
  generalize B.str (B.byt N) = s at *
  have e1 : ((n : Int) != (n : Int)) = false := by simp
  go_enter Try.func8, Try.ntmps8
  go_wp2_with fail
  go_quiet (fail)
  clear k0 k1 k2 hw1 hr1 hr2 hpm hqm hp0 hq0 hn0 hw0 hwp hwq hne hne2 hpos
  go_wp2_with fail
  refine (KC.out _).mono ?_
  rintro e w3 ⟨rfl, b3⟩
  have H0 := below_drewN (Below.refl w2.heap.size w2) nq
  have H3 := hid (H0.trans (b3.mono H0.size))
  clear b3 H0 KC
  go_wp2_with fail
  refine (KWD.out _).mono ?_
  rintro e w4 ⟨rfl, b4⟩
  have H4 := hid (H3.out.trans (b4.mono H3.out.size))
  clear b4 KWD H3
  go_wp2_with fail
  refine (KKW.out _).mono ?_
  rintro e w5 ⟨rfl, b5⟩
  have H5 := hid (H4.out.trans (b5.mono H4.out.size))
  clear b5 KKW H4
  go_wp2_with fail
  go_loop [11, 54] (fun y x => ∃ i c : Nat, i ≤ n ∧ x = .int .i64 i ∧ y = .int .i64 c ∧ Hid (c = 3 ^ i)) (fun _ x => n - (intOf x).toNat)
  case atStart => exact ⟨0, 1, Nat.zero_le _, rfl, rfl, hid rfl⟩
  case round =>
    obtain ⟨i, c, hi, rfl, rfl, HC⟩ := hrel
    have hc8 : c ≤ 6561 := by
      rw [HC.out]
      exact Nat.le_trans (Nat.pow_le_pow_right (by decide) (show i ≤ 8 by omega)) (by decide)
    by_cases hlt : i < n
    · have HC2 : Hid (c * 3 = 3 ^ (i + 1)) := hid (by rw [HC.out, Nat.pow_succ])
      go_wp2
      go_round
      case rel => exact ⟨i + 1, c * 3, by omega, by go_num, by go_num, HC2⟩
      case measure => simp [intOf]; omega
    · have hin : i = n := by omega
      subst hin
      have HN8 := hid hn1
      go_wp2_with fail
      go_loopw [12] (fun y wr => ∃ x : Nat, x ≤ c ∧ y = .int .i64 x ∧ Below w5.heap.size w5 wr) (fun y _ => c - (intOf y).toNat)
      case atStart => exact ⟨0, Nat.zero_le _, rfl, Below.refl _ _⟩
      case round =>
        obtain ⟨x, hx, rfl, hbel⟩ := hrel
        have HB := hid hbel
        clear hbel
        by_cases hlt2 : x < c
        · have HAX := HALL.out x (by rw [← HC.out]; exact hlt2)
          have hDl := B.digs_len i x
          have hDlt : ∀ y ∈ B.digs i x, y < 24 := fun y hy => by have := B.digs_lt i x y hy; omega
          obtain ⟨D, hD⟩ : ∃ D, D = B.digs i x := ⟨_, rfl⟩
          rw [← hD] at HAX hDl hDlt
          have HAX := hid HAX
          have HDL := hid hDl
          have HDLT := hid hDlt
          have HDD := hid hD
          clear hDl hDlt hD
          generalize wr = wq at *
          go_wp2_with fail
          go_loopg [13, 14] i (fun gg a b wr => ∃ (T : List Nat) (y : Nat), T.length ≤ i ∧ gg = i - T.length ∧ a = .string (B.str (B.byt T)) ∧ b = .int .i64 y ∧ y ≤ 6561 ∧ Hid (D = T ++ B.digs (i - T.length) y) ∧ wr = wq)
          case atStart => exact ⟨[], x, Nat.zero_le _, rfl, rfl, rfl, by omega, HDD, rfl⟩
          case round =>
            obtain ⟨T, y, hT, rfl, rfl, rfl, hy, HD, hwq⟩ := hrel
            subst hwq
            have hsz := B.size_byt T
            by_cases hlt3 : T.length < i
            · have HD2 : Hid (D = (T ++ [y % 3]) ++ B.digs (i - (T ++ [y % 3]).length) (y / 3)) := hid (by
                have h := HD.out
                rw [show i - T.length = (i - (T ++ [y % 3]).length) + 1 by rw [List.length_append, List.length_singleton]; omega, B.digs] at h
                rw [h]; simp)
              have HSB : Hid (∀ r : Nat, B.str (B.byt (T ++ [r])) = B.str (B.byt T) ++ ⟨#[UInt8.ofNat (97 + r)]⟩) := hid (fun r => B.ext (by
                rw [B.append_data, B.str_data, B.str_data, B.byt_append]; rfl))
              have hnc : ¬ (9223372036854775807 < (B.str (B.byt T)).size + 1) := by rw [hsz]; omega
              have hr3 : y % 3 = 0 ∨ y % 3 = 1 ∨ y % 3 = 2 := by omega
              rcases hr3 with hr | hr | hr
              all_goals
                have hri : ((y : Nat) : Int) % 3 = ((y % 3 : Nat) : Int) := by push_cast; rfl
                rw [hr] at HD2 hri
                go_wp2
                go_roundg (i - (T.length + 1))
                case measure => omega
                case rel =>
                  refine ⟨T ++ [_], y / 3, ?_, ?_, ?_, by go_num, by omega, HD2, rfl⟩
                  · rw [List.length_append, List.length_singleton]; omega
                  · rw [List.length_append, List.length_singleton]
                  · rw [HSB.out]; rfl
            · have hTi : T.length = i := by omega
              have hDT : D = T := by
                have h := HD.out
                rw [hTi, Nat.sub_self, B.digs, List.append_nil] at h
                exact h
              subst hDT
              have KG : Hid (∀ k w, 1 ≤ k → k ≤ i → Calls Try.prog 38 #[.string (B.str (B.byt D)), .int .i64 k] w fun e w' => e = .returned (.bool (B.per (B.byt D) k)) ∧ Below w.heap.size w w') := hid (fun k w h1 h2 => B.goes_of HDLT.out k h1 (by omega) (by omega) w)
              have KK := hid (fun w => B.kinds_of (N := D) HDLT.out (by omega) w)
              have KGp := hid (fun w => KG.out p w hp1.1 hp1.2)
              have KGq := hid (fun w => KG.out q w hq1.1 hq1.2)
              have KGg := hid (fun w => KG.out g w hg1.1 hg1.2)
              clear KG HD HDD hT hTi
              cases hpp : B.per (B.byt D) p with
              | false =>
                rw [hpp] at KGp
                go_wp2_with fail
                refine (KGp.out _).mono ?_
                rintro e w6 ⟨rfl, b6⟩
                have H6 := hid (HB.out.trans (b6.mono HB.out.size))
                clear b6
                go_wp2
                go_roundw
                case rel => exact ⟨x + 1, by omega, by go_num, H6.out⟩
                case measure => simp [intOf]; omega
              | true =>
                rw [hpp] at KGp
                cases hqq : B.per (B.byt D) q with
                | false =>
                  rw [hqq] at KGq
                  go_wp2_with fail
                  refine (KGp.out _).mono ?_
                  rintro e w6 ⟨rfl, b6⟩
                  have H6 := hid (HB.out.trans (b6.mono HB.out.size))
                  clear b6
                  go_wp2_with fail
                  refine (KGq.out _).mono ?_
                  rintro e w7 ⟨rfl, b7⟩
                  have H7 := hid (H6.out.trans (b7.mono H6.out.size))
                  clear b7
                  go_wp2
                  go_roundw
                  case rel => exact ⟨x + 1, by omega, by go_num, H7.out⟩
                  case measure => simp [intOf]; omega
                | true =>
                  rw [hqq] at KGq
                  obtain ⟨hgg, hkd⟩ := HAX.out hpp hqq
                  have HGG := hid hgg
                  have hk1 : ¬ (F : Int) < ((B.kdN D [] : Nat) : Int) := by omega
                  clear hgg
                  go_wp2_with fail
                  refine (KGp.out _).mono ?_
                  rintro e w6 ⟨rfl, b6⟩
                  have H6 := hid (HB.out.trans (b6.mono HB.out.size))
                  clear b6
                  by_cases hc : p + q ≤ i + g
                  · have hd1 : decide ((p : Int) + (q : Int) - (g : Int) ≤ (i : Int)) = true := decide_eq_true (by omega)
                    have hd1' : (p : Int) + (q : Int) - (g : Int) ≤ (i : Int) := by omega
                    rw [HGG.out hc] at KGg
                    clear hc
                    go_wp2_with fail
                    refine (KGq.out _).mono ?_
                    rintro e w7 ⟨rfl, b7⟩
                    have H7 := hid (H6.out.trans (b7.mono H6.out.size))
                    clear b7
                    go_wp2_with fail
                    refine (KGg.out _).mono ?_
                    rintro e w8 ⟨rfl, b8⟩
                    have H8 := hid (H7.out.trans (b8.mono H7.out.size))
                    clear b8
                    go_wp2_with fail
                    refine (KK.out _).mono ?_
                    rintro e w9 ⟨rfl, b9⟩
                    have H9 := hid (H8.out.trans (b9.mono H8.out.size))
                    clear b9
                    go_wp2
                    go_roundw
                    case rel => exact ⟨x + 1, by omega, by go_num, H9.out⟩
                    case measure => simp [intOf]; omega
                  · have hd1 : decide ((p : Int) + (q : Int) - (g : Int) ≤ (i : Int)) = false := decide_eq_false (by omega)
                    have hd1' : ¬ (p : Int) + (q : Int) - (g : Int) ≤ (i : Int) := by omega
                    clear hc
                    go_wp2_with fail
                    refine (KGq.out _).mono ?_
                    rintro e w7 ⟨rfl, b7⟩
                    have H7 := hid (H6.out.trans (b7.mono H6.out.size))
                    clear b7
                    go_wp2_with fail
                    refine (KK.out _).mono ?_
                    rintro e w9 ⟨rfl, b9⟩
                    have H9 := hid (H7.out.trans (b9.mono H7.out.size))
                    clear b9
                    go_wp2
                    go_roundw
                    case rel => exact ⟨x + 1, by omega, by go_num, H9.out⟩
                    case measure => simp [intOf]; omega
        · have H6 := hid (H5.out.trans (HB.out.mono H5.out.size))
          have H7 := hid (HB2.out.trans (H6.out.mono HB2.out.size))
          have KW := hid (works_any wr (HM.out.stays H7.out))
          have hxc : x = c := by omega
          subst hxc
          go_wp2_with fail
          refine KW.out.mono ?_
          rintro e w6 ⟨rfl, b6⟩
          have H8 := hid (H7.out.trans (b6.mono H7.out.size))
          clear b6
          go_wp2
          go_ret
          exact ⟨rfl, H8.out⟩
end Go.Proofs.Ytiodcgdjphmffaa
