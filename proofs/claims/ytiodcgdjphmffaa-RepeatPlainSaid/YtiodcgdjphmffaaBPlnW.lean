/- The walk of RepeatPlain. -/
import Derived.Test.YtiodcgdjphmffaaBPlnP
import Derived.Test.YtiodcgdjphmffaaBPlnC
import Derived.Test.YtiodcgdjphmffaaBWall
namespace Go.Proofs.Ytiodcgdjphmffaa
open Go.RowKit

theorem B.wrap_nat {m : Nat} (h : m ≤ 1000000) : wrap64 (m : Int) = (m : Int) := by unfold wrap64; omega
theorem B.take_num (x n j : Nat) (h : j < n) : (B.numN x n).take (j + 1) = (B.numN x n).take j ++ [x / 2 ^ (n - 1 - j) % 2] := by
  rw [List.take_succ_eq_append_getElem (by rw [B.numN_len]; exact h)]
  simp [B.numN]

set_option maxHeartbeats 8000000 in
set_option maxRecDepth 100000 in
theorem repeatPlain_any (a : Option Addr) (c : Nat) (xs : List Nat) (w : World) (hm : MaxL w) (hl : xs.length ≤ maxLen) (hx : ∀ x ∈ xs, x < 256) (hr : RdU w a xs) :
    Calls Try.prog 10 #[.slice a xs.length c] w fun e w' => e = .returned (.bool true) ∧ Below w.heap.size w w' := by
  have KM := hid (wall_any a c xs 11 w hl (by decide) hx hr)
  have HM := hid hm
  clear hl hx hr hm
  go_enter Try.func10, Try.ntmps10
  go_wp2_with fail
  refine KM.out.mono ?_
  rintro e w1 ⟨⟨T, hT1, hT2, hT3, rfl⟩, hw1⟩
  rw [hw1]
  clear hw1 KM w1
  have h24 : ∀ x ∈ T, x < 24 := fun x hx => by have := hT3 x hx; omega
  have hsz := B.size_byt T
  obtain ⟨x0, hx0, hs0, hn0⟩ := B.first_same hT1 hT2 hT3
  have hpl : B.plain (B.byt T) = B.num x0 T.length := by
    have h := B.plain_hit (l := B.byt T) (x := x0)
    rw [B.byt_len] at h
    exact h hx0 hs0 hn0
  have hchk : B.chk (B.str (B.byt T)) = 0 := B.chk_names (N := T) (fun x => UInt8.ofNat (97 + x)) (by omega) (by omega) (fun x hx => by
    have := h24 x hx
    simp only [UInt8.toNat_ofNat']
    omega)
  have hPV : B.plainV (B.str (B.byt T)) = (B.str (B.byt (B.numN x0 T.length)), 0) := by
    unfold B.plainV
    rw [if_pos hchk, if_neg (by omega), B.str_data, hpl, B.byt_num]
  have KP := hid (fun w => plain_any (B.str (B.byt T)) w (by rw [hsz]; unfold maxLen; omega))
  rw [hPV] at KP
  have hosz : (B.str (B.byt (B.numN x0 T.length))).size = T.length := by rw [B.size_byt, B.numN_len]
  have KS := hid (fun bn bs x w hcn hcs => plainSame_any bn bs T (B.numN x T.length) w (fun y hy => by have := B.numN_lt x T.length y hy; omega) h24 (B.numN_len x T.length) (by omega) hcn hcs)
  have HN0 := hid hn0
  have HS0 := hid hs0
  have hlast := hid (B.take_num · T.length)
  have hfull := hid (fun x => List.take_of_length_le (l := B.numN x T.length) (i := T.length) (by rw [B.numN_len]; exact Nat.le_refl _))
  have h2n : 2 ^ T.length ≤ 2048 := Nat.le_trans (Nat.pow_le_pow_right (by decide) hT2) (by decide)
  clear hT3 h24 hn0 hs0 hpl hchk hPV
  have hbt : ∀ x, B.byt (B.numN x T.length) = B.num x T.length := fun x => B.byt_num x T.length
  have HBT := hid hbt
  clear hbt
  generalize hnn : T.length = n at *
  have HNN := hid hnn
  clear hnn
  generalize hS : B.str (B.byt T) = S at *
  clear hS
  have hb1 : Below w.heap.size w (w.alloc (.cells #[.string S] 9)) := (Below.refl _ w).alloc (Nat.le_refl _) _
  have hc1 : (w.alloc (.cells #[.string S] 9)).cell? ⟨w.heap.size, 0, none⟩ = some (.string S) := by rw [World.cell?_alloc_at _ _ _ _ rfl]; rfl
  have hb2 : Below (w.alloc (.cells #[.string S] 9)).heap.size (w.alloc (.cells #[.string S] 9)) ((w.alloc (.cells #[.string S] 9)).alloc (.cells #[.int .i64 n] 3)) := (Below.refl _ _).alloc (Nat.le_refl _) _
  have hc2 : ((w.alloc (.cells #[.string S] 9)).alloc (.cells #[.int .i64 n] 3)).cell? ⟨w.heap.size + 1, 0, none⟩ = some (.int .i64 n) := by rw [World.cell?_alloc_at _ _ _ _ (by simp)]; rfl
  have hc3 := cell_stays hb2 (Nat.le_refl _) hc1
  have HB2 := hid (hb1.trans (hb2.mono hb1.size))
  have HC2 := hid hc2
  have HC3 := hid hc3
  clear hb1 hb2
  go_wp2_with fail
  refine (KP.out _).mono ?_
  generalize (w.alloc (.cells #[.string S] 9)).alloc (.cells #[.int .i64 n] 3) = w3 at *
  generalize w.heap.size + 1 = bn at *
  rintro e w4 ⟨rfl, b4⟩
  have hlt2 := World.block_lt_of_cell? _ _ HC2.out
  have hlt3 := World.block_lt_of_cell? _ _ HC3.out
  have hc2 := (b4.cell (p := ⟨bn, 0, none⟩) hlt2).trans HC2.out
  have hc3 := (b4.cell (p := ⟨w.heap.size, 0, none⟩) hlt3).trans HC3.out
  have HB4 := hid (HB2.out.trans (b4.mono HB2.out.size))
  have HC24 := hid hc2
  have HC34 := hid hc3
  clear b4 KP HC2 HC3 HB2 hlt2 hlt3
  have e1 : ((n : Int) != (n : Int)) = false := by simp
  generalize hO : B.str (B.byt (B.numN x0 n)) = O at *
  have HO := hid hO
  clear hO
  generalize hbs : w.heap.size = bs at *
  have HBS := hid hbs
  clear hbs
  go_wp2_with fail
  clear hc2 hc3
  go_loopw [8] (fun y wr => ∃ x : Nat, x ≤ x0 ∧ y = .int .i64 x ∧ Below w4.heap.size w4 wr) (fun y _ => x0 + 1 - (intOf y).toNat)
  case atStart => exact ⟨0, Nat.zero_le _, rfl, Below.refl _ _⟩
  case round =>
    obtain ⟨x, hx, rfl, hbel⟩ := hrel
    have HB := hid hbel
    have hc2 := cell_stays hbel (Nat.le_refl _) HC24.out
    have hc3 := cell_stays hbel (Nat.le_refl _) HC34.out
    clear hbel
    have hxn : x < 2 ^ n := by omega
    generalize wr = wq at *
    have hsh : (x : Int) < wrap64 ((2 : Int) ^ n) := by
      have e : ((2 : Int) ^ n) = ((2 ^ n : Nat) : Int) := by push_cast; rfl
      rw [e, B.wrap_nat (by omega)]
      omega
    go_wp2_with fail
    clear hsh
    go_loopg [9, 10] n (fun gg y9 y10 wr => ∃ j : Nat, j ≤ n ∧ gg = n - j ∧ y9 = .string (B.str (B.byt ((B.numN x n).take j))) ∧ y10 = .int .i64 ((n : Int) - 1 - (j : Int)) ∧ wr = wq)
    case atStart => exact ⟨0, Nat.zero_le _, rfl, rfl, by simp, rfl⟩
    case round =>
      obtain ⟨j, hj, rfl, rfl, rfl, hwq⟩ := hrel
      subst hwq
      by_cases hlt : j < n
      · have hd1 : (0 : Int) ≤ (n : Int) - 1 - (j : Int) := by omega
        have HTK := hid (hlast.out x j hlt)
        have hsz2 : (B.str (B.byt ((B.numN x n).take j))).size ≤ 11 := by rw [B.size_byt, List.length_take]; omega
        have hnc : ¬ (9223372036854775807 < (B.str (B.byt ((B.numN x n).take j))).size + 1) := by omega
        have HSB : Hid (∀ r : Nat, B.str (B.byt ((B.numN x n).take j ++ [r])) = B.str (B.byt ((B.numN x n).take j)) ++ ⟨#[UInt8.ofNat (97 + r)]⟩) := hid (fun r => B.snoc_str _ r)
        have hbit : bits BinOp.and IntKind.i64 ((x : Int) / 2 ^ (n - 1 - j)) 1 = ((x / 2 ^ (n - 1 - j) % 2 : Nat) : Int) := by
          have h1 : (x : Int) / 2 ^ (n - 1 - j) = ((x / 2 ^ (n - 1 - j) : Nat) : Int) := by simp
          have h2 : x / 2 ^ (n - 1 - j) ≤ x := Nat.div_le_self _ _
          rw [h1, B.and_one _ (by omega)]
        have hr2 : x / 2 ^ (n - 1 - j) % 2 = 0 ∨ x / 2 ^ (n - 1 - j) % 2 = 1 := by omega
        clear hsz2
        generalize B.str (B.byt ((B.numN x n).take j)) = tt at *
        rcases hr2 with hr | hr
        all_goals
          rw [hr] at hbit HTK
          clear hr
          go_wp2
          go_roundg (n - (j + 1))
          case measure => omega
          case rel =>
            refine ⟨j + 1, by omega, rfl, ?_, by congr 1; omega, rfl⟩
            rw [HTK.out, HSB.out]
            rfl
      · have hje : j = n := by omega
        subst hje
        have hful := hfull.out x
        rw [hful]
        have KX := hid (KS.out bn bs x wr hc2 hc3)
        clear hful
        by_cases hxx : x = x0
        · subst hxx
          rw [HBT.out, HS0.out] at KX
          rw [← HBT.out, HO.out] at KX
          rw [HO.out]
          have e2 : (O.toList == O.toList) = true := by simp
          have H5 : Hid (Below w.heap.size w wr) := hid (by
            have h4 := HB4.out
            rw [← HBS.out] at h4
            exact h4.trans (HB.out.mono h4.size))
          have KW := hid (fun w5 (b : Below wr.heap.size wr w5) => works_any w5 (HM.out.stays (H5.out.trans (b.mono H5.out.size))))
          go_wp2_with fail
          refine KX.out.mono ?_
          rintro e w5 ⟨rfl, b5⟩
          have HB5 := hid b5
          clear b5
          go_wp2_with fail
          refine (KW.out _ HB5.out).mono ?_
          rintro e w6 ⟨rfl, b6⟩
          have h55 := H5.out.trans (HB5.out.mono H5.out.size)
          have H6 := hid (h55.trans (b6.mono h55.size))
          clear h55
          clear b6
          go_wp2
          go_ret
          first | exact ⟨rfl, H6.out⟩ | exact ⟨rfl, HBS.out ▸ H6.out⟩
        · rw [HBT.out, HN0.out x (by omega), ← HBT.out] at KX
          generalize B.str (B.byt (B.numN x j)) = tt at *
          go_wp2_with fail
          refine KX.out.mono ?_
          rintro e w5 ⟨rfl, b5⟩
          have HB5 := hid (HB.out.trans (b5.mono HB.out.size))
          clear b5
          go_wp2
          go_roundw
          case rel => exact ⟨x + 1, by omega, by go_num, HB5.out⟩
          case measure => simp [intOf]; omega
end Go.Proofs.Ytiodcgdjphmffaa
