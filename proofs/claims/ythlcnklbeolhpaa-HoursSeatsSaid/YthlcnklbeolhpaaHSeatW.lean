/- The walk of the law HoursSeats. -/
import Derived.Test.YthlcnklbeolhpaaHSeatA
namespace Go.Proofs.Ythlcnklbeolhpaa
open Go.RowKit Ev

set_option maxHeartbeats 8000000 in
set_option maxRecDepth 100000 in
theorem hoursSeats_any (f : Nat → Nat) (x : Nat) (w : World) (hf : ∀ k, f k < 256) (hx : x < 256) :
    Calls Try.prog 11 #[bench f, .int .u8 x] w fun e w' => e = .returned (.bool true) ∧ Below w.heap.size w w' := by
  obtain ⟨i0, hi, hz0, hz1, hz2⟩ := info_parts (show (Try.prog.info? 3).map (fun i => (i.zero, i.size, i.bytes)) = some (some (.int .i64 0), 1, 8) by kernel_rfl)
  have HB0 := hid ((Below.refl w.heap.size w).alloc (Nat.le_refl _) (.cells #[.int .u8 (f 0), .int .u8 (f 1), .int .u8 (f 2), .int .u8 (f 3), .int .u8 (f 4), .int .u8 (f 5), .int .u8 (f 6), .int .u8 (f 7), .int .u8 (f 8), .int .u8 (f 9), .int .u8 (f 10), .int .u8 (f 11), .int .u8 (f 12), .int .u8 (f 13), .int .u8 (f 14), .int .u8 (f 15), .int .u8 (f 16), .int .u8 (f 17), .int .u8 (f 18)] 61))
  have HMD := hid (fun W => made_any f 7 W hf (by decide))
  have HRG := hid (box19 f w).agg
  generalize hw0 : w.alloc (.cells #[.int .u8 (f 0), .int .u8 (f 1), .int .u8 (f 2), .int .u8 (f 3), .int .u8 (f 4), .int .u8 (f 5), .int .u8 (f 6), .int .u8 (f 7), .int .u8 (f 8), .int .u8 (f 9), .int .u8 (f 10), .int .u8 (f 11), .int .u8 (f 12), .int .u8 (f 13), .int .u8 (f 14), .int .u8 (f 15), .int .u8 (f 16), .int .u8 (f 17), .int .u8 (f 18)] 61) = w0 at *
  have HW0 := hid hw0
  clear hw0
  obtain ⟨m, hm⟩ : ∃ m : Nat, m = 1 + f 0 % 4 := ⟨_, rfl⟩
  obtain ⟨n, hn⟩ : ∃ n : Nat, n = 1 + f 1 % 4 := ⟨_, rfl⟩
  obtain ⟨sn, hsn⟩ : ∃ sn : Nat, sn = 1 + f 2 % 5 := ⟨_, rfl⟩
  have HT : Hid (H.bT f 7 = H.mat (H.bE f 7) m n ∧ H.bS f = sn) := hid ⟨by unfold H.bT; rw [hm, hn], by unfold H.bS; rw [hsn]⟩
  rw [HT.out.1, HT.out.2] at HMD
  have hm4 : 1 ≤ m ∧ m ≤ 4 := by omega
  have hn4 : 1 ≤ n ∧ n ≤ 4 := by omega
  have HEB : Hid (∀ s d, H.bE f 7 s d ≤ 7) := hid (fun s d => by unfold H.bE; have := Nat.mod_lt (f (3 + (4 * s + d))) (show 0 < 7 + 1 by omega); omega)
  have HTL := hid (H.mat_len (H.bE f 7) m n)
  rw [HTL.out] at HMD
  clear hm hn hsn HT HTL
  generalize H.bE f 7 = E at *
  obtain ⟨t, ht⟩ : ∃ t : Nat, t = x % 40 := ⟨_, rfl⟩
  have hri : ((x : Nat) : Int).tmod 40 = (t : Int) := by rw [Int.tmod_eq_emod_of_nonneg (by omega), ht]; push_cast; rfl
  have hri2 : ((x : Nat) : Int) % 40 = (t : Int) := by rw [ht]; push_cast; rfl
  have hwx : IntKind.i64.wrap ((x : Nat) : Int) = (x : Int) := IntWalk.i64_in _ (by omega)
  have ht40 : t < 40 := by omega
  clear ht
  have hok := H.mat_ok (E := E) (m := m) (n := n) hm4.1 (by omega) hn4.1 (by omega) (fun s d => by have := HEB.out s d; omega)
  have hlens := hok.lens
  have htb := hok.tot_bd
  have HEN := hid (H.enough_ok (E := E) (n := n) hm4.1 hm4.2 hok t)
  have HAL := hid (H.sht_all (E := E) hm4.1 hn4.1)
  have HON := hid (H.sht_one (E := E) (n := n) hm4.1)
  rw [← H.mat_tot] at HON
  have hlb : 0 ≤ H.lin (H.mat E m n) ∧ H.lin (H.mat E m n) ≤ 1080 := by
    refine ⟨H.lin_nonneg _, ?_⟩
    have := H.sht_bd hok (s := ((min m n : Nat) : Int)) (by omega)
    rw [HAL.out] at this
    exact this.2
  have HLR : Hid ((H.rows (H.mat E m n)).length = m ∧ (H.cols (H.mat E m n)).length = n) := hid ⟨by unfold H.rows; rw [List.length_map, H.mat_len], by unfold H.cols; rw [List.length_map, List.length_range, H.mat_wid hm4.1]⟩
  have HS0 := hid (fun (s : Nat) (h1 : 1 ≤ s) (h6 : s ≤ 6) (a : Option Addr) (c : Nat) W (hx : RdM W a (H.mat E m n)) => show Calls Try.prog 19 #[.slice a m c, .int .i64 (s : Int)] W fun e w' => e = .returned (.tuple #[.int .i64 (H.sht (H.mat E m n) s), .int .i64 0]) ∧ Below W.heap.size W w' from by
    have hck2 := hok.chks (s := (s : Int)) (by omega) (by omega)
    have := Shortest_any a c (H.mat E m n) s W hlens.1 hlens.2 hx
    unfold H.shE at this
    rwa [if_pos hck2, hck2, H.mat_len] at this)
  have HE0 := hid (fun (a : Option Addr) (c : Nat) W (hx : RdM W a (H.mat E m n)) => show Calls Try.prog 38 #[.slice a m c, .int .i64 (t : Int)] W fun e w' => e = .returned (.tuple #[.int .i64 (H.enE (H.mat E m n) t), .int .i64 (H.enX (H.mat E m n) t)]) ∧ Below W.heap.size W w' from by
    have := enough_any a c (H.mat E m n) t W hlens.1 hlens.2 hx
    rwa [H.mat_len] at this)
  have HBD := hid (fun (a : Option Addr) (c : Nat) W (hx : RdM W a (H.mat E m n)) => show Calls Try.prog 42 #[.slice a m c] W (H.Bds (H.mat E m n) W) from by
    have := bounds_any a c (H.mat E m n) W hok.dim hx
    rwa [H.mat_len] at this)
  have HLN : Hid (H.lin (H.mat E m n) = H.top (H.rows (H.mat E m n) ++ H.cols (H.mat E m n))) := hid rfl
  have HAL2 := hid (HS0.out (min m n) (by omega) (by omega))
  have HON2 := hid (HS0.out 1 (by decide) (by decide))
  rw [HAL.out] at HAL2
  rw [show ((1 : Nat) : Int) = 1 from rfl, HON.out] at HON2
  have hmin : ((min m n : Nat) : Int) = min (m : Int) (n : Int) := by omega
  unfold H.Bds at HBD
  clear hok hlens HAL HON
  generalize H.tot (H.mat E m n) = tt at *
  generalize H.enE (H.mat E m n) (t : Int) = en at *
  generalize H.enX (H.mat E m n) (t : Int) = ex at *
  generalize H.lin (H.mat E m n) = ln at *
  generalize H.rows (H.mat E m n) = R at *
  generalize H.cols (H.mat E m n) = C at *
  go_enter Try.func11, Try.ntmps11
  go_wp2_with (refine wpList_load_mid rfl 61 _ rfl w.heap.size 0 rfl [.int .u8 (f 0), .int .u8 (f 1), .int .u8 (f 2), .int .u8 (f 3), .int .u8 (f 4), .int .u8 (f 5), .int .u8 (f 6), .int .u8 (f 7), .int .u8 (f 8), .int .u8 (f 9), .int .u8 (f 10), .int .u8 (f 11), .int .u8 (f 12), .int .u8 (f 13), .int .u8 (f 14), .int .u8 (f 15), .int .u8 (f 16), .int .u8 (f 17), .int .u8 (f 18)] _ (by rw [HW0.out]; exact HRG.out) Try.underlying61 rfl (by kernel_rfl) ?_)
  rw [HW0.out]
  refine (HMD.out _).mono ?_
  rintro e w1 ⟨a, c, rfl, hx1, hb⟩
  have HB1 := hid (HB0.out.trans (hb.mono HB0.out.size))
  have HX1 := hid (fun W (h : Below w1.heap.size w1 W) => hx1.stays h)
  clear hb
  go_wp2_with fail
  refine (HBD.out a c w1 hx1).mono ?_
  rintro e w2 ⟨v, a2, c2, rfl, hrow, hrc, hb⟩
  have HE2 := hid hb
  obtain ⟨a3, c3, rfl, hra⟩ := hrow.rd
  obtain ⟨b3, o3, rfl, _⟩ := hra 0 (by have := HLR.out.1; omega)
  obtain ⟨b4, o4, rfl, _⟩ := hrc 0 (by have := HLR.out.2; omega)
  have HRA := hid hra
  have HRC := hid hrc
  have HM1 : Hid (0 + R.length ≤ maxLen) := hid (by have := HLR.out; unfold maxLen; omega)
  have HM2 : Hid ((0 + R.length) * 8 ≤ 140737488355328) := hid (by have := HLR.out; omega)
  have HM3 : Hid (R.length + C.length ≤ maxLen) := hid (by have := HLR.out; unfold maxLen; omega)
  have HM4 : Hid ((R.length + C.length) * 8 ≤ 140737488355328) := hid (by have := HLR.out; omega)
  clear hb hx1 hrow hra hrc
  go_wp2_with (at_builtin; refine wpList_append_own _ rfl _ _ 27 rfl w2.heap.size 3 i0 (.int .i64 0) 1 8 Try.underlying27 hi hz0 hz1 hz2 rfl (by decide) _ _ _ rfl (World.ownsRow_made w2 #[] 0 (Nat.le_refl _) (Nat.zero_le _) rfl) ⟨b3, o3, none⟩ R.length c3 (R.map (Value.int .i64)) rfl ?qa1 ?qa2 ?qa3 HM1.out HM2.out ?qa6 ?_)
  case qa1 => simp
  case qa2 =>
    intro j u hj
    have hjn : j < R.length := by
      have := (List.getElem?_eq_some_iff.1 hj).1
      simpa using this
    obtain ⟨b', off', he, hc⟩ := HRA.out j hjn
    simp only [Option.some.injEq, Addr.mk.injEq, and_true] at he
    obtain ⟨rfl, rfl⟩ := he
    rw [Addr.add_lit]
    refine Lib.cell?_alloc_some _ ?_
    rw [hc]
    simpa [hjn] using hj
  case qa3 => intro u hu; obtain ⟨x, _, rfl⟩ := List.mem_map.1 hu; rfl
  case qa6 => simp
  intro v' w3 hown hgrow _
  have hown2 : RowI w3 w2.heap.size v' R := by unfold RowI; simpa using hown
  have hb3 : Below w2.heap.size w2 w3 := ((Below.refl _ w2).alloc (Nat.le_refl _) _).grown hgrow (by simp) (by intro k hk; simp [Value.ownBlock] at hk; omega)
  have HR3 := hid hown2
  have HE3 := hid (HE2.out.trans (hb3.mono HE2.out.size))
  have HRC3 := hid (HRC.out.stays hb3)
  have hsz3 : w2.heap.size ≤ w3.heap.size := hb3.size
  clear hown hown2 hgrow hb3
  go_wp2_with (at_builtin; refine wpList_append_own _ rfl _ _ 27 rfl w2.heap.size 3 i0 (.int .i64 0) 1 8 Try.underlying27 hi hz0 hz1 hz2 rfl (by decide) _ _ _ rfl HR3.out ⟨b4, o4, none⟩ C.length c2 (C.map (Value.int .i64)) rfl ?qc1 ?qc2 ?qc3 HM3.out HM4.out ?qc6 ?_)
  case qc1 => simp
  case qc2 =>
    intro j u hj
    have hjn : j < C.length := by
      have := (List.getElem?_eq_some_iff.1 hj).1
      simpa using this
    obtain ⟨b', off', he, hc⟩ := HRC3.out j hjn
    simp only [Option.some.injEq, Addr.mk.injEq, and_true] at he
    obtain ⟨rfl, rfl⟩ := he
    rw [Addr.add_lit, hc]
    simpa [hjn] using hj
  case qc3 => intro u hu; obtain ⟨x, _, rfl⟩ := List.mem_map.1 hu; rfl
  case qc6 => exact hsz3
  intro v2 w4 hown hgrow _
  have hown2 : RowI w4 w2.heap.size v2 (R ++ C) := by unfold RowI; rw [List.length_append, List.map_append]; exact hown
  have HE4 := hid (Below.grown HE3.out hgrow HE3.out.size (fun q hq => Nat.le_trans HE2.out.size (World.ownsRow.lt HR3.out q hq).1))
  obtain ⟨a9, c9, rfl, hrd⟩ := hown2.rd
  have HRD := hid hrd
  clear hown hown2 hgrow hrd HR3
  have hll : (R ++ C).length ≤ 12 := by rw [List.length_append]; have := HLR.out; omega
  have HTK := hid (fun k (h : k < (R ++ C).length) => H.top_take (l := R ++ C) h)
  rw [← List.length_append] at *
  rw [HLR.out.1, HLR.out.2]
  generalize R ++ C = L at *
  have HAL3 : Hid (∀ W, Below w1.heap.size w1 W → Calls Try.prog 19 #[.slice a m c, .int .i64 ((min m n : Nat) : Int)] W fun e w' => e = .returned (.tuple #[.int .i64 ln, .int .i64 0]) ∧ Below W.heap.size W w') := hid (fun W h => HAL2.out a c W (HX1.out W h))
  have HON3 := hid (fun W (h : Below w1.heap.size w1 W) => HON2.out a c W (HX1.out W h))
  have HEN3 := hid (fun W (h : Below w1.heap.size w1 W) => HE0.out a c W (HX1.out W h))
  have HSS := hid (fun (s : Nat) (h1 : 1 ≤ s) (h6 : s ≤ 6) W (h : Below w1.heap.size w1 W) => HS0.out s h1 h6 a c W (HX1.out W h))
  clear HAL2 HON2 HE0 HS0 HBD HMD
  have HWK := hid works_gives
  go_wp2
  go_loop [10, 40] (fun l i => ∃ k : Nat, k ≤ L.length ∧ i = .int .i64 k ∧ l = .int .i64 (H.top (L.take k))) (fun _ i => L.length - (intOf i).toNat)
  case atStart => exact ⟨0, Nat.zero_le _, rfl, by rw [List.take_zero]; rfl⟩
  case round =>
    obtain ⟨k, hk, rfl, rfl⟩ := hrel
    by_cases hlt : k < L.length
    · obtain ⟨b, off, rfl, hc⟩ := HRD.out k hlt
      have HT2 := hid (HTK.out k hlt)
      generalize L[k] = z at *
      generalize H.top (L.take k) = y at *
      have hix : (0 : Int) ≤ (k : Int) ∧ (k : Int) < (L.length : Int) := by omega
      go_wp2
      all_goals
        go_round
        case rel => exact ⟨k + 1, by omega, by go_num, by rw [HT2.out]; exact congrArg (Value.int .i64) (by omega)⟩
        case measure => simp [intOf]; omega
    · have hke : k = L.length := by omega
      subst hke
      have HE : Hid (H.top (L.take L.length) = ln) := hid (by rw [List.take_length, HLN.out])
      rw [HE.out]
      have s0 : (ln != ln) = false := by simp
      have s1 : (tt != tt) = false := by simp
      have hmn : (m ≤ n ∧ min m n = m) ∨ (n < m ∧ min m n = n) := by omega
      clear HTK HRD HE hlt hk
      rcases hmn with ⟨hmn, he⟩ | ⟨hmn, he⟩
      all_goals
        rw [he] at HAL3
        clear hmin he
        have hmn2 := Int.ofNat_le.2 (Nat.le_of_lt_succ (Nat.lt_succ_of_le (show _ ≤ _ from by first | exact hmn | exact Nat.le_of_lt hmn)))
        go_wp2_with fail
        refine (HAL3.out _ HE4.out).mono ?_
        rintro e w5 ⟨rfl, hb⟩
        have HE5 := hid (HE4.out.trans (hb.mono HE4.out.size))
        clear hb
        go_wp2_with fail
        refine (HON3.out _ HE5.out).mono ?_
        rintro e w6 ⟨rfl, hb⟩
        have HE6 := hid (HE5.out.trans (hb.mono HE5.out.size))
        clear hb
        go_wp2_with fail
        refine (HEN3.out _ HE6.out).mono ?_
        rintro e w7 ⟨rfl, hb⟩
        have HE7 := hid (HE6.out.trans (hb.mono HE6.out.size))
        clear hb
        obtain ⟨n1, n2, n3⟩ := HEN.out
        by_cases htl : (t : Int) < ln
        · have e1 := n2 htl
          rw [if_pos htl] at n1
          subst e1 n1
          clear n2 n3
          go_wp2_with fail
          refine (HWK.out _).mono ?_
          rintro e w8 ⟨rfl, hb⟩
          have HB8 := hid (HB1.out.trans ((HE7.out.trans (hb.mono HE7.out.size)).mono HB1.out.size))
          clear hb
          go_wp2
          go_ret
          exact ⟨rfl, HB8.out⟩
        · obtain ⟨m1, m2, m3, m4⟩ := n3 (by omega)
          rw [if_neg htl] at n1
          subst n1
          have HM3' := hid m3
          have HM4' := hid m4
          have g6 : ¬ (6 : Int) < en := by omega
          have g0 : ¬ en < 0 := by omega
          clear n2 n3 m3 m4 HEN
          go_wp2
          go_loopw [20] (fun i wr => ∃ k : Nat, 1 ≤ k ∧ k ≤ 7 ∧ i = .int .i64 k ∧ Below w1.heap.size w1 wr) (fun i _ => 7 - (intOf i).toNat)
          case atStart => exact ⟨1, by omega, by omega, rfl, HE7.out⟩
          case round =>
            obtain ⟨k, hk1, hk7, rfl, hb⟩ := hrel
            have HEW := hid hb
            clear hb
            by_cases hk6 : k ≤ 6
            · have hk66 : (k : Int) ≤ 6 := by omega
              have hiff := HM3'.out k hk1
              have HS3 := hid (HSS.out k hk1 hk6 wr HEW.out)
              generalize H.sht (H.mat E m n) (k : Int) = z at *
              by_cases hz : z ≤ (t : Int)
              · have hz2 : en ≤ (k : Int) := hiff.1 hz
                clear hiff
                go_wp2_with fail
                refine HS3.out.mono ?_
                rintro e w8 ⟨rfl, hb⟩
                have HE8 := hid (HEW.out.trans (hb.mono HEW.out.size))
                clear hb
                go_wp2
                go_roundw
                case rel => exact ⟨k + 1, by omega, by omega, by go_num, HE8.out⟩
                case measure => simp [intOf]; omega
              · have hz2 : ¬ en ≤ (k : Int) := fun e => hz (hiff.2 e)
                have d1 : decide (z ≤ (t : Int)) = false := decide_eq_false hz
                have d2 : decide (en ≤ (k : Int)) = false := decide_eq_false hz2
                clear hiff hz hz2
                go_wp2_with fail
                refine HS3.out.mono ?_
                rintro e w8 ⟨rfl, hb⟩
                have HE8 := hid (HEW.out.trans (hb.mono HEW.out.size))
                clear hb
                go_wp2
                go_roundw
                case rel => exact ⟨k + 1, by omega, by omega, by go_num, HE8.out⟩
                case measure => simp [intOf]; omega
            · have hke : k = 7 := by omega
              subst hke
              have hiff := HM4'.out
              by_cases hz : en = 0
              · have hz2 : tt = 0 := hiff.1 hz
                subst hz hz2
                clear hiff
                go_wp2_with fail
                refine (HWK.out _).mono ?_
                rintro e w8 ⟨rfl, hb⟩
                have HB8 := hid (HB1.out.trans ((HEW.out.trans (hb.mono HEW.out.size)).mono HB1.out.size))
                clear hb
                go_wp2
                go_ret
                exact ⟨rfl, HB8.out⟩
              · have hz1 : (en == 0) = false := by simpa using hz
                have hz2 : (tt == 0) = false := by
                  have : ¬ tt = 0 := fun e => hz (hiff.2 e)
                  simpa using this
                clear hiff hz
                go_wp2_with fail
                refine (HWK.out _).mono ?_
                rintro e w8 ⟨rfl, hb⟩
                have HB8 := hid (HB1.out.trans ((HEW.out.trans (hb.mono HEW.out.size)).mono HB1.out.size))
                clear hb
                go_wp2
                go_ret
                exact ⟨rfl, HB8.out⟩
end Go.Proofs.Ythlcnklbeolhpaa
