/- The walk of RepeatRingCount. -/
import Derived.Test.YtiodcgdjphmffaaBCntK
import Derived.Test.YtiodcgdjphmffaaBCntO
import Derived.Test.YtiodcgdjphmffaaBAllW
namespace Go.Proofs.Ytiodcgdjphmffaa
open Go.RowKit Go.Maps Go.WideMaps

theorem B.cnt_at {n K : Nat} (hn : 1 ≤ n ∧ n ≤ 7) (hK : 1 ≤ K ∧ K ≤ 3) : B.cntN K n = true := by
  obtain ⟨m, rfl⟩ : ∃ m, n = m + 1 := ⟨n - 1, by omega⟩
  have h3 : K = 1 ∨ K = 2 ∨ K = 3 := by omega
  rcases h3 with rfl | rfl | rfl
  · exact B.allTo_at (f := fun n => B.cntN 1 (n + 1)) (n := 7) B.cnt1 m (by omega)
  · exact B.allTo_at (f := fun n => B.cntN 2 (n + 1)) (n := 7) B.cnt2 m (by omega)
  · by_cases h : m < 6
    · exact B.allTo_at (f := fun n => B.cntN 3 (n + 1)) (n := 6) B.cnt3 m h
    · have : m = 6 := by omega
      subst this
      exact B.cnt37
theorem B.rt2_bd {T : List Nat} (h : 1 ≤ T.length) : 1 ≤ B.rt2 (B.byt T) ∧ B.rt2 (B.byt T) ≤ T.length := by
  unfold B.rt2
  rw [B.byt_len]
  cases hf : (List.range T.length).find? (fun k => B.isRt (B.byt T) (k + 1)) with
  | none => simp; omega
  | some k =>
    have := List.mem_range.1 (List.mem_of_find?_eq_some hf)
    simp; omega
theorem zeroBool (w : World) : (zeroValue 4).run Try.prog w = .ok (.bool false) w := by kernel_rfl
theorem lawStr : Keyed Try.prog 9 := string_keyed Try.underlying9
theorem B.key_str {T : List Nat} (h : T.length ≤ 24) : keyOf Try.prog 9 (.string (B.str (B.byt T))) = some (B.keyL T) :=
  keyOf_string_mk Try.underlying9 (by rw [B.size_byt]; unfold maxLen; omega)
theorem owns_below {H : Type} {P : Program} {k : TypeId} {R : Value → Option (DataW H × List MemPlace)} {b n B0 : Nat} {D : DataW H} {w w' : World} (h : w.ownsMap P k R b n D) (hb : Below B0 w w') (hlt : b < B0) : w'.ownsMap P k R b n D := by
  obtain ⟨es, clock, h0, F, h1, h2⟩ := h
  exact ⟨es, clock, (hb.block b hlt).trans h0, F, h1, h2⟩

set_option maxHeartbeats 8000000 in
set_option maxRecDepth 100000 in
theorem repeatRingCount_any (f : Nat → Nat) (w : World) (hm : MaxL w) (hf : ∀ k, f k < 256) :
    Calls Try.prog 12 #[arr8 f 2] w fun e w' => e = .returned (.bool true) ∧ Below w.heap.size w w' := by
  unfold arr8
  have hmm := @run_makeMap Try.prog
  have hb1 := (Below.refl w.heap.size w).alloc (Nat.le_refl _) (.cells (cells8 f 2).toArray 61)
  have hx1 := box8 f 2 61 w
  generalize hw1 : w.alloc (.cells (cells8 f 2).toArray 61) = w2 at *
  have HB2 := hid hb1
  have HM := hid hm
  have k0 := hx1 0 (by omega)
  have k1 := hx1 1 (by omega)
  clear hb1 hx1 hm
  obtain ⟨n, hn⟩ : ∃ n : Nat, n = 1 + f 0 % 7 := ⟨_, rfl⟩
  obtain ⟨K, hK⟩ : ∃ K : Nat, K = 1 + f 1 % 3 := ⟨_, rfl⟩
  have hn0 : (1 : Int) + (((f 0 : Nat) : Int) % 7) = (n : Int) := by omega
  have hK0 : (1 : Int) + (((f 1 : Nat) : Int) % 3) = (K : Int) := by omega
  have hn1 : 1 ≤ n ∧ n ≤ 7 := by omega
  have hK1 : 1 ≤ K ∧ K ≤ 3 := by omega
  have hw0 : IntKind.i64.wrap ((f 0 : Nat) : Int) = (f 0 : Int) := IntWalk.i64_in _ (by have := hf 0; omega)
  have hwp : IntKind.i64.wrap ((f 1 : Nat) : Int) = (f 1 : Int) := IntWalk.i64_in _ (by have := hf 1; omega)
  have HCNT := hid (B.cnt_at hn1 hK1)
  have hRV : B.ringsV n K = (((B.rings n K : Nat) : Int), 0) := by
    unfold B.ringsV
    rw [if_pos (by omega)]
    rfl
  have KR := hid (fun w => rings_any n K w)
  rw [hRV] at KR
  clear hn hK hRV
  have HTOT : Hid (∃ r, r = B.rings n K) := hid ⟨_, rfl⟩
  obtain ⟨r, hr⟩ := HTOT.out
  have HRUN : Hid (B.runC K n r (K ^ n) (K ^ n) 0 [] 0 = true) := hid (by rw [hr]; exact HCNT.out)
  rw [← hr] at KR
  clear hr HTOT HCNT
  go_enter Try.func12, Try.ntmps12
  go_wp2_with fail
  go_quiet (fail)
  clear k0 k1 hw1 hn0 hK0 hw0 hwp
  go_wp2_with fail
  have H3 := hid (below_drewN (Below.refl w2.heap.size w2) nq)
  generalize w2.drewN nq = w3 at *
  go_loop [5, 31] (fun y x => ∃ i c : Nat, i ≤ n ∧ x = .int .i64 i ∧ y = .int .i64 c ∧ Hid (c = K ^ i)) (fun _ x => n - (intOf x).toNat)
  case atStart => exact ⟨0, 1, Nat.zero_le _, rfl, rfl, hid rfl⟩
  case round =>
    obtain ⟨i, c, hi, rfl, rfl, HC⟩ := hrel
    have hc8 : c ≤ 2187 := by
      rw [HC.out]
      exact Nat.le_trans (Nat.pow_le_pow_left hK1.2 i) (Nat.le_trans (Nat.pow_le_pow_right (by decide) (show i ≤ 7 by omega)) (by decide))
    by_cases hlt : i < n
    · have HC2 : Hid (c * K = K ^ (i + 1)) := hid (by rw [HC.out, Nat.pow_succ])
      have hck : c * K ≤ 6561 := Nat.le_trans (Nat.mul_le_mul hc8 hK1.2) (by decide)
      have hmul : (c : Int) * (K : Int) = ((c * K : Nat) : Int) := by push_cast; rfl
      generalize c * K = d at *
      go_wp2
      go_round
      case rel => exact ⟨i + 1, d, by omega, by go_num, by go_num, HC2⟩
      case measure => simp [intOf]; omega
    · have hin : i = n := by omega
      subst hin
      have HRUN2 : Hid (B.runC K i r c c 0 [] 0 = true) := hid (by rw [HC.out]; exact HRUN.out)
      clear HRUN
      have HOW0 := hid (World.ownsMap_made w3 Try.prog 9 (plainElem (H := Unit) Try.prog 4))
      have HBM := hid ((Below.refl w3.heap.size w3).alloc (Nat.le_refl _) (.map #[] 0))
      have hsz4 : (w3.alloc (.map #[] 0)).heap.size = w3.heap.size + 1 := by simp
      have HSZ4 := hid hsz4
      clear hsz4
      go_wp2_with fail
      generalize w3.alloc (.map #[] 0) = w4 at *
      generalize hbm : w3.heap.size = bm at *
      have HBMS := hid hbm
      clear hbm
      go_loopw [7, 8] (fun y7 y8 wr => ∃ (x s m : Nat) (A : List (List Nat)) (D : DataW Unit), x ≤ c ∧ y8 = .int .i64 x ∧ y7 = .int .i64 s ∧ s ≤ 8 * x ∧ m ≤ x ∧ wr.ownsMap Try.prog 9 (plainElem Try.prog 4) bm m D ∧ bm < wr.heap.size ∧ Below bm w3 wr ∧ Hid (B.Holds D A) ∧ Hid (∀ U ∈ A, B.Of i U) ∧ Hid (B.runC K i r c (c - x) x (A.map B.codeN) s = true)) (fun _ y8 _ => c - (intOf y8).toNat)
      case atStart => exact ⟨0, 0, 0, [], _, Nat.zero_le _, rfl, rfl, Nat.zero_le _, Nat.le_refl _, HOW0.out, by have := HSZ4.out; omega, HBM.out, hid B.holds_nil, hid (fun U h => by cases h), HRUN2⟩
      case round =>
        obtain ⟨x, sm, m, A, D, hx, rfl, rfl, hsm, hmx, hown, hbs, hbel, HH, HA, HR⟩ := hrel
        have HB := hid hbel
        have HOWN := hid hown
        clear hbel hown
        by_cases hlt2 : x < c
        · have hOf := B.digk_of hK1 i x
          obtain ⟨T0, hT0⟩ : ∃ T, T = B.digk K i x := ⟨_, rfl⟩
          obtain ⟨kk, hkk⟩ : ∃ kk, c - x = kk + 1 := ⟨c - x - 1, by omega⟩
          have hr1 := HR.out
          rw [hkk, B.runC_succ, ← hT0] at hr1
          rw [← hT0] at hOf
          have HR1 := hid hr1
          have HOF := hid hOf
          have HT0 := hid hT0
          have HKK := hid (show c - (x + 1) = kk by omega)
          clear hr1 hOf hT0 hkk HR
          generalize wr = wq at *
          go_wp2_with fail
          go_loopg [9, 10] i (fun gg a b wr => ∃ (T : List Nat) (y : Nat), T.length ≤ i ∧ gg = i - T.length ∧ a = .string (B.str (B.byt T)) ∧ b = .int .i64 y ∧ y ≤ 2187 ∧ Hid (T0 = T ++ B.digk K (i - T.length) y) ∧ wr = wq)
          case atStart => exact ⟨[], x, Nat.zero_le _, rfl, rfl, rfl, by omega, HT0, rfl⟩
          case round =>
            obtain ⟨T, y, hT, rfl, rfl, rfl, hy, HD, hwq⟩ := hrel
            subst hwq
            have hsz := B.size_byt T
            by_cases hlt3 : T.length < i
            · have HD2 : Hid (T0 = (T ++ [y % K]) ++ B.digk K (i - (T ++ [y % K]).length) (y / K)) := hid (by
                have h := HD.out
                rw [show i - T.length = (i - (T ++ [y % K]).length) + 1 by rw [List.length_append, List.length_singleton]; omega, B.digk] at h
                rw [h]; simp)
              have HSB : Hid (∀ r : Nat, B.str (B.byt (T ++ [r])) = B.str (B.byt T) ++ ⟨#[UInt8.ofNat (97 + r)]⟩) := hid (fun r => B.ext (by
                rw [B.append_data, B.str_data, B.str_data, B.byt_append]; rfl))
              have hnc : ¬ (9223372036854775807 < (B.str (B.byt T)).size + 1) := by rw [hsz]; omega
              have hym := Nat.mod_lt y (show 0 < K by omega)
              have hyd : y / K ≤ 2187 := Nat.le_trans (Nat.div_le_self _ _) hy
              have hne : ¬ (K : Int) = 0 := by omega
              have hne2 : ¬ K = 0 := by omega
              have hkp : (0 : Int) < (K : Int) := by omega
              have hri : ((y : Nat) : Int).tmod (K : Int) = ((y % K : Nat) : Int) := by rw [Int.tmod_eq_emod_of_nonneg (by omega)]; push_cast; rfl
              have hri2 : ((y : Nat) : Int) % (K : Int) = ((y % K : Nat) : Int) := by push_cast; rfl
              have hqi : ((y : Nat) : Int).tdiv (K : Int) = ((y / K : Nat) : Int) := by rw [Int.tdiv_eq_ediv_of_nonneg (by omega)]; push_cast; rfl
              have hqi2 : ((y : Nat) : Int) / (K : Int) = ((y / K : Nat) : Int) := by push_cast; rfl
              have hr3 : y % K = 0 ∨ y % K = 1 ∨ y % K = 2 := by omega
              generalize y / K = y' at *
              rcases hr3 with hr | hr | hr
              all_goals
                rw [hr] at HD2 hri hri2
                clear hym hr
                go_wp2
                go_roundg (i - (T.length + 1))
                case measure => omega
                case rel =>
                  refine ⟨T ++ [_], y', ?_, ?_, ?_, rfl, hyd, HD2, rfl⟩
                  · rw [List.length_append, List.length_singleton]; omega
                  · rw [List.length_append, List.length_singleton]
                  · rw [HSB.out]; rfl
            · have hTi : T.length = i := by omega
              have hDT : T0 = T := by
                have h := HD.out
                rw [hTi, Nat.sub_self, B.digk, List.append_nil] at h
                exact h
              subst hDT
              have hFN := B.firN_of HOF.out i (Nat.le_refl _)
              obtain ⟨F, hF⟩ : ∃ F, F = B.firN T0 i := ⟨_, rfl⟩
              rw [← hF] at hFN HR1
              have h100 : ∀ x ∈ T0, x < 100 := fun x hx => by have := HOF.out.2 x hx; omega
              have HFO := hid hFN.1
              have hchk : B.chk (B.str (B.byt T0)) = 0 := B.chk_names (N := T0) (fun x => UInt8.ofNat (97 + x)) (by omega) (by omega) (fun x hx => by
                have := h100 x hx
                have := HOF.out.2 x hx
                simp only [UInt8.toNat_ofNat']
                omega)
              have hfs : B.first (B.str (B.byt T0)) = B.str (B.byt F) := by
                rw [← hFN.2]; unfold B.first; rw [hsz, hTi]
              have hFV : B.firstV (B.str (B.byt T0)) = (B.str (B.byt F), 0) := by unfold B.firstV; rw [if_pos hchk, hfs]
              have hrt := B.rt2_bd (T := T0) (by omega)
              have hrteq := B.rtN_eq h100
              have hRSz : ((B.str (B.byt T0)).extract 0 (B.rt2 (B.byt T0))).size = B.rtN T0 := by
                rw [B.size_extract, hsz, ← hrteq]; omega
              have hRV : (B.rootV (B.str (B.byt T0))).1 = (B.str (B.byt T0)).extract 0 (B.rt2 (B.byt T0)) ∧ (B.rootV (B.str (B.byt T0))).2.2 = 0 := by
                unfold B.rootV; rw [if_pos hchk]; exact ⟨rfl, rfl⟩
              have CFI := hid (fun w => first_any (B.str (B.byt T0)) w (by rw [hsz]; unfold maxLen; omega))
              have CRT := hid (fun w => root_any (B.str (B.byt T0)) w (by rw [hsz]; unfold maxLen; omega))
              rw [hFV] at CFI
              rw [hRV.1, hRV.2] at CRT
              generalize (B.str (B.byt T0)).extract 0 (B.rt2 (B.byt T0)) = R at *
              generalize (B.rootV (B.str (B.byt T0))).2.1 = rq at *
              have hrn : B.rtN T0 ≤ 7 := by omega
              have HASC := hid (B.asc_byt (N := T0) (fun x hx => by have := HOF.out.2 x hx; omega))
              have hkey := B.key_str (T := F) (by have := HFO.out.1; omega)
              have HFE : Hid (B.firstTo (B.str (B.byt T0)) (B.str (B.byt T0)).size = B.str (B.byt F)) := hid hfs
              have HSI : Hid ((B.str (B.byt T0)).size ≤ 7) := hid (by omega)
              have hSi : (B.str (B.byt T0)).size = i := by omega
              clear HD hT hF hFN hchk hfs hFV hRV hrt hrteq h100 hsz hTi hlt3 hy
              generalize B.rtN T0 = rn at *
              generalize B.str (B.byt T0) = S at *
              generalize B.str (B.byt F) = L at *
              have HFS := hid (B.firstTo_succ S)
              have HFZ := hid (B.firstTo_size S)
              have HKEY := hid hkey
              clear hkey
              generalize wr = wv at *
              go_wp2_with fail
              have HSI3 := hid hSi
              clear hSi
              go_loopg [11] S.size (fun gg a wr => ∃ j : Nat, j ≤ S.size ∧ gg = S.size - j ∧ a = .string (B.firstTo S j) ∧ wr.heap[wv.heap.size]? = some (.stringIter S j) ∧ Below wv.heap.size wv wr)
              case atStart => exact ⟨0, Nat.zero_le _, rfl, rfl, World.iter_heap _ _ _, below_iter _ _ _⟩
              case round =>
                obtain ⟨j, hj, rfl, rfl, hit, hbel⟩ := hrel
                have HBI := hid hbel
                clear hbel
                by_cases hlt4 : j < S.size
                · have h128 := HASC.out j hlt4
                  have hnx : ∀ ty, (Instr.next (.pointer (some ⟨wv.heap.size, 0, none⟩)) true ty).run Try.prog wr = _ := fun ty => Lib.run_next_ascii_at wr wv.heap.size S j ty hit hlt4 h128
                  have hit2 := Lib.iterAt_heap wr wv.heap.size S j (j + 1) hit
                  have hb2 := Lib.below_iterAt HBI.out (Nat.le_refl _) S (j + 1)
                  generalize wr.iterAt wv.heap.size S (j + 1) = wj at *
                  have HIT := hid hit2
                  have HBJ := hid hb2
                  clear hit hit2 hb2
                  have hs8 := HSI.out
                  have HS1 := hid (HFS.out j)
                  have hz1 := B.size_extract S j S.size
                  have hz2 := B.size_extract S 0 j
                  have hmn := fun w x y => Lib.run_min_strs (P := Try.prog) w #[9, 9] 9 x y
                  have HT : Hid (S.extract j S.size ++ S.extract 0 j = B.turn S j) := hid rfl
                  have hlen : (S.extract j S.size).size + (S.extract 0 j).size ≤ 9223372036854775807 := by omega
                  have hadd := fun w => run_string_add_sum (P := Try.prog) (w := w) (S.extract j S.size) (S.extract 0 j) hlen
                  have hix : (0 : Int) ≤ (j : Int) ∧ (j : Int) ≤ (S.size : Int) := by omega
                  generalize B.firstTo S j = fo at *
                  go_wp2
                  go_quiet (fail)
                  go_wp2
                  go_roundg (S.size - (j + 1))
                  case measure => omega
                  case rel => exact ⟨j + 1, by omega, rfl, by rw [HS1.out, ← HT.out], by simpa using HIT.out, below_drewN HBJ.out _⟩
                · have hje : j = S.size := by omega
                  subst hje
                  have hnx : ∀ ty, (Instr.next (.pointer (some ⟨wv.heap.size, 0, none⟩)) true ty).run Try.prog wr = _ := fun ty => Lib.run_next_end_at wr wv.heap.size S S.size ty hit (by omega)
                  have hown := owns_below HOWN.out HBI.out hbs
                  have HBW := hid (HB.out.trans (HBI.out.mono (Nat.le_of_lt hbs)))
                  have hF100 : ∀ x ∈ F, x < 100 := fun x hx => by have := HFO.out.2 x hx; omega
                  have hask := B.ask_bool hown lawStr Try.underlying59 Try.underlying4 (zeroBool wr) HH.out hF100 HKEY.out
                  have hmc := B.memN_code HFO.out A HA.out
                  have hfe := HFE.out
                  have hr1 := HR1.out
                  rw [hmc] at hr1
                  rw [hfe]
                  cases hmem : B.memL F A with
                  | true =>
                    rw [hmem] at hask hr1
                    rw [cond_true] at hr1
                    have HR2 := hid hr1
                    have HOW := hid hown
                    clear hmc hr1 hmem hown hfe
                    go_wp2
                    go_roundw
                    case rel => exact ⟨x + 1, sm, m, A, D, by omega, by go_num, rfl, by omega, by omega, HOW.out, HOW.out.lt, HBW.out, HH, HA, by rw [HKK.out]; exact HR2⟩
                    case measure => simp [intOf]; omega
                  | false =>
                    rw [hmem] at hask hr1
                    rw [cond_false] at hr1
                    have HR2 := hid hr1
                    have HH2 := hid (B.holds_put HH.out hF100 hmem)
                    have hkey := HKEY.out
                    have HLT := hid hown.lt
                    have hmx2 : m < maxLen := by unfold maxLen; omega
                    have e1 : (L.toList != L.toList) = false := by simp
                    have e2 : (L.toList == L.toList) = true := by simp
                    clear hmc hr1 hmem hfe hF100
                    go_wp2_with (first
                      | (at_mapUpdate; refine wpList_mapUpdate_own _ rfl _ _ _ 59 rfl 9 4 lawStr Try.underlying59 (plainElem (H := Unit) Try.prog 4) bm m _ rfl hown hmx2 _ _ _ rfl rfl hkey _ [] (plainElem_bool Try.underlying4 true) ?_; intro w8 hown8 hgrow8)
                      | fail)
                    have HBM8 := hid (HBW.out.grown hgrow8 (Nat.le_of_lt HLT.out) (fun j hj => by cases hj; exact Nat.le_refl _))
                    have HOW8 := hid hown8
                    clear hown hown8 hgrow8 hask
                    refine (CFI.out _).mono ?_
                    rintro e w9 ⟨rfl, b9⟩
                    have HOW9 := hid (owns_below HOW8.out b9 HOW8.out.lt)
                    have HBM9 := hid (HBM8.out.trans (b9.mono (Nat.le_of_lt HOW8.out.lt)))
                    clear b9
                    go_wp2_with fail
                    refine (CRT.out _).mono ?_
                    rintro e w10 ⟨rfl, b10⟩
                    have HOW10 := hid (owns_below HOW9.out b10 HOW9.out.lt)
                    have HBM10 := hid (HBM9.out.trans (b10.mono (Nat.le_of_lt HOW9.out.lt)))
                    clear b10
                    go_wp2
                    go_roundw
                    case rel => exact ⟨x + 1, sm + rn, m + 1, F :: A, _, by omega, by go_num, by go_num, by omega, by omega, HOW10.out, HOW10.out.lt, HBM10.out, HH2, hid (fun U hU => by
                      rcases List.mem_cons.1 hU with rfl | h
                      · exact HFO.out
                      · exact HA.out U h), by rw [HKK.out]; exact HR2⟩
                    case measure => simp [intOf]; omega
        · have hxc : x = c := by omega
          subst hxc
          have hr := HR.out
          rw [Nat.sub_self, B.runC] at hr
          obtain ⟨h1, h2⟩ := B.and2 hr
          have hAr : A.length = r := by simpa using h1
          have hsc : sm = x := Nat.eq_of_beq_eq_true h2
          subst hsc
          rw [List.length_map] at h1
          go_wp2_with fail
          refine (KR.out _).mono ?_
          rintro e w6 ⟨rfl, b6⟩
          have hown6 := owns_below HOWN.out b6 HOWN.out.lt
          have HBM6 := hid (HB.out.trans (b6.mono (Nat.le_of_lt HOWN.out.lt)))
          have hlen := fun ty => hown6.len Try.underlying59 ty
          rw [HH.out.size, hAr] at hlen
          have h23 := HB2.out.trans (H3.out.mono HB2.out.size)
          have H7 := hid (h23.trans (HBM6.out.mono (by have := h23.size; have := HBMS.out; omega)))
          clear h23
          clear b6 hown6 hr h1 h2
          have KW := hid (works_any w6 (HM.out.stays H7.out))
          go_wp2_with fail
          refine KW.out.mono ?_
          rintro e w7 ⟨rfl, b7⟩
          have H8 := hid (H7.out.trans (b7.mono H7.out.size))
          clear b7
          go_wp2
          go_ret
          exact ⟨rfl, H8.out⟩
end Go.Proofs.Ytiodcgdjphmffaa
