/- The walk of the closure of SerialNoticed: what it does with one code. -/
import Derived.Test.YtlpdlnefgjmgmaaSpotMap
import Derived.Test.YtlpdlnefgjmgmaaNot
import Derived.Test.YtlpdlnefgjmgmaaEnds
import Derived.BigQuiet
import Derived.Deep.QuietTactic
import Derived.Deep.DeepCutAuto
import Derived.Deep.RegionHeld3
import Derived.StillTailTactics
namespace Go.Proofs.Ytlpdlnefgjmgmaa
open Go.RowKit

theorem clo_cells {W : World} {b off : Nat} {xs : List Int} (h : RdI W (some ⟨b, off, none⟩) xs) (o : Obj) :
    ∀ j u, (xs.map (Value.int .i64))[j]? = some u → (W.alloc o).cell? ((⟨b, off, none⟩ : Addr).add j) = some u := by
  intro j u hj
  have hjn : j < xs.length := by
    have := (List.getElem?_eq_some_iff.1 hj).1
    simpa using this
  obtain ⟨b', off', he, hc⟩ := h j hjn
  simp only [Option.some.injEq, Addr.mk.injEq, and_true] at he
  obtain ⟨rfl, rfl⟩ := he
  rw [Addr.add_lit]
  refine Lib.cell?_alloc_some _ ?_
  rw [hc]
  simpa [hjn] using hj

theorem clo_take {w : World} {r : Option Addr} {xs : List Int} (h : RdI w r xs) (k : Nat) : RdI w r (xs.take k) := fun j hj => by
  have hj' : j < k ∧ j < xs.length := by simpa [List.length_take, Nat.lt_min] using hj
  obtain ⟨b, off, he, hc⟩ := h j hj'.2
  exact ⟨b, off, he, by rw [List.getElem_take]; exact hc⟩

theorem clo_right (a ad : Option Addr) (c cd n : Nat) (T : List (List Int)) (xs : List Int) (w : World) (hm : xs.length = n) (h2 : 2 ≤ n) (hn : n ≤ 12) (hT : RdM w a T) (ht : Tab T) (hx : RdI w ad xs) (hd : Dg T.length xs) :
    Calls Try.prog 13 #[.slice a T.length c, .slice ad n cd] w fun e w' => e = .returned (.int .i64 (if P.after T xs = 0 then 0 else 13)) ∧ Below w.heap.size w w' := by
  subst hm
  have h := right_any a ad c cd T xs w (by unfold maxLen; omega) hT hx
  rw [ht.right_iff h2 hn hd] at h
  exact h

theorem clo_ends (a ad : Option Addr) (c cd n : Nat) (T : List (List Int)) (xs : List Int) (w : World) (hm : xs.length = n) (hn : n ≤ 12) (hT : RdM w a T) (ht : Tab T) (hx : RdI w ad xs) (hd : Dg T.length xs) :
    Calls Try.prog 14 #[.slice a T.length c, .slice ad n cd] w fun e w' => e = .returned (.int .i64 (P.after T xs : Nat)) ∧ w' = w := by
  subst hm
  exact (ends_any a ad c cd T xs w (by unfold maxLen; omega) hT ht.sq (by have := ht.lo; omega) hx hd).mono fun _ _ ⟨h1, h2⟩ => ⟨h1, h2.symm⟩

set_option maxHeartbeats 40000000 in
set_option maxRecDepth 100000 in
theorem noticed1_any (a : Option Addr) (c bt bn mtb mbb mt mb nt nb : Nat) (T : List (List Int)) (ht : Tab T) (h5 : T.length ≤ 5) (r : Option Addr) (cr : Nat) (C : List Int) (h2 : 2 ≤ C.length) (h3 : C.length ≤ 3) (hd : Dg T.length C) (w : World)
    (hT : RdM w a T) (hr : RdI w r C) (hcr : C.length ≤ cr) (x1 : w.cell? ⟨bt, 0, none⟩ = some (.slice a T.length c)) (x2 : w.cell? ⟨bn, 0, none⟩ = some (.int .i64 (T.length : Nat))) (x3 : w.cell? ⟨mtb, 0, none⟩ = some (.map (some mt))) (x4 : w.cell? ⟨mbb, 0, none⟩ = some (.map (some mb)))
    (m1 : ∃ f, SpotMap w mt nt f ∧ ∀ s x y, s < T.length → x < y → y < T.length → f s x y = P.twinAt T s x y) (m2 : ∃ f, SpotMap w mb nb f ∧ ∀ s x y, s < T.length → x < y → y < T.length → f s x y = P.blindAt T s x y) :
    Calls Try.prog 12 #[.slice r C.length cr, .pointer (some ⟨bt, 0, none⟩), .pointer (some ⟨bn, 0, none⟩), .pointer (some ⟨mtb, 0, none⟩), .pointer (some ⟨mbb, 0, none⟩)] w
      fun e w' => e = .returned (.bool true) ∧ Below w.heap.size w w' := by
  obtain ⟨i0, hi, hz0, hz1, hz2⟩ := info_parts (show (Try.prog.info? 3).map (fun i => (i.zero, i.size, i.bytes)) = some (some (.int .i64 0), 1, 8) by kernel_rfl)
  have hlo := ht.lo
  have HRT := hid (fun w' (hb : Below w.heap.size w w') => clo_right a r c cr C.length T C w' rfl h2 (by omega) (hT.stays hb) ht (hr.stays hb) hd)
  have HEN := hid (fun w' (hb : Below w.heap.size w w') => clo_ends a r c cr C.length T C w' rfl (by omega) (hT.stays hb) ht (hr.stays hb) hd)
  have HX1 := hid (fun w' (hb : Below w.heap.size w w') => cell_stays hb (Nat.le_refl _) x1)
  have HX2 := hid (fun w' (hb : Below w.heap.size w w') => cell_stays hb (Nat.le_refl _) x2)
  have HX3 := hid (fun w' (hb : Below w.heap.size w w') => cell_stays hb (Nat.le_refl _) x3)
  have HX4 := hid (fun w' (hb : Below w.heap.size w w') => cell_stays hb (Nat.le_refl _) x4)
  have HT := hid hT
  have HR := hid hr
  have HTA := hid ht
  have HDG := hid hd
  have HM1 := hid m1
  have HM2 := hid m2
  clear hT hr ht hd m1 m2 x2 x3 x4
  by_cases hE : P.after T C = 0
  · have HE0 := hid hE
    simp only [hE, if_pos] at HRT HEN
    have t0 : ((0 : Int) == 0) = true := rfl
    go_enter Try.func12, Try.ntmps12
    go_wp2_with fail
    go_region_held3 (fun w' => w'.cell? ⟨bt, 0, none⟩ = some (.slice a T.length c)) (first | exact p1 | exact x1 | go_keep) (first | (go_at_call 13; (with_reducible refine (HRT.out _ (Below.refl w.heap.size w).drew).mono ?_); rintro e w2 ⟨rfl, hb2⟩; have hbx : Below w.heap.size w w2 := (Below.refl w.heap.size w).drew.trans hb2; have p1 := HX1.out w2 hbx; have HX := hid hbx; clear hb2 hbx) | (go_at_call 14; (with_reducible refine (HEN.out _ HX.out).mono ?_); rintro e w3 ⟨rfl, rfl⟩))
    go_wp2_with fail
    refine (HEN.out _ HX.out).mono ?_
    rintro e w' ⟨rfl, rfl⟩
    clear HRT HEN x1 p1 hE
    have HXX := hid HX.out
    clear HX
    go_wp2_with fail
    go_loopw [28] (fun i wr => ∃ k : Nat, k ≤ C.length ∧ i = .int .i64 k ∧ Below w.heap.size w wr) (fun i _ => C.length - (intOf i).toNat)
    case atStart => exact ⟨0, Nat.zero_le _, rfl, HXX.out⟩
    case round => as_aux_lemma =>
      clear HXX
      obtain ⟨k, hk, rfl, hb⟩ := hrel
      have HBR := hid hb
      clear hb
      by_cases hkl : k < C.length
      · obtain ⟨b, off, rfl, hck⟩ := HR.out k hkl
        have hdk := HDG.out k hkl
        obtain ⟨x, hxe⟩ := Int.eq_ofNat_of_zero_le hdk.1
        have hxn : x < T.length := by omega
        have HXE : Hid (C[k]? = some (x : Int)) := hid (by rw [List.getElem?_eq_getElem hkl, hxe])
        rw [hxe] at hck
        have HCK := hid (fun w' (hb : Below w.heap.size w w') => cell_stays hb (Nat.le_refl _) hck)
        clear hck hdk hxe
        go_wp2
        obtain ⟨wo, rfl⟩ : ∃ wo : World, wo = wr := ⟨_, rfl⟩
        go_loopw [8] (fun d wr => ∃ d' : Nat, d' ≤ T.length ∧ d = .int .i64 d' ∧ Below w.heap.size w wr) (fun d _ => T.length - (intOf d).toNat)
        case atStart => exact ⟨0, Nat.zero_le _, rfl, HBR.out⟩
        case round => as_aux_lemma =>
          clear HBR
          obtain ⟨d, hd, rfl, hb⟩ := hrel
          have y2 := HX2.out wr hb
          have HBR := hid hb
          clear hb
          by_cases hdl : d < T.length
          · have HRr := hid (HR.out.stays HBR.out)
            go_wp2_with (at_builtin; refine wpList_append_own _ rfl _ _ 35 rfl wr.heap.size 3 i0 (.int .i64 0) 1 8 Try.underlying35 hi hz0 hz1 hz2 rfl (by decide) _ _ _ rfl (World.ownsRow_made wr #[] 0 (Nat.le_refl _) (Nat.zero_le _) rfl) ⟨b, off, none⟩ C.length cr (C.map (Value.int .i64)) rfl ?qc1 ?qc2 ?qc3 ?qc4 ?qc5 ?qc6 ?_)
            case qc1 => simp
            case qc2 => exact clo_cells HRr.out _
            case qc3 => intro u hu; obtain ⟨x, _, rfl⟩ := List.mem_map.1 hu; rfl
            case qc4 => unfold maxLen; omega
            case qc5 => omega
            case qc6 => simp
            intro v' w4 hown hgrow hnil
            have hown2 : w4.ownsRow wr.heap.size 3 1 v' C.length (C.map (Value.int .i64)) := by simpa using hown
            obtain ⟨g, cap, rfl, ho⟩ := OwnI.of_row hown2 (by omega)
            have HO_w4 := hid ho
            clear ho hown hown2 hnil
            have HC_w4 := hid (((Below.refl _ wr).alloc (Nat.le_refl _) _).grown hgrow (by simp) (by intro k hk; simp [Value.ownBlock] at hk; omega))
            clear hgrow
            obtain ⟨b', off', he, hcg⟩ := HO_w4.out.rd k hkl
            simp only [Option.some.injEq, Addr.mk.injEq, and_true] at he
            obtain ⟨rfl, rfl⟩ := he
            rw [Nat.zero_add] at hcg
            have hfg := World.ownsRow.frozenAt HO_w4.out k
            have HO5 := hid (HO_w4.out.set k (d : Int))
            have hg4 : wr.heap.size ≤ g := HO_w4.out.base.1
            have HB5 := hid ((HBR.out.trans (HC_w4.out.mono HBR.out.size)).setCell (p := ⟨g, k, none⟩) (Nat.le_trans HBR.out.size hg4) (.int .i64 (d : Nat)))
            clear HO_w4 HC_w4 y2 HRr
            go_upto_region 13 with fail
            clear hcg hfg
            generalize w4.setCell ⟨g, k, none⟩ (.int .i64 (d : Nat)) = w5 at *
            have HD5 := hid (HDG.out.set k hdl)
            have HR13 := hid (fun w' (hb : Below w5.heap.size w5 w') => clo_right a (some ⟨g, 0, none⟩) c cap C.length T (C.set k (d : Int)) w' (by simp) h2 (by omega) (HT.out.stays (HB5.out.trans (hb.mono HB5.out.size))) HTA.out (HO5.out.rd.stays hb) HD5.out)
            have HK13 := hid (fun w' (hb : Below w5.heap.size w5 w') => (⟨HX1.out w' (HB5.out.trans (hb.mono HB5.out.size)), HCK.out w' (HB5.out.trans (hb.mono HB5.out.size))⟩ : _ ∧ _))
            have HOW := hid (HTA.out.one_wrong HDG.out HE0.out hkl HXE.out hdl)
            obtain ⟨z1, z2⟩ := HK13.out w5 (Below.refl _ _)
            go_cut [53] (fun s53 wx => s53 = .bool false ∧ Below w5.heap.size w5 wx)
            case first => as_aux_lemma =>
              by_cases hdx : d = x
              · subst hdx
                simp only [HOW.out.2 rfl, if_pos] at HR13
                have t_d : ((d : Int) == (d : Int)) = true := by simp
                clear HOW
                go_region_held3 (fun w' => w'.cell? ⟨bt, 0, none⟩ = some (.slice a T.length c) ∧ w'.cell? ⟨b, off + k, none⟩ = some (.int .i64 (d : Nat))) (first | exact ⟨p1, p2⟩ | exact ⟨z1, z2⟩ | go_keep) (first | (go_at_call 13; (with_reducible refine (HR13.out _ (Below.refl w5.heap.size w5).drew).mono ?_); rintro e w6 ⟨rfl, hb6⟩; have hbx : Below w5.heap.size w5 w6 := (Below.refl w5.heap.size w5).drew.trans hb6; obtain ⟨p1, p2⟩ := HK13.out w6 hbx; have HX6 := hid hbx; clear hb6 hbx))
                go_wp2
                go_meet
                exact ⟨rfl, HX6.out⟩
              · have hne : ¬ P.after T (C.set k (d : Int)) = 0 := fun e => hdx (HOW.out.1 e)
                simp only [if_neg hne] at HR13
                have t_d : ((d : Int) == (x : Int)) = false := by simp; omega
                have hdx2 : ¬ (d : Int) = (x : Int) := by omega
                clear HOW hdx hne
                go_region_held3 (fun w' => w'.cell? ⟨bt, 0, none⟩ = some (.slice a T.length c) ∧ w'.cell? ⟨b, off + k, none⟩ = some (.int .i64 (x : Nat))) (first | exact ⟨p1, p2⟩ | exact ⟨z1, z2⟩ | go_keep) (first | (go_at_call 13; (with_reducible refine (HR13.out _ (Below.refl w5.heap.size w5).drew).mono ?_); rintro e w6 ⟨rfl, hb6⟩; have hbx : Below w5.heap.size w5 w6 := (Below.refl w5.heap.size w5).drew.trans hb6; obtain ⟨p1, p2⟩ := HK13.out w6 hbx; have HX6 := hid hbx; clear hb6 hbx))
                go_wp2
                go_meet
                exact ⟨by first | rfl | simp [hdx2], HX6.out⟩
            case rest => as_aux_lemma =>
              obtain ⟨rfl, hb6⟩ := hcut
              have HB6 := hid (HB5.out.trans (hb6.mono HB5.out.size))
              have HO6 := hid (HO5.out.stays hb6)
              clear hb6 HR13 HK13 HOW HO5 z1 z2
              have z0 := HCK.out wc HB6.out
              go_upto_region 15 with fail
              go_cut [78] (fun s78 wx => s78 = .bool (decide (k + 1 < C.length ∧ C[k + 1]? = some (x : Int) ∧ d ≠ x)) ∧ ∃ n, wx = wc.drewN n)
              case first => as_aux_lemma =>
                by_cases hk1 : k + 1 < C.length
                · have hk1i : (k : Int) + 1 < (C.length : Int) := by omega
                  obtain ⟨b', off', he, hcy⟩ := HR.out (k + 1) hk1
                  simp only [Option.some.injEq, Addr.mk.injEq, and_true] at he
                  obtain ⟨rfl, rfl⟩ := he
                  have hcy2 := cell_stays HB6.out (Nat.le_refl _) hcy
                  have hyk := HDG.out (k + 1) hk1
                  obtain ⟨y, hye⟩ := Int.eq_ofNat_of_zero_le hyk.1
                  rw [hye] at hcy2
                  have HYE : Hid (C[k + 1]? = some (y : Int)) := hid (by rw [List.getElem?_eq_getElem hk1, hye])
                  have hkp : ((k : Int) + 1).toNat = k + 1 := by omega
                  clear hcy hye hyk
                  by_cases hxy : y = x
                  · subst hxy
                    have t_y : ((y : Int) == (y : Int)) = true := by simp
                    by_cases hdx : d = y
                    · subst hdx
                      go_quiet (fail)
                      go_wp2
                      go_meet
                      exact ⟨by rw [HYE.out]; simp, _, rfl⟩
                    · have t_d : ((d : Int) == (y : Int)) = false := by simp; omega
                      have HDX := hid hdx
                      clear hdx
                      go_quiet (fail)
                      go_wp2
                      go_meet
                      exact ⟨by have h := HDX.out; have hd2 : decide (k + 1 < C.length ∧ C[k + 1]? = some (y : Int) ∧ d ≠ y) = true := decide_eq_true ⟨hk1, HYE.out, h⟩; rw [hd2]; first | rfl | (simp; omega), _, rfl⟩
                  · have t_y : ((x : Int) == (y : Int)) = false := by simp; omega
                    have HXY := hid hxy
                    clear hxy
                    go_quiet (fail)
                    go_wp2
                    go_meet
                    exact ⟨by rw [HYE.out]; have := HXY.out; simp; omega, _, rfl⟩
                · have hk2 : decide (k + 1 < C.length) = false := by simpa using hk1
                  have hk3 : decide ((k : Int) + 1 < (C.length : Int)) = false := by simp; omega
                  have HK1 := hid hk1
                  clear hk1
                  go_quiet (fail)
                  go_wp2
                  go_meet
                  exact ⟨by simp [HK1.out], _, rfl⟩
              case rest => as_aux_lemma =>
                obtain ⟨rfl, n78, rfl⟩ := hcut
                have HB7 := hid (show Below w.heap.size w (wc.drewN n78) from below_same HB6.out ⟨rfl, rfl, rfl, rfl⟩)
                have HO7 := hid (HO6.out.drewN n78)
                clear HB6 HO6 z0
                generalize wc.drewN n78 = w7 at *
                by_cases hcond : k + 1 < C.length ∧ C[k + 1]? = some (x : Int) ∧ d ≠ x
                · rw [decide_eq_true hcond]
                  obtain ⟨hk1, hY, hdx⟩ := hcond
                  have HY := hid hY
                  have HDX := hid hdx
                  clear hY hdx
                  obtain ⟨b', off', he, hcg⟩ := HO7.out.rd (k + 1) (by simpa using hk1)
                  simp only [Option.some.injEq, Addr.mk.injEq, and_true] at he
                  obtain ⟨rfl, rfl⟩ := he
                  rw [Nat.zero_add] at hcg
                  have hfg := World.ownsRow.frozenAt HO7.out (k + 1)
                  have HO8 := hid (HO7.out.set (k + 1) (d : Int))
                  have HB8 := hid (HB7.out.setCell (p := ⟨g, k + 1, none⟩) (Nat.le_trans HBR.out.size hg4) (.int .i64 (d : Nat)))
                  clear HO7 HB7
                  have hk1i : (k : Int) + 1 < (C.length : Int) := by omega
                  go_upto_region 17 with fail
                  clear hcg hfg
                  generalize w7.setCell ⟨g, k + 1, none⟩ (.int .i64 (d : Nat)) = w8 at *
                  have HE17 := hid (fun w' (hb : Below w.heap.size w w') => clo_ends a (some ⟨b, off, none⟩) c cr k T (C.take k) w' (by rw [List.length_take]; omega) (by omega) (HT.out.stays hb) HTA.out (clo_take (HR.out.stays hb) k) (HDG.out.take k))
                  have HTW := hid (HTA.out.twin_wrong HDG.out HE0.out hk1 HXE.out HY.out hdl)
                  have hsl := HTA.out.sq.after_lt (show 0 < T.length by omega) _ (HDG.out.take k)
                  generalize P.after T (C.take k) = s at *
                  have z1 := HX1.out w8 HB8.out
                  have z2 := HCK.out w8 HB8.out
                  have n1 := World.new_ne w8 _ z1
                  have n2 := World.new_ne w8 _ z2
                  have HB9 := hid (HB8.out.drew)
                  have hkc : k ≤ cr := by omega
                  obtain ⟨mn, hmn⟩ : ∃ mn : Nat, mn = min d x := ⟨_, rfl⟩
                  obtain ⟨mx, hmx⟩ : ∃ mx : Nat, mx = max d x := ⟨_, rfl⟩
                  have hmin : (if (x : Int) < (d : Int) then (x : Int) else (d : Int)) = (mn : Int) := by split <;> omega
                  have hmax : (if (d : Int) < (x : Int) then (x : Int) else (d : Int)) = (mx : Int) := by split <;> omega
                  have hmax2 : (if (x : Int) < (d : Int) then (d : Int) else (x : Int)) = (mx : Int) := by split <;> omega
                  have hminN : (if x < d then (x : Int) else (d : Int)) = (mn : Int) := by split <;> omega
                  have hmaxN : (if d < x then (x : Int) else (d : Int)) = (mx : Int) := by split <;> omega
                  have hmaxN2 : (if x < d then (d : Int) else (x : Int)) = (mx : Int) := by split <;> omega
                  have HMN := hid hmn
                  have HMX := hid hmx
                  clear hmn hmx
                  go_cut [10] (fun s10 wx => s10 = .pointer (some ⟨w8.heap.size, 0, none⟩) ∧ wx = (w8.alloc (.cells #[.int .i64 (s : Nat), .int .i64 (mn : Nat), .int .i64 (mx : Nat)] 33)).drew)
                  case first => as_aux_lemma =>
                    go_region_held3 (fun w' => w'.cell? ⟨bt, 0, none⟩ = some (.slice a T.length c) ∧ w'.cell? ⟨b, off + k, none⟩ = some (.int .i64 (x : Nat))) (first | exact ⟨z1, z2⟩ | go_keep) (first | (go_at_call 14; (with_reducible refine (HE17.out _ (by first | exact HB9.out | exact (HB8.out.alloc HB8.out.size _).drew)).mono ?_); rintro e w9 ⟨rfl, rfl⟩))
                    all_goals (try go_wp2)
                    all_goals go_meet
                    all_goals exact ⟨rfl, rfl⟩
                  case rest => as_aux_lemma =>
                    obtain ⟨rfl, rfl⟩ := hcut
                    clear hmin hmax hmax2 hminN hmaxN hmaxN2
                    have HNE := HDX
                    have hb10 : Below w8.heap.size w8 (w8.alloc (.cells #[.int .i64 (s : Nat), .int .i64 (mn : Nat), .int .i64 (mx : Nat)] 33)).drew := ((Below.refl _ w8).alloc (Nat.le_refl _) _).drew
                    have HB10 := hid (HB8.out.trans (hb10.mono HB8.out.size))
                    have HO10 := hid (HO8.out.stays hb10)
                    have c0 : (w8.alloc (.cells #[.int .i64 (s : Nat), .int .i64 (mn : Nat), .int .i64 (mx : Nat)] 33)).drew.cell? ⟨w8.heap.size, 0, none⟩ = some (.int .i64 (s : Nat)) := by
                      show (w8.alloc _).cell? _ = _
                      rw [World.cell?_alloc_at _ _ _ _ rfl]; rfl
                    have c1 : (w8.alloc (.cells #[.int .i64 (s : Nat), .int .i64 (mn : Nat), .int .i64 (mx : Nat)] 33)).drew.cell? ⟨w8.heap.size, 1, none⟩ = some (.int .i64 (mn : Nat)) := by
                      show (w8.alloc _).cell? _ = _
                      rw [World.cell?_alloc_at _ _ _ _ rfl]; rfl
                    have c2 : (w8.alloc (.cells #[.int .i64 (s : Nat), .int .i64 (mn : Nat), .int .i64 (mx : Nat)] 33)).drew.cell? ⟨w8.heap.size, 2, none⟩ = some (.int .i64 (mx : Nat)) := by
                      show (w8.alloc _).cell? _ = _
                      rw [World.cell?_alloc_at _ _ _ _ rfl]; rfl
                    clear hb10 HB8 HO8 z1 z2 n1 n2 HB9
                    generalize (w8.alloc (.cells #[.int .i64 (s : Nat), .int .i64 (mn : Nat), .int .i64 (mx : Nat)] 33)).drew = w10 at *
                    generalize w8.heap.size = X at *
                    have hmm : mn < mx ∧ mx < T.length := by have h1 := HMN.out; have h2 := HMX.out; have h3 := HNE.out; omega
                    obtain ⟨fm, hfm, hfe⟩ := HM1.out
                    have hfv := hfe s mn mx hsl hmm.1 hmm.2
                    have HLK := hid (fun w' (hb : Below w10.heap.size w10 w') => (hfm.stays (HB10.out.trans (hb.mono HB10.out.size))).look (s := s) (a := mn) (c := mx) (by omega) (by omega) (by omega))
                    rw [hfv] at HLK
                    have HR18 := hid (fun w' (hb : Below w10.heap.size w10 w') => clo_right a (some ⟨g, 0, none⟩) c cap C.length T ((C.set k (d : Int)).set (k + 1) (d : Int)) w' (by simp) h2 (by omega) (HT.out.stays (HB10.out.trans (hb.mono HB10.out.size))) HTA.out (HO10.out.rd.stays hb) ((HDG.out.set k hdl).set (k + 1) hdl))
                    have HK18 := hid (fun w' (hb : Below w10.heap.size w10 w') => (⟨HX1.out w' (HB10.out.trans (hb.mono HB10.out.size)), HX3.out w' (HB10.out.trans (hb.mono HB10.out.size)), cell_stays hb (Nat.le_refl _) c0, cell_stays hb (Nat.le_refl _) c1, cell_stays hb (Nat.le_refl _) c2, HLK.out w' hb⟩ : _ ∧ _ ∧ _ ∧ _ ∧ _ ∧ _))
                    have HTW2 : Hid (P.after T ((C.set k (d : Int)).set (k + 1) (d : Int)) = 0 ↔ P.twinAt T s mn mx = true) := hid (by rw [HMN.out, HMX.out]; exact HTW.out)
                    clear c0 c1 c2 hfm hfe hfv HLK hsl hmm HTW HMN HMX HO10
                    obtain ⟨z1, z2, z3, z4, z5, z6⟩ := HK18.out w10.drew (Below.refl w10.heap.size w10).drew
                    generalize P.twinAt T s mn mx = pb at *
                    go_upto_region 18 with fail
                    go_cut [109] (fun s109 wx => s109 = .bool false ∧ Below w10.heap.size w10 wx)
                    case first => as_aux_lemma =>
                      have hpb : (P.after T ((C.set k (d : Int)).set (k + 1) (d : Int)) = 0 ∧ pb = true) ∨ (P.after T ((C.set k (d : Int)).set (k + 1) (d : Int)) ≠ 0 ∧ pb = false) := by
                        by_cases h : P.after T ((C.set k (d : Int)).set (k + 1) (d : Int)) = 0
                        · exact Or.inl ⟨h, HTW2.out.1 h⟩
                        · exact Or.inr ⟨h, by
                            cases hp : pb
                            · rfl
                            · exact absurd (HTW2.out.2 hp) h⟩
                      rcases hpb with ⟨e1, e2⟩ | ⟨e1, e2⟩
                      · simp only [e1, if_pos] at HR18
                        subst e2
                        clear HTW2
                        go_region_held3 (fun w' => w'.cell? ⟨bt, 0, none⟩ = some (.slice a T.length c) ∧ w'.cell? ⟨mtb, 0, none⟩ = some (.map (some mt)) ∧ w'.cell? ⟨X, 0, none⟩ = some (.int .i64 (s : Nat)) ∧ w'.cell? ⟨X, 1, none⟩ = some (.int .i64 (mn : Nat)) ∧ w'.cell? ⟨X, 2, none⟩ = some (.int .i64 (mx : Nat)) ∧ (Instr.lookup 31 (.map (some mt)) (.agg #[.int .i64 (s : Nat), .int .i64 (mn : Nat), .int .i64 (mx : Nat)]) false).run Try.prog w' = .ok (.bool true) w') (first | exact ⟨p1, p2, p3, p4, p5, p6⟩ | exact ⟨z1, z2, z3, z4, z5, z6⟩ | go_keep) (first | (go_at_call 13; (with_reducible refine (HR18.out _ (Below.refl w10.heap.size w10).drew).mono ?_); rintro e w12 ⟨rfl, hb12⟩; have hbx : Below w10.heap.size w10 w12 := (Below.refl w10.heap.size w10).drew.trans hb12; obtain ⟨p1, p2, p3, p4, p5, p6⟩ := HK18.out w12 hbx; have HX6 := hid hbx; clear hb12 hbx))
                        all_goals (try go_wp2)
                        all_goals go_meet
                        all_goals exact ⟨rfl, HX6.out⟩
                      · simp only [if_neg e1] at HR18
                        subst e2
                        clear HTW2 e1
                        go_region_held3 (fun w' => w'.cell? ⟨bt, 0, none⟩ = some (.slice a T.length c) ∧ w'.cell? ⟨mtb, 0, none⟩ = some (.map (some mt)) ∧ w'.cell? ⟨X, 0, none⟩ = some (.int .i64 (s : Nat)) ∧ w'.cell? ⟨X, 1, none⟩ = some (.int .i64 (mn : Nat)) ∧ w'.cell? ⟨X, 2, none⟩ = some (.int .i64 (mx : Nat)) ∧ (Instr.lookup 31 (.map (some mt)) (.agg #[.int .i64 (s : Nat), .int .i64 (mn : Nat), .int .i64 (mx : Nat)]) false).run Try.prog w' = .ok (.bool false) w') (first | exact ⟨p1, p2, p3, p4, p5, p6⟩ | exact ⟨z1, z2, z3, z4, z5, z6⟩ | go_keep) (first | (go_at_call 13; (with_reducible refine (HR18.out _ (Below.refl w10.heap.size w10).drew).mono ?_); rintro e w12 ⟨rfl, hb12⟩; have hbx : Below w10.heap.size w10 w12 := (Below.refl w10.heap.size w10).drew.trans hb12; obtain ⟨p1, p2, p3, p4, p5, p6⟩ := HK18.out w12 hbx; have HX6 := hid hbx; clear hb12 hbx))
                        all_goals (try go_wp2)
                        all_goals go_meet
                        all_goals exact ⟨rfl, HX6.out⟩
                    case rest => as_aux_lemma =>
                      obtain ⟨rfl, hb11⟩ := hcut
                      have HB11 := hid (HB10.out.trans (hb11.mono HB10.out.size))
                      clear hb11 HR18 HK18 HTW2 z1 z2 z3 z4 z5 z6 HB10
                      go_wp2
                      go_roundw
                      case rel => exact ⟨d + 1, by omega, by go_num, HB11.out⟩
                      case measure => simp [intOf]; omega
                · rw [decide_eq_false hcond]
                  go_wp2
                  go_roundw
                  case rel => exact ⟨d + 1, by omega, by go_num, HB7.out⟩
                  case measure => simp [intOf]; omega
          · have hde : d = T.length := by omega
            subst hde
            have z0 := HCK.out wr HBR.out
            go_upto_region 20 with fail
            go_cut [126] (fun s126 wx => s126 = .bool (decide (k + 1 < C.length ∧ C[k + 1]? ≠ some (x : Int))) ∧ ∃ n, wx = wr.drewN n)
            case first => as_aux_lemma =>
              by_cases hk1 : k + 1 < C.length
              · have hk1i : (k : Int) + 1 < (C.length : Int) := by omega
                obtain ⟨b', off', he, hcy⟩ := HR.out (k + 1) hk1
                simp only [Option.some.injEq, Addr.mk.injEq, and_true] at he
                obtain ⟨rfl, rfl⟩ := he
                have hcy2 := cell_stays HBR.out (Nat.le_refl _) hcy
                have hyk := HDG.out (k + 1) hk1
                obtain ⟨y, hye⟩ := Int.eq_ofNat_of_zero_le hyk.1
                rw [hye] at hcy2
                have HYE : Hid (C[k + 1]? = some (y : Int)) := hid (by rw [List.getElem?_eq_getElem hk1, hye])
                have hkp : ((k : Int) + 1).toNat = k + 1 := by omega
                clear hcy hye hyk
                by_cases hxy : y = x
                · subst hxy
                  have t_y : ((y : Int) == (y : Int)) = true := by simp
                  go_quiet (fail)
                  go_wp2
                  go_meet
                  exact ⟨by rw [HYE.out]; simp, _, rfl⟩
                · have t_y : ((x : Int) == (y : Int)) = false := by simp; omega
                  have hdc : decide (k + 1 < C.length ∧ C[k + 1]? ≠ some (x : Int)) = true := decide_eq_true ⟨hk1, by rw [HYE.out]; simp; omega⟩
                  have HDC := hid hdc
                  have HXY := hid hxy
                  clear hxy hdc
                  go_quiet (fail)
                  go_wp2
                  go_meet
                  exact ⟨by rw [HDC.out]; have := HXY.out; first | rfl | (simp; omega), _, rfl⟩
              · have hk2 : decide (k + 1 < C.length) = false := by simpa using hk1
                have hk3 : decide ((k : Int) + 1 < (C.length : Int)) = false := by simp; omega
                have HK1 := hid hk1
                clear hk1
                go_quiet (fail)
                go_wp2
                go_meet
                exact ⟨by simp [HK1.out], _, rfl⟩
            case rest => as_aux_lemma =>
              obtain ⟨rfl, n126, rfl⟩ := hcut
              have HB7 := hid (show Below w.heap.size w (wr.drewN n126) from below_same HBR.out ⟨rfl, rfl, rfl, rfl⟩)
              clear HBR z0 y2
              generalize wr.drewN n126 = w7 at *
              by_cases hcond : k + 1 < C.length ∧ C[k + 1]? ≠ some (x : Int)
              · rw [decide_eq_true hcond]
                obtain ⟨hk1, hYn⟩ := hcond
                obtain ⟨b', off', he, hcy⟩ := HR.out (k + 1) hk1
                simp only [Option.some.injEq, Addr.mk.injEq, and_true] at he
                obtain ⟨rfl, rfl⟩ := he
                have hyk := HDG.out (k + 1) hk1
                obtain ⟨y, hye⟩ := Int.eq_ofNat_of_zero_le hyk.1
                have hyn : y < T.length := by omega
                rw [hye] at hcy
                have HY : Hid (C[k + 1]? = some (y : Int)) := hid (by rw [List.getElem?_eq_getElem hk1, hye])
                have HNE : Hid (x ≠ y) := hid (fun e => hYn (by rw [HY.out, e]))
                have HCY := hid (fun w' (hb : Below w.heap.size w w') => cell_stays hb (Nat.le_refl _) hcy)
                clear hcy hye hyk hYn
                have hk1i : (k : Int) + 1 < (C.length : Int) := by omega
                have HRr := hid (HR.out.stays HB7.out)
                go_wp2_with (at_builtin; refine wpList_append_own _ rfl _ _ 35 rfl w7.heap.size 3 i0 (.int .i64 0) 1 8 Try.underlying35 hi hz0 hz1 hz2 rfl (by decide) _ _ _ rfl (World.ownsRow_made w7 #[] 0 (Nat.le_refl _) (Nat.zero_le _) rfl) ⟨b, off, none⟩ C.length cr (C.map (Value.int .i64)) rfl ?qc1 ?qc2 ?qc3 ?qc4 ?qc5 ?qc6 ?_)
                case qc1 => simp
                case qc2 => exact clo_cells HRr.out _
                case qc3 => intro u hu; obtain ⟨x, _, rfl⟩ := List.mem_map.1 hu; rfl
                case qc4 => unfold maxLen; omega
                case qc5 => omega
                case qc6 => simp
                intro v' w4 hown hgrow hnil
                have hown2 : w4.ownsRow w7.heap.size 3 1 v' C.length (C.map (Value.int .i64)) := by simpa using hown
                obtain ⟨g, cap, rfl, ho⟩ := OwnI.of_row hown2 (by omega)
                have HO_w4 := hid ho
                clear ho hown hown2 hnil
                have HC_w4 := hid (((Below.refl _ w7).alloc (Nat.le_refl _) _).grown hgrow (by simp) (by intro k hk; simp [Value.ownBlock] at hk; omega))
                clear hgrow
                obtain ⟨b', off', he, hc0⟩ := HO_w4.out.rd k hkl
                simp only [Option.some.injEq, Addr.mk.injEq, and_true] at he
                obtain ⟨rfl, rfl⟩ := he
                obtain ⟨b', off', he, hc1⟩ := HO_w4.out.rd (k + 1) hk1
                simp only [Option.some.injEq, Addr.mk.injEq, and_true] at he
                obtain ⟨rfl, rfl⟩ := he
                have e0 : C[k] = (x : Int) := by have := HXE.out; rw [List.getElem?_eq_getElem hkl] at this; exact Option.some.inj this
                have e1 : C[k + 1] = (y : Int) := by have := HY.out; rw [List.getElem?_eq_getElem hk1] at this; exact Option.some.inj this
                rw [Nat.zero_add, e0] at hc0
                rw [Nat.zero_add, e1] at hc1
                have hf0 := World.ownsRow.frozenAt HO_w4.out k
                have hf1 := World.ownsRow.frozenAt HO_w4.out (k + 1)
                have hg4 : w7.heap.size ≤ g := HO_w4.out.base.1
                have hg5 : w.heap.size ≤ g := Nat.le_trans HB7.out.size hg4
                have HB4 := hid (HB7.out.trans (HC_w4.out.mono HB7.out.size))
                have HOS := hid (fun wx (hs : Same wx ((w4.setCell ⟨g, k, none⟩ (.int .i64 (y : Nat))).setCell ⟨g, k + 1, none⟩ (.int .i64 (x : Nat)))) => ((HO_w4.out.set k (y : Int)).set (k + 1) (x : Int)).same hs)
                have HBS := hid (fun wx (hs : Same wx ((w4.setCell ⟨g, k, none⟩ (.int .i64 (y : Nat))).setCell ⟨g, k + 1, none⟩ (.int .i64 (x : Nat)))) => below_same ((HB4.out.setCell (p := ⟨g, k, none⟩) hg5 (.int .i64 (y : Nat))).setCell (p := ⟨g, k + 1, none⟩) hg5 (.int .i64 (x : Nat))) hs)
                clear e0 e1 HO_w4 HC_w4 HRr HB7
                go_upto_region 22 with fail
                go_cut [145] (fun _ wx => Same wx ((w4.setCell ⟨g, k, none⟩ (.int .i64 (y : Nat))).setCell ⟨g, k + 1, none⟩ (.int .i64 (x : Nat))))
                case first => as_aux_lemma =>
                  clear HOS HBS HB4
                  go_region
                  all_goals (try go_wp2)
                  all_goals go_meet
                  all_goals exact ⟨rfl, rfl, rfl, rfl⟩
                case rest => as_aux_lemma =>
                  have HO8 := hid (HOS.out _ hcut)
                  have HB8 := hid (HBS.out _ hcut)
                  clear hcut HOS HBS HB4 hc0 hc1 hf0 hf1
                  obtain ⟨w8, rfl⟩ : ∃ w8 : World, w8 = wc := ⟨_, rfl⟩
                  have HE17 := hid (fun w' (hb : Below w.heap.size w w') => clo_ends a (some ⟨b, off, none⟩) c cr k T (C.take k) w' (by rw [List.length_take]; omega) (by omega) (HT.out.stays hb) HTA.out (clo_take (HR.out.stays hb) k) (HDG.out.take k))
                  have HTW := hid (HTA.out.swap_wrong HDG.out HE0.out hk1 HXE.out HY.out)
                  have hsl := HTA.out.sq.after_lt (show 0 < T.length by omega) _ (HDG.out.take k)
                  generalize P.after T (C.take k) = s at *
                  have z1 := HX1.out w8 HB8.out
                  have z2 := HCK.out w8 HB8.out
                  have z3 := HCY.out w8 HB8.out
                  have n1 := World.new_ne w8 _ z1
                  have n2 := World.new_ne w8 _ z2
                  have n3 := World.new_ne w8 _ z3
                  have HB9 := hid (HB8.out.drew)
                  have hkc : k ≤ cr := by omega
                  obtain ⟨mn, hmn⟩ : ∃ mn : Nat, mn = min x y := ⟨_, rfl⟩
                  obtain ⟨mx, hmx⟩ : ∃ mx : Nat, mx = max x y := ⟨_, rfl⟩
                  have hmin : (if (y : Int) < (x : Int) then (y : Int) else (x : Int)) = (mn : Int) := by split <;> omega
                  have hmax : (if (x : Int) < (y : Int) then (y : Int) else (x : Int)) = (mx : Int) := by split <;> omega
                  have hmax2 : (if (y : Int) < (x : Int) then (x : Int) else (y : Int)) = (mx : Int) := by split <;> omega
                  have hminN : (if y < x then (y : Int) else (x : Int)) = (mn : Int) := by split <;> omega
                  have hmaxN : (if x < y then (y : Int) else (x : Int)) = (mx : Int) := by split <;> omega
                  have hmaxN2 : (if y < x then (x : Int) else (y : Int)) = (mx : Int) := by split <;> omega
                  have HMN := hid hmn
                  have HMX := hid hmx
                  clear hmn hmx
                  have hwr : IntKind.i64.wrap ((k : Int) + 1) = (k : Int) + 1 := by rw [IntKind.wrap_i64]; omega
                  have hkp0 : (0 : Int) ≤ (k : Int) + 1 := by omega
                  have hkp : ((k : Int) + 1).toNat = k + 1 := by omega
                  go_upto_region 23 with fail
                  go_cut [12] (fun s12 wx => s12 = .pointer (some ⟨w8.heap.size, 0, none⟩) ∧ wx = (w8.alloc (.cells #[.int .i64 (s : Nat), .int .i64 (mn : Nat), .int .i64 (mx : Nat)] 33)).drew)
                  case first => as_aux_lemma =>
                    go_region_held3 (fun w' => w'.cell? ⟨bt, 0, none⟩ = some (.slice a T.length c) ∧ w'.cell? ⟨b, off + k, none⟩ = some (.int .i64 (x : Nat)) ∧ w'.cell? ⟨b, off + (k + 1), none⟩ = some (.int .i64 (y : Nat))) (first | exact ⟨z1, z2, z3⟩ | go_keep) (first | (go_at_call 14; (with_reducible refine (HE17.out _ (by first | exact HB9.out | exact (HB8.out.alloc HB8.out.size _).drew)).mono ?_); rintro e w9 ⟨rfl, rfl⟩))
                    all_goals (try go_wp2)
                    all_goals go_meet
                    all_goals exact ⟨rfl, rfl⟩
                  case rest => as_aux_lemma =>
                    obtain ⟨rfl, rfl⟩ := hcut
                    clear hmin hmax hmax2 hminN hmaxN hmaxN2 z3 n3
                    have hb10 : Below w8.heap.size w8 (w8.alloc (.cells #[.int .i64 (s : Nat), .int .i64 (mn : Nat), .int .i64 (mx : Nat)] 33)).drew := ((Below.refl _ w8).alloc (Nat.le_refl _) _).drew
                    have HB10 := hid (HB8.out.trans (hb10.mono HB8.out.size))
                    have HO10 := hid (HO8.out.stays hb10)
                    have c0 : (w8.alloc (.cells #[.int .i64 (s : Nat), .int .i64 (mn : Nat), .int .i64 (mx : Nat)] 33)).drew.cell? ⟨w8.heap.size, 0, none⟩ = some (.int .i64 (s : Nat)) := by
                      show (w8.alloc _).cell? _ = _
                      rw [World.cell?_alloc_at _ _ _ _ rfl]; rfl
                    have c1 : (w8.alloc (.cells #[.int .i64 (s : Nat), .int .i64 (mn : Nat), .int .i64 (mx : Nat)] 33)).drew.cell? ⟨w8.heap.size, 1, none⟩ = some (.int .i64 (mn : Nat)) := by
                      show (w8.alloc _).cell? _ = _
                      rw [World.cell?_alloc_at _ _ _ _ rfl]; rfl
                    have c2 : (w8.alloc (.cells #[.int .i64 (s : Nat), .int .i64 (mn : Nat), .int .i64 (mx : Nat)] 33)).drew.cell? ⟨w8.heap.size, 2, none⟩ = some (.int .i64 (mx : Nat)) := by
                      show (w8.alloc _).cell? _ = _
                      rw [World.cell?_alloc_at _ _ _ _ rfl]; rfl
                    clear hb10 HB8 HO8 z1 z2 n1 n2 HB9
                    generalize (w8.alloc (.cells #[.int .i64 (s : Nat), .int .i64 (mn : Nat), .int .i64 (mx : Nat)] 33)).drew = w10 at *
                    generalize w8.heap.size = X at *
                    have hmm : mn < mx ∧ mx < T.length := by have h1 := HMN.out; have h2 := HMX.out; have h3 := HNE.out; omega
                    obtain ⟨fm, hfm, hfe⟩ := HM2.out
                    have hfv := hfe s mn mx hsl hmm.1 hmm.2
                    have HLK := hid (fun w' (hb : Below w10.heap.size w10 w') => (hfm.stays (HB10.out.trans (hb.mono HB10.out.size))).look (s := s) (a := mn) (c := mx) (by omega) (by omega) (by omega))
                    rw [hfv] at HLK
                    have HR18 := hid (fun w' (hb : Below w10.heap.size w10 w') => clo_right a (some ⟨g, 0, none⟩) c cap C.length T ((C.set k (y : Int)).set (k + 1) (x : Int)) w' (by simp) h2 (by omega) (HT.out.stays (HB10.out.trans (hb.mono HB10.out.size))) HTA.out (HO10.out.rd.stays hb) ((HDG.out.set k hyn).set (k + 1) hxn))
                    have HK18 := hid (fun w' (hb : Below w10.heap.size w10 w') => (⟨HX1.out w' (HB10.out.trans (hb.mono HB10.out.size)), HX4.out w' (HB10.out.trans (hb.mono HB10.out.size)), cell_stays hb (Nat.le_refl _) c0, cell_stays hb (Nat.le_refl _) c1, cell_stays hb (Nat.le_refl _) c2, HLK.out w' hb⟩ : _ ∧ _ ∧ _ ∧ _ ∧ _ ∧ _))
                    have HTW2 : Hid (P.after T ((C.set k (y : Int)).set (k + 1) (x : Int)) = 0 ↔ P.blindAt T s mn mx = true) := hid (by rw [HMN.out, HMX.out]; exact HTW.out)
                    clear c0 c1 c2 hfm hfe hfv HLK hsl hmm HTW HMN HMX HO10
                    obtain ⟨z1, z2, z3, z4, z5, z6⟩ := HK18.out w10.drew (Below.refl w10.heap.size w10).drew
                    generalize P.blindAt T s mn mx = pb at *
                    go_upto_region 24 with fail
                    go_cut [179] (fun s109 wx => s109 = .bool false ∧ Below w10.heap.size w10 wx)
                    case first => as_aux_lemma =>
                      have hpb : (P.after T ((C.set k (y : Int)).set (k + 1) (x : Int)) = 0 ∧ pb = true) ∨ (P.after T ((C.set k (y : Int)).set (k + 1) (x : Int)) ≠ 0 ∧ pb = false) := by
                        by_cases h : P.after T ((C.set k (y : Int)).set (k + 1) (x : Int)) = 0
                        · exact Or.inl ⟨h, HTW2.out.1 h⟩
                        · exact Or.inr ⟨h, by
                            cases hp : pb
                            · rfl
                            · exact absurd (HTW2.out.2 hp) h⟩
                      rcases hpb with ⟨e1, e2⟩ | ⟨e1, e2⟩
                      · simp only [e1, if_pos] at HR18
                        subst e2
                        clear HTW2
                        go_region_held3 (fun w' => w'.cell? ⟨bt, 0, none⟩ = some (.slice a T.length c) ∧ w'.cell? ⟨mbb, 0, none⟩ = some (.map (some mb)) ∧ w'.cell? ⟨X, 0, none⟩ = some (.int .i64 (s : Nat)) ∧ w'.cell? ⟨X, 1, none⟩ = some (.int .i64 (mn : Nat)) ∧ w'.cell? ⟨X, 2, none⟩ = some (.int .i64 (mx : Nat)) ∧ (Instr.lookup 31 (.map (some mb)) (.agg #[.int .i64 (s : Nat), .int .i64 (mn : Nat), .int .i64 (mx : Nat)]) false).run Try.prog w' = .ok (.bool true) w') (first | exact ⟨p1, p2, p3, p4, p5, p6⟩ | exact ⟨z1, z2, z3, z4, z5, z6⟩ | go_keep) (first | (go_at_call 13; (with_reducible refine (HR18.out _ (Below.refl w10.heap.size w10).drew).mono ?_); rintro e w12 ⟨rfl, hb12⟩; have hbx : Below w10.heap.size w10 w12 := (Below.refl w10.heap.size w10).drew.trans hb12; obtain ⟨p1, p2, p3, p4, p5, p6⟩ := HK18.out w12 hbx; have HX6 := hid hbx; clear hb12 hbx))
                        all_goals (try go_wp2)
                        all_goals go_meet
                        all_goals exact ⟨rfl, HX6.out⟩
                      · simp only [if_neg e1] at HR18
                        subst e2
                        clear HTW2 e1
                        go_region_held3 (fun w' => w'.cell? ⟨bt, 0, none⟩ = some (.slice a T.length c) ∧ w'.cell? ⟨mbb, 0, none⟩ = some (.map (some mb)) ∧ w'.cell? ⟨X, 0, none⟩ = some (.int .i64 (s : Nat)) ∧ w'.cell? ⟨X, 1, none⟩ = some (.int .i64 (mn : Nat)) ∧ w'.cell? ⟨X, 2, none⟩ = some (.int .i64 (mx : Nat)) ∧ (Instr.lookup 31 (.map (some mb)) (.agg #[.int .i64 (s : Nat), .int .i64 (mn : Nat), .int .i64 (mx : Nat)]) false).run Try.prog w' = .ok (.bool false) w') (first | exact ⟨p1, p2, p3, p4, p5, p6⟩ | exact ⟨z1, z2, z3, z4, z5, z6⟩ | go_keep) (first | (go_at_call 13; (with_reducible refine (HR18.out _ (Below.refl w10.heap.size w10).drew).mono ?_); rintro e w12 ⟨rfl, hb12⟩; have hbx : Below w10.heap.size w10 w12 := (Below.refl w10.heap.size w10).drew.trans hb12; obtain ⟨p1, p2, p3, p4, p5, p6⟩ := HK18.out w12 hbx; have HX6 := hid hbx; clear hb12 hbx))
                        all_goals (try go_wp2)
                        all_goals go_meet
                        all_goals exact ⟨rfl, HX6.out⟩
                    case rest => as_aux_lemma =>
                      obtain ⟨rfl, hb11⟩ := hcut
                      have HB11 := hid (HB10.out.trans (hb11.mono HB10.out.size))
                      clear hb11 HR18 HK18 HTW2 z1 z2 z3 z4 z5 z6 HB10
                      go_wp2
                      go_roundw
                      case rel => exact ⟨k + 1, by omega, by go_num, HB11.out⟩
                      case measure => simp [intOf]; omega
              · rw [decide_eq_false hcond]
                go_wp2
                go_roundw
                case rel => exact ⟨k + 1, by omega, by go_num, HB7.out⟩
                case measure => simp [intOf]; omega
      · have hke : k = C.length := by omega
        subst hke
        go_wp2
        go_ret
        exact ⟨rfl, HBR.out⟩
  · have hE2 : (((P.after T C : Nat) : Int) == 0) = false := by simp; omega
    simp only [if_neg hE] at HRT
    generalize P.after T C = E at *
    go_enter Try.func12, Try.ntmps12
    go_wp2_with fail
    go_region_held3 (fun w' => w'.cell? ⟨bt, 0, none⟩ = some (.slice a T.length c)) (first | exact p1 | exact x1 | go_keep) (first | (go_at_call 13; (with_reducible refine (HRT.out _ (Below.refl w.heap.size w).drew).mono ?_); rintro e w2 ⟨rfl, hb2⟩; have hbx : Below w.heap.size w w2 := (Below.refl w.heap.size w).drew.trans hb2; have p1 := HX1.out w2 hbx; have HX := hid hbx; clear hb2 hbx) | (go_at_call 14; (with_reducible refine (HEN.out _ HX.out).mono ?_); rintro e w3 ⟨rfl, rfl⟩))
    go_wp2_with fail
    refine (HEN.out _ HX.out).mono ?_
    rintro e w' ⟨rfl, rfl⟩
    go_wp2
    go_ret
    exact ⟨rfl, HX.out⟩


end Go.Proofs.Ytlpdlnefgjmgmaa
