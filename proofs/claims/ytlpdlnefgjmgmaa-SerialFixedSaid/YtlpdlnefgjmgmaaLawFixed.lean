/- SerialFixed: for every plate, digits and index: a wrong code has one fix for each index, a lost digit is restored, exchanged neighbours are those that make it right. No condition. -/
import Derived.Test.YtlpdlnefgjmgmaaOpenU
import Derived.Test.YtlpdlnefgjmgmaaFixd
import Derived.Test.YtlpdlnefgjmgmaaEnds
import Derived.Test.YtlpdlnefgjmgmaaWorks
import Derived.ShutString
import Derived.ChangeOld
import Derived.Below
import Derived.BigQuiet
import Derived.Deep.QuietTactic
import Derived.Deep.DeepCutAuto
namespace Go.Proofs.Ytlpdlnefgjmgmaa
open Go.ChangeShapes Go.WideShapes Go.ChangeAt Go.RowKit

theorem src_cells {W : World} {b off : Nat} {xs : List Int} (h : RdI W (some ⟨b, off, none⟩) xs) (o : Obj) :
    ∀ j u, (xs.map (Value.int .i64))[j]? = some u → (W.alloc o).cell? ((⟨b, off, none⟩ : Addr).add j) = some u := by
  intro j u hj
  have hjn : j < xs.length := by
    have := (List.getElem?_eq_some_iff.1 hj).1
    simpa using this
  obtain ⟨b', off', he, hc⟩ := h j hjn
  simp only [Option.some.injEq, Addr.mk.injEq, and_true] at he
  obtain ⟨rfl, rfl⟩ := he
  rw [Addr.add_lit]
  refine Lib.cell?_alloc_some _ ?_
  rw [hc]
  simpa [hjn] using hj

theorem ends_q (a ad : Option Addr) (c cd n : Nat) (T : List (List Int)) (xs : List Int) (w : World) (m : Nat) (hm : xs.length = n) (hn : n ≤ 12) (hT : RdM w a T) (ht : Tab T) (hx : RdI w ad xs) (hd : Dg T.length xs) :
    Calls Try.prog 14 #[.slice a T.length c, .slice ad n cd] (w.drewN m) fun e w' => e = .returned (.int .i64 (P.after T xs : Nat)) ∧ w' = w.drewN m := by
  subst hm
  have hb : Below w.heap.size w (w.drewN m) := below_same (Below.refl _ _) ⟨rfl, rfl, rfl, rfl⟩
  exact (ends_any a ad c cd T xs (w.drewN m) (by unfold maxLen; omega) (hT.stays hb) ht.sq (by have := ht.lo; omega) (hx.stays hb) hd).mono fun _ _ ⟨h1, h2⟩ => ⟨h1, h2.symm⟩

theorem ends_n (a ad : Option Addr) (c cd n : Nat) (T : List (List Int)) (xs : List Int) (w : World) (hm : xs.length = n) (hn : n ≤ 12) (hT : RdM w a T) (ht : Tab T) (hx : RdI w ad xs) (hd : Dg T.length xs) :
    Calls Try.prog 14 #[.slice a T.length c, .slice ad n cd] w fun e w' => e = .returned (.int .i64 (P.after T xs : Nat)) ∧ w' = w := by
  subst hm
  exact (ends_any a ad c cd T xs w (by unfold maxLen; omega) hT ht.sq (by have := ht.lo; omega) hx hd).mono fun _ _ ⟨h1, h2⟩ => ⟨h1, h2.symm⟩

/-- The digits of a code by numbers. -/
def P.fd (n : Nat) (ds : List Nat) : List Int := (ds.take 9).map fun x : Nat => ((x % n : Nat) : Int)

theorem P.fd_length (n : Nat) (ds : List Nat) : (P.fd n ds).length = min 9 ds.length := by simp [P.fd]

theorem P.fd_take {n : Nat} {ds : List Nat} {j : Nat} (h : j < ds.length) (h9 : j < 9) : (P.fd n ds).take (j + 1) = (P.fd n ds).take j ++ [((ds[j] % n : Nat) : Int)] := by
  rw [List.take_succ_eq_append_getElem (by rw [P.fd_length]; omega)]
  simp [P.fd]

theorem P.fd_dg (n : Nat) (ds : List Nat) (hn : 0 < n) : Dg n (P.fd n ds) := Dg.of_mem fun x hx => by
  unfold P.fd at hx
  obtain ⟨y, _, rfl⟩ := List.mem_map.1 hx
  have := Nat.mod_lt y hn
  omega

set_option maxHeartbeats 9000000 in
set_option maxRecDepth 100000 in
theorem serialFixed_walk (w : World) (f : Nat → Nat) (hf : ∀ k, f k < 256) (ad : Option Addr) (cd : Nat) (ds : List Nat) (hc : ds.length ≤ cd) (hcd : cd ≤ maxLen) (hD : RdU w ad ds) (hdw : ∀ x ∈ ds, x < 256) (a2 : Int) (w2 : (Lit.int .u8 a2).wf = true) :
    Calls Try.prog 5 #[plate f, .slice ad ds.length cd, .int .u8 a2] w fun e w' => e = .returned (.bool true) ∧ Below w.heap.size w w' := by
  have hmin : IntKind.u8.min = 0 := rfl
  have hmax : IntKind.u8.max = 255 := rfl
  have b0 : 0 ≤ a2 ∧ a2 ≤ 255 := by simp only [Lit.wf, Bool.and_eq_true, decide_eq_true_eq] at w2; omega
  clear hmin hmax
  obtain ⟨b0l, b0h⟩ := b0
  clear w2
  unfold maxLen at hcd
  have HM := hid (fun w' => made_any f w' hf)
  clear hf
  obtain ⟨i0, hi, hz0, hz1, hz2⟩ := info_parts (show (Try.prog.info? 3).map (fun i => (i.zero, i.size, i.bytes)) = some (some (.int .i64 0), 1, 8) by kernel_rfl)
  go_enter Try.func5, Try.ntmps5
  go_wp2_with fail
  have HB0 := hid ((Below.refl w.heap.size w).alloc (Nat.le_refl _) (.cells #[.int .u8 (f 0), .int .u8 (f 1), .int .u8 (f 2), .int .u8 (f 3), .int .u8 (f 4), .int .u8 (f 5), .int .u8 (f 6), .int .u8 (f 7), .int .u8 (f 8), .int .u8 (f 9), .int .u8 (f 10), .int .u8 (f 11), .int .u8 (f 12), .int .u8 (f 13), .int .u8 (f 14), .int .u8 (f 15), .int .u8 (f 16)] 24))
  generalize w.alloc (.cells #[.int .u8 (f 0), .int .u8 (f 1), .int .u8 (f 2), .int .u8 (f 3), .int .u8 (f 4), .int .u8 (f 5), .int .u8 (f 6), .int .u8 (f 7), .int .u8 (f 8), .int .u8 (f 9), .int .u8 (f 10), .int .u8 (f 11), .int .u8 (f 12), .int .u8 (f 13), .int .u8 (f 14), .int .u8 (f 15), .int .u8 (f 16)] 24) = wA at *
  refine (HM.out _).mono ?_
  rintro e w1 ⟨a, c, T, rfl, ht, h5, hT, hb⟩
  have HDU := hid ((hD.stays HB0.out).stays hb)
  have HB1 := hid (HB0.out.trans (hb.mono HB0.out.size))
  have HT := hid hT
  have HTA := hid ht
  have hlo := ht.lo
  have hhi := ht.hi
  have HDG := hid (P.fd_dg T.length ds (by omega))
  have HLE := hid (P.fd_length T.length ds)
  have HTK := hid (fun j (h1 : j < ds.length) (h2 : j < 9) => P.fd_take (n := T.length) h1 h2)
  generalize hDe : P.fd T.length ds = D at *
  clear hDe
  have hL9 : D.length ≤ 9 := by have := HLE.out; omega
  clear hb hT HB0 HM ht hD
  generalize plate f = pv
  generalize (Value.agg #[.int .u8 (f 0), .int .u8 (f 1), .int .u8 (f 2), .int .u8 (f 3), .int .u8 (f 4), .int .u8 (f 5), .int .u8 (f 6), .int .u8 (f 7), .int .u8 (f 8), .int .u8 (f 9), .int .u8 (f 10), .int .u8 (f 11), .int .u8 (f 12), .int .u8 (f 13), .int .u8 (f 14), .int .u8 (f 15), .int .u8 (f 16)]) = pv2
  go_wp2_with fail
  go_loopw [8, 9] (fun v i wr => ∃ j : Nat, j ≤ D.length ∧ i = .int .i64 j ∧ wr.ownsRow w1.heap.size 3 1 v j ((D.take j).map (Value.int .i64)) ∧ Below w1.heap.size w1 wr) (fun _ i _ => 9 - (intOf i).toNat)
  case atStart => exact ⟨0, Nat.zero_le _, rfl, World.ownsRow_nil _ _ _ _, Below.refl _ _⟩
  case round =>
    obtain ⟨j, hj, rfl, hown, hb⟩ := hrel
    have HO := hid hown
    have HBR := hid hb
    clear hown hb
    go_upto_region 4 with fail
    go_cut [32] (fun s32 wx => s32 = .bool (decide (j < D.length)) ∧ wr = wx)
    case first =>
      by_cases h1 : j < ds.length
      · by_cases h2 : j < 9
        · have h3 : decide (j < D.length) = true := by have := HLE.out; simp; omega
          go_wp2
          go_meet
          exact ⟨by rw [h3]; simp; omega, rfl⟩
        · have h3 : decide (j < D.length) = false := by have := HLE.out; simp; omega
          have h4 : decide (j < 9) = false := by simpa using h2
          go_wp2
          go_meet
          exact ⟨by rw [h3]; simp; omega, rfl⟩
      · have h3 : decide (j < D.length) = false := by have := HLE.out; simp; omega
        have h4 : decide ((j : Int) < (ds.length : Int)) = false := by simp; omega
        go_wp2
        go_meet
        exact ⟨by rw [h3], rfl⟩
    case rest =>
      obtain ⟨rfl, rfl⟩ := hcut
      by_cases hjl : j < D.length
      · rw [show decide (j < D.length) = true from by simpa using hjl]
        have h1 : j < ds.length := by have := HLE.out; omega
        have h2 : j < 9 := by omega
        obtain ⟨b, off, rfl, hcell⟩ := HDU.out j h1
        have hcr := cell_stays HBR.out (Nat.le_refl _) hcell
        have HS := hid (HTK.out j h1 h2)
        have hxb := hdw _ (List.getElem_mem h1)
        generalize ds[j] = x at *
        have hx1 : (x : Int).tmod (T.length : Int) = ((x % T.length : Nat) : Int) := by rw [Int.tmod_eq_emod_of_nonneg (by omega)]; simp
        have hx2 : (x : Int) % (T.length : Int) = ((x % T.length : Nat) : Int) := by simp
        have hne : ¬ (T.length : Int) = 0 := by omega
        generalize x % T.length = y at *
        clear hcell
        clear hjl HTK
        go_wp2_with (at_builtin; refine wpList_append_own _ rfl _ _ 35 rfl w1.heap.size 3 i0 (.int .i64 0) 1 8 Try.underlying35 hi hz0 hz1 hz2 rfl (by decide) _ _ _ rfl (HO.out.alloc _) ⟨wr.heap.size, 0, none⟩ 1 1 [.int .i64 (y : Nat)] rfl rfl ?c1 ?c2 ?c3 ?c4 ?c5 ?_)
        case c1 =>
          intro j u hj
          match j, hj with
          | 0, hj => simp at hj; subst hj; simp [Addr.add]
        case c2 => intro u hu; simp at hu; subst hu; rfl
        case c3 => unfold maxLen; omega
        case c4 => omega
        case c5 => have := HBR.out.size; simp; omega
        intro v' w3 hown' hgrow _
        have HB4 := hid ((HBR.out.alloc HBR.out.size _).grown hgrow (by have := HBR.out.size; simp; omega) (fun q hq => (World.ownsRow.lt HO.out q hq).1))
        have HO3 := hid hown'
        clear hown' hgrow
        go_wp2
        go_roundw
        case rel => exact ⟨j + 1, by have := HLE.out; omega, by go_num, by rw [HS.out]; simpa using HO3.out, HB4.out⟩
        case measure => simp [intOf]; omega
      · rw [show decide (j < D.length) = false from by simpa using hjl]
        have hje : j = D.length := by omega
        subst hje
        rw [List.take_length] at HO
        have hmL : D.length ≤ maxLen := by unfold maxLen; omega
        obtain ⟨r, cr, rfl, hr⟩ := RdI.of_row HO.out
        have HR := hid hr
        have HTr := hid (HT.out.stays HBR.out)
        have HBr := hid (HB1.out.trans (HBR.out.mono HB1.out.size))
        have HBRS := HBR.out.size
        clear hr HO HT HB1 HBR hjl hj HTK HDU HLE
        have HC1 := hid (fixes_any a r c cr T D wr hmL HTr.out HR.out)
        have HQ0 : Hid (D.length < 2 → P.wrong T D = 1) := hid (fun h => wrong_short HTA.out h)
        have HQ1 : Hid (2 ≤ D.length → P.after T D = 0 → P.wrong T D = 20) := hid (fun h h0 => wrong_right HTA.out h (by omega) HDG.out h0)
        have HQ2 : Hid (2 ≤ D.length → P.after T D ≠ 0 → P.wrong T D = 0) := hid (fun h h0 => wrong_wrong HTA.out h (by omega) HDG.out h0)
        have HC2 := hid (fun w' h1 h2 => swaps_any a r c cr T D w' hmL h1 h2)
        generalize P.wrong T D = q at *
        go_wp2_with fail
        refine HC1.out.mono ?_
        rintro e w3 ⟨r1, c1, F, rfl, hF, hrF, hb⟩
        have HT3 := hid (HTr.out.stays hb)
        have HR3 := hid (HR.out.stays hb)
        have HB3 := hid (HBr.out.trans (hb.mono HBr.out.size))
        have HRF := hid hrF
        have HF := hid hF
        clear hb hrF hF HTr HR HBr HC1
        go_wp2_with fail
        refine (HC2.out w3 HT3.out HR3.out).mono ?_
        rintro e w4 ⟨r2, c2, S, rfl, hS, hrS, hb⟩
        have HT4 := hid (HT3.out.stays hb)
        have HR4 := hid (HR3.out.stays hb)
        have HB4 := hid (HB3.out.trans (hb.mono HB3.out.size))
        have HRF4 := hid (HRF.out.stays hb)
        have HRS := hid hrS
        have HSS := hid hS
        clear hb hrS hS HT3 HR3 HB3 HRF HC2
        by_cases hsh : D.length < 2
        · obtain rfl := HQ0.out hsh
          clear HQ1 HQ2 HQ0
          go_wp2_with fail
          refine (works_any _).mono ?_
          rintro e w5 ⟨rfl, hb⟩
          go_wp2
          go_ret
          exact ⟨rfl, HB4.out.trans (hb.mono HB4.out.size)⟩
        · have h2L : 2 ≤ D.length := by omega
          clear HQ0 hsh
          obtain ⟨k, hK⟩ : ∃ k : Nat, a2 % (D.length : Int) = (k : Int) := ⟨(a2 % (D.length : Int)).toNat, by have := Int.emod_nonneg a2 (show (D.length : Int) ≠ 0 by omega); omega⟩
          have hkL : k < D.length := by have := Int.emod_lt_of_pos a2 (show (0 : Int) < (D.length : Int) by omega); omega
          have hK2 : a2.tmod (D.length : Int) = (k : Int) := by rw [Int.tmod_eq_emod_of_nonneg b0l]; exact hK
          have hne : ¬ (D.length : Int) = 0 := by omega
          have hre := restore_any a r c cr T D (k : Int) w4 hmL HT4.out HR4.out
          rw [restore_eq HTA.out h2L (by omega) HDG.out hkL] at hre
          obtain ⟨g1, g2, _⟩ := HTA.out.fixAt D HDG.out k hkL
          obtain ⟨b, off, rfl, hx0⟩ := HR4.out k hkL
          have hxd := HDG.out k hkL
          obtain ⟨x, hxe⟩ := Int.eq_ofNat_of_zero_le hxd.1
          rw [hxe] at hx0
          have HSAME := hid (restore_same HTA.out HDG.out hkL (show D[k]? = some (x : Int) by rw [List.getElem?_eq_getElem hkL, hxe]))
          generalize P.fixAt T D k = d at *
          have G2 := hid g2
          have HRE := hid hre
          have HX0 := hid hx0
          clear g2 hre hx0 hxd hxe
          go_wp2_with fail
          clear hK hK2
          refine HRE.out.mono ?_
          rintro e w5 ⟨rfl, hb⟩
          have HT5 := hid (HT4.out.stays hb)
          have HR5 := hid (HR4.out.stays hb)
          have HB5 := hid (HB4.out.trans (hb.mono HB4.out.size))
          have HRF5 := hid (HRF4.out.stays hb)
          have HRS5 := hid (HRS.out.stays hb)
          have HX5 := hid (cell_stays hb (Nat.le_refl _) HX0.out)
          clear hb HT4 HR4 HB4 HRF4 HRS HRE HX0
          have g1i : (d : Int) < (T.length : Int) := by omega
          have g1d : decide ((T.length : Int) ≤ (d : Int)) = false := by simp; omega
          go_wp2_with (at_builtin; refine wpList_append_own _ rfl _ _ 35 rfl w5.heap.size 3 i0 (.int .i64 0) 1 8 Try.underlying35 hi hz0 hz1 hz2 rfl (by decide) _ _ _ rfl (World.ownsRow_made w5 #[] 0 (Nat.le_refl _) (Nat.zero_le _) rfl) ⟨b, off, none⟩ D.length cr (D.map (Value.int .i64)) rfl ?qc1 ?qc2 ?qc3 ?qc4 ?qc5 ?qc6 ?_)
          case qc1 => simp
          case qc2 => exact src_cells HR5.out _
          case qc3 => intro u hu; obtain ⟨x, _, rfl⟩ := List.mem_map.1 hu; rfl
          case qc4 => unfold maxLen; omega
          case qc5 => omega
          case qc6 => simp
          intro v' w6 hown hgrow hnil
          have hown2 : w6.ownsRow w5.heap.size 3 1 v' D.length (D.map (Value.int .i64)) := by simpa using hown
          obtain ⟨g, cap, rfl, ho⟩ := OwnI.of_row hown2 (by omega)
          have HO_w6 := hid ho
          clear ho hown hown2 hnil
          have HC_w6 := hid (((Below.refl _ w5).alloc (Nat.le_refl _) _).grown hgrow (by simp) (by intro k hk; simp [Value.ownBlock] at hk; omega))
          clear hgrow
          obtain ⟨b', off', he, hcg⟩ := HO_w6.out.rd k hkL
          simp only [Option.some.injEq, Addr.mk.injEq, and_true] at he
          obtain ⟨rfl, rfl⟩ := he
          rw [Nat.zero_add] at hcg
          have hfg := World.ownsRow.frozenAt HO_w6.out k
          have HO7 := hid (HO_w6.out.set k (d : Int))
          have hg5 : w5.heap.size ≤ g := HO_w6.out.base.1
          have HC7 := hid (HC_w6.out.setCell (p := ⟨g, k, none⟩) hg5 (.int .i64 (d : Nat)))
          clear HO_w6 HC_w6
          go_wp2
          clear hcg hfg
          generalize w6.setCell ⟨g, k, none⟩ (.int .i64 (d : Nat)) = w7 at *
          have hT7 := HT5.out.stays HC7.out
          have E1 := hid (fun m => ends_q a (some ⟨g, 0, none⟩) c cap D.length T (D.set k (d : Int)) w7 m (by simp) (by omega) hT7 HTA.out HO7.out.rd (HDG.out.set k g1))
          have E2 := hid (fun m => ends_q a (some ⟨b, off, none⟩) c cr D.length T D w7 m rfl (by omega) hT7 HTA.out (HR5.out.stays HC7.out) HDG.out)
          have hX7 := cell_stays HC7.out (Nat.le_refl _) HX5.out
          simp only [G2.out] at E1
          clear hT7 HO7 HX5 G2
          by_cases hE : P.after T D = 0
          · obtain rfl : d = x := HSAME.out.2 hE
            obtain rfl := HQ1.out h2L hE
            obtain rfl : F = [] := by rw [HF.out, if_pos (by decide)]
            obtain rfl : S = [] := by rw [HSS.out, if_pos (by decide)]
            simp only [hE] at E2
            have t_d : ((d : Int) == (d : Int)) = true := by simp
            clear HQ1 HQ2 HSAME HF HSS HRF5 HRS5 hE
            go_quiet (first | (go_at_call_of 14 (Value.slice (some (⟨g, 0, none⟩ : Addr)) D.length cap); exact Calls.quiet_of_same (E1.out _)) | (go_at_call_of 14 (Value.slice (some (⟨b, off, none⟩ : Addr)) D.length cr); exact Calls.quiet_of_same (E2.out _)))
            go_wp2_with fail
            refine (E2.out _).mono ?_
            rintro e w' ⟨rfl, rfl⟩
            go_wp2_with fail
            refine (works_any _).mono ?_
            rintro e w8 ⟨rfl, hb⟩
            have hbz := HB5.out.trans (HC7.out.mono HB5.out.size)
            have hby : Below w.heap.size w (w7.drewN nq) := below_same hbz ⟨rfl, rfl, rfl, rfl⟩
            go_wp2
            go_ret
            exact ⟨rfl, hby.trans (hb.mono hby.size)⟩
          · obtain rfl := HQ2.out h2L hE
            have hFe : F = P.fixes T D := by rw [HF.out, if_neg (by decide)]
            have hSe : S = P.swaps T D (D.length - 1) := by rw [HSS.out, if_neg (by decide)]
            have hFl : F.length = D.length := by rw [hFe]; simp [P.fixes]
            have HFA := hid (fun j (hj : j < D.length) => P.fixes_at T D hj)
            rw [← hFe] at HFA
            have HSE := hid hSe
            have hdx : ((d : Int) == (x : Int)) = false := by
              have : d ≠ x := fun e => hE (HSAME.out.1 e)
              simp; omega
            have hEz : (((P.after T D : Nat) : Int) == 0) = false := by simp; omega
            generalize P.after T D = E at *
            clear HQ1 HQ2 HSAME HF HSS hE hFe hSe
            rw [hFl]
            go_quiet (first | (go_at_call_of 14 (Value.slice (some (⟨g, 0, none⟩ : Addr)) D.length cap); exact Calls.quiet_of_same (E1.out _)) | (go_at_call_of 14 (Value.slice (some (⟨b, off, none⟩ : Addr)) D.length cr); exact Calls.quiet_of_same (E2.out _)))
            go_wp2_with fail
            refine (E2.out _).mono ?_
            rintro e w' ⟨rfl, rfl⟩
            have HC8 := hid (show Below w5.heap.size w5 (w7.drewN nq) from below_same HC7.out ⟨rfl, rfl, rfl, rfl⟩)
            have t_L : ((D.length : Int) == (D.length : Int)) = true := by simp
            clear E1 E2 HC7 hX7
            go_wp2_with fail
            clear hdx hEz
            generalize w7.drewN nq = wq at *
            go_loopw [18, 154] (fun nv i wr => ∃ j : Nat, j < D.length ∧ i = .int .i64 j ∧ nv = .int .i64 ((P.swaps T D j).length : Nat) ∧ Below w5.heap.size w5 wr) (fun _ i _ => 9 - (intOf i).toNat)
            case atStart => exact ⟨0, by omega, rfl, rfl, HC8.out⟩
            case round => as_aux_lemma =>
              clear HC8
              obtain ⟨j, hj, rfl, rfl, hb⟩ := hrel
              have hFj := HFA.out j hj
              obtain ⟨bF, offF, rfl, hy1, hy2⟩ := HRF5.out j (by omega)
              have hFx : F[j]'(by omega) = ((j : Int), (P.fixAt T D j : Int)) := by
                rw [List.getElem?_eq_getElem (by omega)] at hFj
                exact Option.some.inj hFj
              rw [hFx] at hy1 hy2
              obtain ⟨z1, z2, _⟩ := HTA.out.fixAt D HDG.out j hj
              have HZ2 := hid z2
              clear z2 hFj hFx
              generalize P.fixAt T D j = y at *
              have z1i : (y : Int) < (T.length : Int) := by omega
              have z1d : decide ((T.length : Int) ≤ (y : Int)) = false := by simp; omega
              have hc1 := cell_stays hb (Nat.le_refl _) hy1
              have hc2 := cell_stays hb (Nat.le_refl _) hy2
              have t_j : ((j : Int) == (j : Int)) = true := by simp
              have HBR := hid hb
              have HSW := hid (sw_case (T := T) (l := D) (m := D.length - 1) (j := j))
              have HSL := hid (show j + 1 = D.length → S.length = (P.swaps T D j).length from fun e => by rw [HSE.out, show D.length - 1 = j from by omega])
              rw [← HSE.out] at HSW
              clear hb hy1 hy2 HSE HFA
              have hn9 := P.swaps_le T D j
              generalize (P.swaps T D j).length = n at *
              go_upto_region 29 with fail
              have HBA := hid (HBR.out.alloc HBR.out.size (.cells #[.int .i64 (j : Nat), .int .i64 (y : Nat)] 51))
              have hya : (wr.alloc (.cells #[.int .i64 (j : Nat), .int .i64 (y : Nat)] 51)).cell? ⟨wr.heap.size, 1, none⟩ = some (.int .i64 (y : Nat)) := by rw [World.cell?_alloc_at _ _ _ _ rfl]; rfl
              clear hc1 hc2 t_j HBR
              generalize wr.alloc (.cells #[.int .i64 (j : Nat), .int .i64 (y : Nat)] 51) = wa at *
              generalize wr.heap.size = X at *
              have HRA := hid (HR5.out.stays HBA.out)
              go_wp2_with (at_builtin; refine wpList_append_own _ rfl _ _ 35 rfl wa.heap.size 3 i0 (.int .i64 0) 1 8 Try.underlying35 hi hz0 hz1 hz2 rfl (by decide) _ _ _ rfl (World.ownsRow_made wa #[] 0 (Nat.le_refl _) (Nat.zero_le _) rfl) ⟨b, off, none⟩ D.length cr (D.map (Value.int .i64)) rfl ?qc1 ?qc2 ?qc3 ?qc4 ?qc5 ?qc6 ?_)
              case qc1 => simp
              case qc2 => exact src_cells HRA.out _
              case qc3 => intro u hu; obtain ⟨x, _, rfl⟩ := List.mem_map.1 hu; rfl
              case qc4 => unfold maxLen; omega
              case qc5 => omega
              case qc6 => simp
              intro v' w8 hown hgrow hnil
              have hown2 : w8.ownsRow wa.heap.size 3 1 v' D.length (D.map (Value.int .i64)) := by simpa using hown
              obtain ⟨g2, cap2, rfl, ho⟩ := OwnI.of_row hown2 (by omega)
              have HO_w8 := hid ho
              clear ho hown hown2 hnil
              have HC_w8 := hid (((Below.refl _ wa).alloc (Nat.le_refl _) _).grown hgrow (by simp) (by intro k hk; simp [Value.ownBlock] at hk; omega))
              clear hgrow
              obtain ⟨b', off', he, hcg⟩ := HO_w8.out.rd j hj
              simp only [Option.some.injEq, Addr.mk.injEq, and_true] at he
              obtain ⟨rfl, rfl⟩ := he
              rw [Nat.zero_add] at hcg
              have hfg := World.ownsRow.frozenAt HO_w8.out j
              have HO9 := hid (HO_w8.out.set j (y : Int))
              have hg8 : wa.heap.size ≤ g2 := HO_w8.out.base.1
              have HB8 := hid (HBA.out.trans (HC_w8.out.mono HBA.out.size))
              have HB9 := hid (HB8.out.setCell (p := ⟨g2, j, none⟩) (Nat.le_trans HBA.out.size hg8) (.int .i64 (y : Nat)))
              have hyb := cell_stays HC_w8.out (Nat.le_refl _) hya
              clear HO_w8 HC_w8 hya HB8
              go_upto_region 31 with fail
              clear hcg hfg hyb
              generalize w8.setCell ⟨g2, j, none⟩ (.int .i64 (y : Nat)) = w9 at *
              have HE9 := hid (ends_n a (some ⟨g2, 0, none⟩) c cap2 D.length T (D.set j (y : Int)) w9 (by simp) (by omega) (HT5.out.stays HB9.out) HTA.out HO9.out.rd (HDG.out.set j z1))
              rw [HZ2.out] at HE9
              clear HO9 HZ2
              go_wp2_with fail
              refine HE9.out.mono ?_
              rintro e w' ⟨rfl, rfl⟩
              clear HE9
              by_cases hlast : j + 1 = D.length
              · have hl1 : (j : Int) + 1 = (D.length : Int) := by omega
                have t_S : ((n : Int) == (S.length : Int)) = true := by rw [HSL.out hlast]; simp
                clear HSW HSL hlast
                go_wp2_with fail
                refine (works_any _).mono ?_
                rintro e w10 ⟨rfl, hb⟩
                have hbz := HB5.out.trans (HB9.out.mono HB5.out.size)
                go_wp2
                go_ret
                exact ⟨rfl, hbz.trans (hb.mono hbz.size)⟩
              · have hl1 : ¬ (j : Int) + 1 = (D.length : Int) := by omega
                have hl2 : ((j : Int) + 1 == (D.length : Int)) = false := by simpa using hl1
                have HRB := hid (HR5.out.stays HB9.out)
                have HE := hid (fun (g3 cap3 : Nat) (wx : World) (hb : Below w5.heap.size w5 wx) (hx : RdI wx (some ⟨g3, 0, none⟩) (P.swap D j)) => ends_n a (some ⟨g3, 0, none⟩) c cap3 D.length T (P.swap D j) wx (P.swap_length D j) (by omega) (HT5.out.stays hb) HTA.out hx (HDG.out.swap (show j + 1 < D.length by omega)))
                obtain ⟨wd, rfl⟩ : ∃ wd : World, wd = w' := ⟨_, rfl⟩
                have HJN := hid (show j + 1 < D.length by omega)
                clear HSL hlast hg8
                go_wp2_with (at_builtin; refine wpList_append_own _ rfl _ _ 35 rfl wd.heap.size 3 i0 (.int .i64 0) 1 8 Try.underlying35 hi hz0 hz1 hz2 rfl (by decide) _ _ _ rfl (World.ownsRow_made wd #[] 0 (Nat.le_refl _) (Nat.zero_le _) rfl) ⟨b, off, none⟩ D.length cr (D.map (Value.int .i64)) rfl ?qc1 ?qc2 ?qc3 ?qc4 ?qc5 ?qc6 ?_)
                case qc1 => simp
                case qc2 => exact src_cells HRB.out _
                case qc3 => intro u hu; obtain ⟨x, _, rfl⟩ := List.mem_map.1 hu; rfl
                case qc4 => unfold maxLen; omega
                case qc5 => omega
                case qc6 => simp
                intro v' w10 hown hgrow hnil
                have hown2 : w10.ownsRow wd.heap.size 3 1 v' D.length (D.map (Value.int .i64)) := by simpa using hown
                obtain ⟨g3, cap3, rfl, ho⟩ := OwnI.of_row hown2 (by omega)
                have HO_w10 := hid ho
                clear ho hown hown2 hnil
                have HC_w10 := hid (((Below.refl _ wd).alloc (Nat.le_refl _) _).grown hgrow (by simp) (by intro k hk; simp [Value.ownBlock] at hk; omega))
                clear hgrow
                obtain ⟨b', off', he, hc0⟩ := HO_w10.out.rd j hj
                simp only [Option.some.injEq, Addr.mk.injEq, and_true] at he
                obtain ⟨rfl, rfl⟩ := he
                obtain ⟨b', off', he, hc1⟩ := HO_w10.out.rd (j + 1) (by omega)
                simp only [Option.some.injEq, Addr.mk.injEq, and_true] at he
                obtain ⟨rfl, rfl⟩ := he
                rw [Nat.zero_add] at hc0 hc1
                have hf0 := World.ownsRow.frozenAt HO_w10.out j
                have hf1 := World.ownsRow.frozenAt HO_w10.out (j + 1)
                have hg10 : w5.heap.size ≤ g3 := Nat.le_trans HB9.out.size HO_w10.out.base.1
                have HB10 := hid (HB9.out.trans (HC_w10.out.mono HB9.out.size))
                have hsw : P.swap D j = (D.set j (D[j + 1]'(by omega))).set (j + 1) D[j] := by
                  simp only [P.swap, List.getD, List.getElem?_eq_getElem (show j + 1 < D.length by omega), List.getElem?_eq_getElem hj, Option.getD_some]
                have HO11 := hid (fun wx (hs : Same wx ((w10.setCell ⟨g3, j, none⟩ (.int .i64 (D[j + 1]'(by omega)))).setCell ⟨g3, j + 1, none⟩ (.int .i64 D[j]))) => (HO_w10.out.set j (D[j + 1]'(by omega))).set (j + 1) D[j] |>.same hs)
                rw [← hsw] at HO11
                have HB11 := hid (fun wx (hs : Same wx ((w10.setCell ⟨g3, j, none⟩ (.int .i64 (D[j + 1]'(by omega)))).setCell ⟨g3, j + 1, none⟩ (.int .i64 D[j]))) => below_same ((HB10.out.setCell (p := ⟨g3, j, none⟩) hg10 (.int .i64 (D[j + 1]'(by omega)))).setCell (p := ⟨g3, j + 1, none⟩) hg10 (.int .i64 D[j])) hs)
                clear hsw HO_w10 HC_w10
                generalize D[j] = u at *
                generalize D[j + 1]'(by omega) = v at *
                go_upto_region 35 with fail
                go_cut [209] (fun _ wx => Same wx ((w10.setCell ⟨g3, j, none⟩ (.int .i64 v)).setCell ⟨g3, j + 1, none⟩ (.int .i64 u)))
                case first => as_aux_lemma =>
                  clear HO11 HB11 HB10 HE HSW
                  go_region
                  all_goals (try go_wp2)
                  all_goals go_meet
                  all_goals exact ⟨rfl, rfl, rfl, rfl⟩
                case rest => as_aux_lemma =>
                  have HOX := hid (HO11.out _ hcut)
                  have HBX := hid (HB11.out _ hcut)
                  clear hcut HO11 HB11 HB10 hc0 hc1 hf0 hf1 hl1 hl2
                  have HEX := hid (HE.out g3 cap3 _ HBX.out HOX.out.rd)
                  have HRSX := hid (HRS5.out.stays HBX.out)
                  clear HE HOX
                  generalize P.after T (P.swap D j) = E' at *
                  go_wp2_with fail
                  refine HEX.out.mono ?_
                  rintro e w' ⟨rfl, rfl⟩
                  clear HEX
                  have t_j : ((j : Int) == (j : Int)) = true := by simp
                  rcases HSW.out (by have := HJN.out; omega) with ⟨q1, q2, q3, q4⟩ | ⟨q1, q4, (⟨q2, yy, q3, q5⟩ | q2)⟩
                  · subst q1
                    obtain ⟨bS, offS, rfl, hcS⟩ := HRSX.out n q2
                    rw [List.getElem?_eq_getElem q2, Option.some.injEq] at q3
                    rw [q3] at hcS
                    have HQ4 := hid q4
                    clear q3 q4 HSW
                    go_wp2
                    go_roundw
                    case rel => exact ⟨j + 1, HJN.out, by go_num, by rw [HQ4.out]; first | rfl | (simp; done) | (simp; go_num), HBX.out⟩
                    case measure => simp [intOf]; omega
                  · have q1b : ((E' : Int) == 0) = false := by simp; omega
                    obtain ⟨bS, offS, rfl, hcS⟩ := HRSX.out n q2
                    rw [List.getElem?_eq_getElem q2, Option.some.injEq] at q3
                    rw [q3] at hcS
                    have q5b : (yy == (j : Int)) = false := by simpa using q5
                    have HQ4 := hid q4
                    clear q3 q4 q5 HSW q1
                    go_wp2
                    go_roundw
                    case rel => exact ⟨j + 1, HJN.out, by go_num, by rw [HQ4.out], HBX.out⟩
                    case measure => simp [intOf]; omega
                  · have q1b : ((E' : Int) == 0) = false := by simp; omega
                    have q2a : decide ((n : Int) < (S.length : Int)) = false := by simp; omega
                    have q2b : decide (n < S.length) = false := by simp; omega
                    have HQ4 := hid q4
                    clear q2 q4 HSW q1
                    go_wp2
                    go_roundw
                    case rel => exact ⟨j + 1, HJN.out, by go_num, by rw [HQ4.out], HBX.out⟩
                    case measure => simp [intOf]; omega


/-! The row's frame (the guide's template). -/
set_option linter.unusedVariables false in
set_option maxRecDepth 100000 in
theorem serialFixed_lifted (os : Os) (started : os.Started) (H : Type) (enc : TypeId × Value → H) :
    ReturnsInHanded {} Try.checked os 5 .any (Rows.serialFixedSpec.pre6 enc Try.prog Try.f5 Rows.serialFixedRow.domain false) (Rows.serialFixedSpec.post enc Try.prog Try.f5 false true false false) := by
  refine returnsInHanded_of_change (C := Try.checked) own started (by kernel_rfl) Try.func5
    (ChangeSpec.witness6 (enc := enc) (C := Try.checked) false ⟨#[], #[.agg #[.int .u8 0, .int .u8 0, .int .u8 0, .int .u8 0, .int .u8 0, .int .u8 0, .int .u8 0, .int .u8 0, .int .u8 0, .int .u8 0, .int .u8 0, .int .u8 0, .int .u8 0, .int .u8 0, .int .u8 0, .int .u8 0, .int .u8 0], .slice none 0 0, .int .u8 0], []⟩ 8 (by kernel_rfl) (by kernel_rfl) (by kernel_rfl) (by kernel_rfl)) ?_
  intro W base args ds gs before hval0 hW hcnd _
  have hval : ∀ (j : Nat) t v, Try.f5.params[j]? = some t → args[j]? = some v → Value.okWide Try.prog W .any base t v := hval0
  have hW' := hW
  obtain ⟨p, q, hA0, hV, rfl, hfz, hnd⟩ := hW
  have hA : DataW.TrodAll enc Try.prog W 0 (fun _ => true) true Try.f5.params.toList args.toList ds p := hA0
  rw [Try.params5] at hA hval
  obtain ⟨v0, vs0, d0, ds0, p0, q0, hargs, rfl, rfl, h0, r0⟩ := trodAll_cons hA
  obtain ⟨v1, vs1, d1, ds1, p1, q1, rfl, rfl, rfl, h1, r1⟩ := trodAll_cons r0
  obtain ⟨v2, vs2, d2, ds2, p2, q2, rfl, rfl, rfl, h2, r2⟩ := trodAll_cons r1
  obtain ⟨rfl, rfl, rfl⟩ := trodAll_nil r2
  obtain rfl : args = #[v0, v1, v2] := by cases args; simp_all
  obtain ⟨rfl, rfl⟩ := trodVars_none hV
  have k0 := h0
  have lt0 : ∀ x ∈ p0, x.block < W.heap.size := by obtain ⟨m, hm⟩ := k0; exact DataW.trod_lt m _ _ _ hm
  obtain ⟨c0, hv0, hc0⟩ := open_plate (hval 0 24 v0 rfl rfl) h0
  subst hv0
  have k1 := h1
  have lt1 : ∀ x ∈ p1, x.block < W.heap.size := by obtain ⟨m, hm⟩ := k1; exact DataW.trod_lt m _ _ _ hm
  obtain ⟨a1, len1, cap1, rfl⟩ := okWide_slice Try.underlying42 (hval 1 42 v1 rfl rfl)
  obtain ⟨xs1, rfl, hc1, hm1, hR1, hw1⟩ := open_rdU h1
  have k2 := h2
  have lt2 : ∀ x ∈ p2, x.block < W.heap.size := by obtain ⟨m, hm⟩ := k2; exact DataW.trod_lt m _ _ _ hm
  obtain ⟨a2, rfl, rfl, rfl, w2⟩ := open_int Try.underlying5 (hval 2 5 v2 rfl rfl) h2
  clear hA0 hval0
  refine (serialFixed_walk W c0 hc0 a1 cap1 xs1 hc1 hm1 hR1 hw1 a2 w2 ).mono fun e W' ⟨he, bel⟩ => ?_
  subst he
  exact ⟨_, rfl, _, _, _, [], _, [], hW', trodAll_mk1 (shut_bool Try.underlying4 _), (trodAll_cons_mk (Below.trod laidOut (by kernel_rfl) (of_decide_eq_true (by kernel_rfl)) k0 bel lt0) (trodAll_cons_mk (Below.trod laidOut (by kernel_rfl) (of_decide_eq_true (by kernel_rfl)) k1 bel lt1) (trodAll_cons_mk (Below.trod laidOut (by kernel_rfl) (of_decide_eq_true (by kernel_rfl)) k2 bel lt2) trodAll_mk0))), rfl, bel.frame _, fun h => by cases h⟩

theorem serialFixed_over : Rows.serialFixedRow.holds Try.pinned (OpenSpec.ofChange Rows.serialFixedSpec) :=
  OpenClaim.holds_of_wide 5 Try.f5 rfl rfl rfl rfl rfl rfl rfl ⟨rfl, rfl, rfl, rfl, rfl⟩ rfl rfl rfl rfl rfl (by kernel_rfl) Try.func5 (by kernel_rfl)
    (of_decide_eq_true (by kernel_rfl)) (by unfold Func.isWrapper; first | (rw [if_pos (by decide +kernel)]; kernel_rfl) | (rw [if_neg (by decide +kernel)]; exact ⟨rfl, rfl⟩))
    (fun os started H enc _ => serialFixed_lifted os started H enc)

theorem serialFixed_proved : Rows.SerialFixedSaid := serialFixed_over

end Go.Proofs.Ytlpdlnefgjmgmaa
