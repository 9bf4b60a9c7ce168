/- The walk of SerialNoticed, over what its closure does. -/
import Derived.Test.YtlpdlnefgjmgmaaPlate
import Derived.Test.YtlpdlnefgjmgmaaCodes
import Derived.Test.YtlpdlnefgjmgmaaNm
import Derived.Test.YtlpdlnefgjmgmaaSpotAt
import Derived.Test.YtlpdlnefgjmgmaaWorks
import Derived.Deep.DeepCutAuto
namespace Go.Proofs.Ytlpdlnefgjmgmaa
open Go.ChangeShapes Go.WideShapes Go.ChangeAt Go.RowKit

/-- What the closure does with one code. -/
def CloHolds : Prop := ∀ (a : Option Addr) (c bt bn mtb mbb mt mb nt nb : Nat) (T : List (List Int)) (_ht : Tab T) (_h5 : T.length ≤ 5) (r : Option Addr) (cr : Nat) (C : List Int) (_h2 : 2 ≤ C.length) (_h3 : C.length ≤ 3) (_hd : Dg T.length C) (w : World)
    (_hT : RdM w a T) (_hr : RdI w r C) (_hcr : C.length ≤ cr) (_x1 : w.cell? ⟨bt, 0, none⟩ = some (.slice a T.length c)) (_x2 : w.cell? ⟨bn, 0, none⟩ = some (.int .i64 (T.length : Nat))) (_x3 : w.cell? ⟨mtb, 0, none⟩ = some (.map (some mt))) (_x4 : w.cell? ⟨mbb, 0, none⟩ = some (.map (some mb)))
    (_m1 : ∃ f, SpotMap w mt nt f ∧ ∀ s x y, s < T.length → x < y → y < T.length → f s x y = P.twinAt T s x y) (_m2 : ∃ f, SpotMap w mb nb f ∧ ∀ s x y, s < T.length → x < y → y < T.length → f s x y = P.blindAt T s x y),
    Calls Try.prog 12 #[.slice r C.length cr, .pointer (some ⟨bt, 0, none⟩), .pointer (some ⟨bn, 0, none⟩), .pointer (some ⟨mtb, 0, none⟩), .pointer (some ⟨mbb, 0, none⟩)] w
      fun e w' => e = .returned (.bool true) ∧ Below w.heap.size w w'

set_option maxHeartbeats 9000000 in
set_option maxRecDepth 100000 in
theorem serialNoticed_walk0 (hclo : CloHolds) (w : World) (f : Nat → Nat) (hf : ∀ k, f k < 256) (a1 : Int) (w1 : (Lit.int .u8 a1).wf = true) :
    Calls Try.prog 3 #[plate f, .int .u8 a1] w fun e w' => e = .returned (.bool true) ∧ Below w.heap.size w w' := by
  have hmf : ∀ (fn : Fn) (first cap : Array Value) (w : World), (Instr.makeFunc fn first cap).run Try.prog w = .ok (.func fn first cap) w := fun _ _ _ _ => rfl
  have hmm := @run_makeMap Try.prog
  have hmin : IntKind.u8.min = 0 := rfl
  have hmax : IntKind.u8.max = 255 := rfl
  have b0 : 0 ≤ a1 ∧ a1 ≤ 255 := by simp only [Lit.wf, Bool.and_eq_true, decide_eq_true_eq] at w1; omega
  clear hmin hmax w1
  obtain ⟨b0l, b0h⟩ := b0
  obtain ⟨sz, hSZ⟩ : ∃ sz : Nat, 2 + a1 % 2 = (sz : Int) := ⟨(2 + a1 % 2).toNat, by omega⟩
  have hsz2 : 2 ≤ sz := by omega
  have hsz3 : sz ≤ 3 := by omega
  have HM := hid (fun w' => made_any f w' hf)
  clear hf
  go_enter Try.func3, Try.ntmps3
  go_wp2_with fail
  have HB0 := hid ((Below.refl w.heap.size w).alloc (Nat.le_refl _) (.cells #[.int .u8 (f 0), .int .u8 (f 1), .int .u8 (f 2), .int .u8 (f 3), .int .u8 (f 4), .int .u8 (f 5), .int .u8 (f 6), .int .u8 (f 7), .int .u8 (f 8), .int .u8 (f 9), .int .u8 (f 10), .int .u8 (f 11), .int .u8 (f 12), .int .u8 (f 13), .int .u8 (f 14), .int .u8 (f 15), .int .u8 (f 16)] 24))
  generalize w.alloc (.cells #[.int .u8 (f 0), .int .u8 (f 1), .int .u8 (f 2), .int .u8 (f 3), .int .u8 (f 4), .int .u8 (f 5), .int .u8 (f 6), .int .u8 (f 7), .int .u8 (f 8), .int .u8 (f 9), .int .u8 (f 10), .int .u8 (f 11), .int .u8 (f 12), .int .u8 (f 13), .int .u8 (f 14), .int .u8 (f 15), .int .u8 (f 16)] 24) = wA at *
  refine (HM.out _).mono ?_
  rintro e w1 ⟨a, c, T, rfl, ht, h5, hT, hb⟩
  have hck := check_of_tab ht
  have HB1 := hid (HB0.out.trans (hb.mono HB0.out.size))
  have HT1 := hid hT
  have HTA := hid ht
  have hlo := ht.lo
  have hhi := ht.hi
  clear hb hT HB0 HM ht
  generalize plate f = pv
  generalize (Value.agg #[.int .u8 (f 0), .int .u8 (f 1), .int .u8 (f 2), .int .u8 (f 3), .int .u8 (f 4), .int .u8 (f 5), .int .u8 (f 6), .int .u8 (f 7), .int .u8 (f 8), .int .u8 (f 9), .int .u8 (f 10), .int .u8 (f 11), .int .u8 (f 12), .int .u8 (f 13), .int .u8 (f 14), .int .u8 (f 15), .int .u8 (f 16)]) = pv2
  -- the table's and the base's variables
  have hW2 : Below w1.heap.size w1 ((w1.alloc (.cells #[.slice a T.length c] 25)).alloc (.cells #[.int .i64 (T.length : Nat)] 3)) := ((Below.refl _ w1).alloc (Nat.le_refl _) _).alloc (by simp) _
  have hx1 : ((w1.alloc (.cells #[.slice a T.length c] 25)).alloc (.cells #[.int .i64 (T.length : Nat)] 3)).cell? ⟨w1.heap.size, 0, none⟩ = some (.slice a T.length c) := by
    refine Lib.cell?_alloc_some _ ?_
    rw [World.cell?_alloc_at _ _ _ _ rfl]; rfl
  have hx2 : ((w1.alloc (.cells #[.slice a T.length c] 25)).alloc (.cells #[.int .i64 (T.length : Nat)] 3)).cell? ⟨w1.heap.size + 1, 0, none⟩ = some (.int .i64 (T.length : Nat)) := by
    rw [World.cell?_alloc_at _ _ _ _ (by simp)]; rfl
  have HW2 := hid hW2
  have HX1 := hid hx1
  have HX2 := hid hx2
  clear hW2 hx1 hx2
  have HCLO := hid hclo
  clear hclo
  go_upto_region 3 with fail
  generalize (w1.alloc (.cells #[.slice a T.length c] 25)).alloc (.cells #[.int .i64 (T.length : Nat)] 3) = w2 at *
  have HT2 := hid (HT1.out.stays HW2.out)
  have HB2 := hid (HB1.out.trans (HW2.out.mono HB1.out.size))
  clear HW2 HT1 HB1
  generalize w1.heap.size = bt at *
  have H3 := hid (blind_any a c T w2 HT2.out)
  rw [hck] at H3
  have hx1 := HX1.out
  go_wp2_with fail
  clear hx1
  refine H3.out.mono ?_
  rintro e w3 ⟨r1, cr1, xs1, rfl, hx1, hr1, hb⟩
  have HT3 := hid (HT2.out.stays hb)
  have HX13 := hid (cell_stays hb (Nat.le_refl _) HX1.out)
  have HX23 := hid (cell_stays hb (Nat.le_refl _) HX2.out)
  have HB3 := hid (HB2.out.trans (hb.mono HB2.out.size))
  have HR1 := hid hr1
  have HL1 := hid hx1
  clear hb hr1 hx1 HT2 HX1 HX2 HB2 H3
  have H4 := hid (twins_any a c T w3 HT3.out)
  rw [hck] at H4
  have hx1 := HX13.out
  go_wp2_with fail
  clear hx1
  refine H4.out.mono ?_
  rintro e w4 ⟨r2, cr2, xs2, rfl, hx2, hr2, hb⟩
  have HT4 := hid (HT3.out.stays hb)
  have HX14 := hid (cell_stays hb (Nat.le_refl _) HX13.out)
  have HX24 := hid (cell_stays hb (Nat.le_refl _) HX23.out)
  have HB4 := hid (HB3.out.trans (hb.mono HB3.out.size))
  have HR1b := hid (HR1.out.stays hb)
  have HR2 := hid hr2
  have HL2 := hid hx2
  clear hb hr2 hx2 HT3 HX13 HX23 HB3 HR1 H4
  have hl1 : xs1 = P.spS (P.blindAt T) T.length T.length := by rw [HL1.out]; unfold P.blind; rw [if_neg (by rw [hck]; simp)]
  have hl2 : xs2 = P.spS (P.twinAt T) T.length T.length := by rw [HL2.out]; unfold P.twins; rw [if_neg (by rw [hck]; simp)]
  have hn1 : xs1.length ≤ 125 := by rw [hl1]; exact Nat.le_trans (P.spS_len _ _ h5 _) (by omega)
  have hn2 : xs2.length ≤ 125 := by rw [hl2]; exact Nat.le_trans (P.spS_len _ _ h5 _) (by omega)
  have HLA := hid hl1
  have HLB := hid hl2
  have HBD1 : Hid (∀ j (hj : j < xs1.length), xs1[j].1 < 10 ∧ xs1[j].2.1 < 10 ∧ xs1[j].2.2 < 10) := hid (fun j hj => by
    have hm := List.getElem_mem hj
    have h := (P.mem_spS (pr := P.blindAt T) (n := T.length) (s := xs1[j].1) (a := xs1[j].2.1) (b := xs1[j].2.2)).1 (by rw [← hl1]; exact hm)
    omega)
  have HBD2 : Hid (∀ j (hj : j < xs2.length), xs2[j].1 < 10 ∧ xs2[j].2.1 < 10 ∧ xs2[j].2.2 < 10) := hid (fun j hj => by
    have hm := List.getElem_mem hj
    have h := (P.mem_spS (pr := P.twinAt T) (n := T.length) (s := xs2[j].1) (a := xs2[j].2.1) (b := xs2[j].2.2)).1 (by rw [← hl2]; exact hm)
    omega)
  clear hl1 hl2 HL1 HL2 hck
  go_wp2_with fail
  have HNM0 := hid (NM.start w4)
  generalize ((((w4.alloc (.map #[] 0)).alloc (.map #[] 0)).alloc (.cells #[.map (some w4.heap.size)] 31)).alloc (.cells #[.map (some (w4.heap.size + 1))] 31)) = w5 at *
  go_loopw [41] (fun i wr => ∃ j : Nat, j ≤ xs1.length ∧ i = .int .i64 j ∧ NM w4 wr j 0 (P.among xs1 j) (fun _ _ _ => false)) (fun i _ => xs1.length - (intOf i).toNat)
  case atStart => exact ⟨0, Nat.zero_le _, rfl, ⟨HNM0.out.below, HNM0.out.c11, HNM0.out.c12, HNM0.out.mb.congr (fun s a c => by simp [P.among]), HNM0.out.mt⟩⟩
  case round =>
    clear HNM0
    obtain ⟨j, hj, rfl, hnm⟩ := hrel
    have HNM := hid hnm
    clear hnm
    by_cases hjl : j < xs1.length
    · obtain ⟨b, off, rfl, k1, k2, k3⟩ := HR1b.out j hjl
      have y1 := cell_stays HNM.out.below (Nat.le_refl _) k1
      have y2 := cell_stays HNM.out.below (Nat.le_refl _) k2
      have y3 := cell_stays HNM.out.below (Nat.le_refl _) k3
      obtain ⟨g1, g2, g3⟩ := HBD1.out j hjl
      have HAM := hid (P.among_step hjl)
      clear k1 k2 k3
      generalize xs1[j].1 = s at *
      generalize xs1[j].2.1 = p at *
      generalize xs1[j].2.2 = q at *
      go_upto_region 11 with fail
      have HNA := hid (HNM.out.alloc (.cells #[.int .i64 (s : Nat), .int .i64 (p : Nat), .int .i64 (q : Nat)] 33))
      have z0 := HNA.out.c11
      have z1 : (wr.alloc (.cells #[.int .i64 (s : Nat), .int .i64 (p : Nat), .int .i64 (q : Nat)] 33)).cell? ⟨wr.heap.size, 0, none⟩ = some (.int .i64 (s : Nat)) := by rw [World.cell?_alloc_at _ _ _ _ rfl]; rfl
      have z2 : (wr.alloc (.cells #[.int .i64 (s : Nat), .int .i64 (p : Nat), .int .i64 (q : Nat)] 33)).cell? ⟨wr.heap.size, 1, none⟩ = some (.int .i64 (p : Nat)) := by rw [World.cell?_alloc_at _ _ _ _ rfl]; rfl
      have z3 : (wr.alloc (.cells #[.int .i64 (s : Nat), .int .i64 (p : Nat), .int .i64 (q : Nat)] 33)).cell? ⟨wr.heap.size, 2, none⟩ = some (.int .i64 (q : Nat)) := by rw [World.cell?_alloc_at _ _ _ _ rfl]; rfl
      clear y1 y2 y3 HNM
      generalize wr.alloc (.cells #[.int .i64 (s : Nat), .int .i64 (p : Nat), .int .i64 (q : Nat)] 33) = wa at *
      generalize wr.heap.size = X at *
      go_wp2_with (first | (at_mapUpdate; refine wpList_spotPut _ rfl _ _ _ rfl w4.heap.size j _ rfl HNA.out.mb (by omega) s p q rfl rfl g1 g2 g3 ?_; intro w6 hput hgrow))
      have HNB := hid (HNA.out.putB hgrow (hput.congr (fun s' a' c' => HAM.out s' a' c')))
      clear hput hgrow z0 z1 z2 z3 HNA
      go_wp2
      go_roundw
      case rel => exact ⟨j + 1, by omega, by go_num, HNB.out⟩
      case measure => simp [intOf]; omega
    · have hje : j = xs1.length := by omega
      subst hje
      go_wp2_with fail
      go_loopw [50] (fun i wr => ∃ j : Nat, j ≤ xs2.length ∧ i = .int .i64 j ∧ NM w4 wr xs1.length j (P.among xs1 xs1.length) (P.among xs2 j)) (fun i _ => xs2.length - (intOf i).toNat)
      case atStart => exact ⟨0, Nat.zero_le _, rfl, ⟨HNM.out.below, HNM.out.c11, HNM.out.c12, HNM.out.mb, HNM.out.mt.congr (fun s a c => by simp [P.among])⟩⟩
      case round =>
        clear HNM
        obtain ⟨j, hj2, rfl, hnm⟩ := hrel
        have HNM := hid hnm
        clear hnm
        by_cases hjl2 : j < xs2.length
        · obtain ⟨b, off, rfl, k1, k2, k3⟩ := HR2.out j hjl2
          have y1 := cell_stays HNM.out.below (Nat.le_refl _) k1
          have y2 := cell_stays HNM.out.below (Nat.le_refl _) k2
          have y3 := cell_stays HNM.out.below (Nat.le_refl _) k3
          obtain ⟨g1, g2, g3⟩ := HBD2.out j hjl2
          have HAM := hid (P.among_step hjl2)
          clear k1 k2 k3
          generalize xs2[j].1 = s at *
          generalize xs2[j].2.1 = p at *
          generalize xs2[j].2.2 = q at *
          go_upto_region 16 with fail
          have HNA := hid (HNM.out.alloc (.cells #[.int .i64 (s : Nat), .int .i64 (p : Nat), .int .i64 (q : Nat)] 33))
          have z0 := HNA.out.c12
          have z1 : (wr.alloc (.cells #[.int .i64 (s : Nat), .int .i64 (p : Nat), .int .i64 (q : Nat)] 33)).cell? ⟨wr.heap.size, 0, none⟩ = some (.int .i64 (s : Nat)) := by rw [World.cell?_alloc_at _ _ _ _ rfl]; rfl
          have z2 : (wr.alloc (.cells #[.int .i64 (s : Nat), .int .i64 (p : Nat), .int .i64 (q : Nat)] 33)).cell? ⟨wr.heap.size, 1, none⟩ = some (.int .i64 (p : Nat)) := by rw [World.cell?_alloc_at _ _ _ _ rfl]; rfl
          have z3 : (wr.alloc (.cells #[.int .i64 (s : Nat), .int .i64 (p : Nat), .int .i64 (q : Nat)] 33)).cell? ⟨wr.heap.size, 2, none⟩ = some (.int .i64 (q : Nat)) := by rw [World.cell?_alloc_at _ _ _ _ rfl]; rfl
          clear y1 y2 y3 HNM
          generalize wr.alloc (.cells #[.int .i64 (s : Nat), .int .i64 (p : Nat), .int .i64 (q : Nat)] 33) = wa at *
          generalize wr.heap.size = X at *
          go_wp2_with (first | (at_mapUpdate; refine wpList_spotPut _ rfl _ _ _ rfl (w4.heap.size + 1) j _ rfl HNA.out.mt (by omega) s p q rfl rfl g1 g2 g3 ?_; intro w6 hput hgrow))
          have HNB := hid (HNA.out.putT hgrow (hput.congr (fun s' a' c' => HAM.out s' a' c')))
          clear hput hgrow z0 z1 z2 z3 HNA
          go_wp2
          go_roundw
          case rel => exact ⟨j + 1, by omega, by go_num, HNB.out⟩
          case measure => simp [intOf]; omega
        · have hje : j = xs2.length := by omega
          subst hje
          have x2 := cell_stays HNM.out.below (Nat.le_refl _) HX24.out
          have HCD := hid (codes_any T.length sz hlo h5 hsz2 hsz3 (.pointer (some ⟨bt, 0, none⟩)) (.pointer (some ⟨bt + 1, 0, none⟩)) (.pointer (some ⟨w4.heap.size + 3, 0, none⟩)) (.pointer (some ⟨w4.heap.size + 2, 0, none⟩)) wr (fun w' hb r cr l hl hd hr hcr => by
            have hbw : Below w4.heap.size w4 w' := HNM.out.below.trans (hb.mono HNM.out.below.size)
            have h := HCLO.out a c bt (bt + 1) (w4.heap.size + 3) (w4.heap.size + 2) (w4.heap.size + 1) w4.heap.size xs2.length xs1.length T HTA.out h5 r cr l (by omega) (by omega) hd w' (HT4.out.stays hbw) hr (by omega)
              (cell_stays hbw (Nat.le_refl _) HX14.out) (cell_stays hbw (Nat.le_refl _) HX24.out) (cell_stays hb (Nat.le_refl _) HNM.out.c12) (cell_stays hb (Nat.le_refl _) HNM.out.c11)
              ⟨_, HNM.out.mt.stays hb, fun s x y h1 h2 h3 => P.among_all HLB.out s x y h1 h2 h3⟩ ⟨_, HNM.out.mb.stays hb, fun s x y h1 h2 h3 => P.among_all HLA.out s x y h1 h2 h3⟩
            rw [hl] at h
            exact h))
          have HB6 := hid (HB4.out.trans (HNM.out.below.mono HB4.out.size))
          clear HNM HCLO HX14 HX24
          go_wp2_with fail
          refine HCD.out.mono ?_
          rintro e w7 ⟨rfl, hb7⟩
          have HB7 := hid (HB6.out.trans (hb7.mono HB6.out.size))
          clear hb7 HCD HB6
          go_wp2_with fail
          refine (works_any _).mono ?_
          rintro e w8 ⟨rfl, hb8⟩
          go_wp2
          go_ret
          exact ⟨rfl, HB7.out.trans (hb8.mono HB7.out.size)⟩


end Go.Proofs.Ytlpdlnefgjmgmaa
