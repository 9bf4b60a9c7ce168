/- Package cross: the walks of with, Places. -/
import Derived.Test.YthaoacnaeafbeaaXBs
import Derived.Test.YthaoacnaeafbeaaXLoc
import Derived.ArgAppend
namespace Go.Proofs.Ythaoacnaeafbeaa
open Go.RowKit

set_option maxHeartbeats 2000000 in
theorem with_any (b o c : Nat) (l : List Int) (x : Int) (w : World) (hlc : l.length ≤ c) (hl : RdI w (some ⟨b, o, none⟩) l) (hok : X.Ok l) :
    Calls Try.prog 58 #[.slice (some ⟨b, o, none⟩) l.length c, .int .i64 x] w fun e w' => ∃ y cy, e = .returned (.slice y (X.ins l x).length cy) ∧ RdI w' y (X.ins l x) ∧ Below w.heap.size w w' := by
  obtain ⟨i0, hi, hz0, hz1, hz2⟩ := info_parts (show (Try.prog.info? 3).map (fun i => (i.zero, i.size, i.bytes)) = some (some (.int .i64 0), 1, 8) by kernel_rfl)
  have h8 := hok.eight
  have HBS := hid (X.bs b o c l x w hl hok)
  have HCE : Hid (∀ W, Below w.heap.size w W → ∀ j, j < l.length → W.cell? ⟨b, o + j, none⟩ = some (.int .i64 (l.getD j 0))) := hid (fun W hb j hj => by
    obtain ⟨b', o', he, hc⟩ := X.num hl hj
    simp only [Option.some.injEq, Addr.mk.injEq, and_true] at he
    obtain ⟨rfl, rfl⟩ := he
    exact cell_stays hb (Nat.le_refl _) hc)
  have hal := X.at_le l x
  have HIN : Hid (X.ins l x = (l.take (X.at l x) ++ [x]) ++ l.drop (X.at l x)) := hid (by unfold X.ins; rw [List.append_assoc])
  generalize X.at l x = t at *
  generalize X.ins l x = R at *
  clear hl hok
  have HB0 : Hid (∀ q, Below w.heap.size w (w.drewN q)) := hid (fun q => below_drewN (Below.refl _ _) q)
  have h1 : (0 : Int) ≤ (t : Int) ∧ (t : Int) ≤ (c : Int) := by omega
  have h2 : (0 : Int) ≤ (t : Int) ∧ (t : Int) ≤ (l.length : Int) := by omega
  have h3 : (t : Int) ≤ (c : Int) := by omega
  have h4 : t ≤ c := by omega
  have h5 : t ≤ l.length := hal
  go_enter Try.func58, Try.ntmps58
  go_wp2_with fail
  refine HBS.out.mono ?_
  rintro e w1 ⟨rfl, q, rfl⟩
  have HB1 := hid (HB0.out q)
  generalize w.drewN q = w1 at *
  have HCE1 := hid (HCE.out w1 HB1.out)
  have HLT : Hid (((l.take t).map (Value.int .i64)).length = t * 1) := hid (by simp; omega)
  have HOL : Hid (∀ W, Below w.heap.size w W → ∀ j u, ((l.take t).map (Value.int .i64))[j]? = some u → W.cell? ((⟨b, o, none⟩ : Addr).add j) = some u) := hid (fun W hb j u hj => by
    have hjl : j < t := by
      have := (List.getElem?_eq_some_iff.1 hj).1
      simp at this; omega
    rw [Addr.add_lit, HCE.out W hb j (by omega)]
    rw [List.getElem?_map, List.getElem?_take, if_pos hjl, List.getElem?_eq_getElem (by omega)] at hj
    simp only [Option.map_some] at hj
    rw [← hj, List.getD_eq_getElem?_getD, List.getElem?_eq_getElem (by omega)]; rfl)
  have HM1 : Hid (t + 1 ≤ maxLen) := hid (by unfold maxLen; omega)
  have HRL : Hid (R.map (Value.int .i64) = ((l.take t).map (Value.int .i64) ++ [.int .i64 x]) ++ (l.drop t).map (Value.int .i64) ∧ R.length = t + 1 + (l.length - t)) := hid (by
    rw [HIN.out]
    refine ⟨by simp [List.map_append], ?_⟩
    simp only [List.length_append, List.length_take, List.length_drop, List.length_singleton]
    omega)
  have HM2 : Hid (t + 1 + (l.length - t) ≤ maxLen) := hid (by unfold maxLen; omega)
  have HM3 : Hid ((t + 1 + (l.length - t)) * 8 ≤ 140737488355328) := hid (by omega)
  by_cases hct : c = t
  · have hlt : l.length = t := by omega
    have HDN : Hid (((l.drop t).map (Value.int .i64)).length = (l.length - t) * 1) := hid (by simp)
    have HDC : Hid (∀ W : World, ∀ j u, ((l.drop t).map (Value.int .i64))[j]? = some u → W.cell? ((⟨b, o, none⟩ : Addr).add j) = some u) := hid (fun W j u hj => by
      have : l.drop t = [] := List.drop_eq_nil_iff.2 (by omega)
      rw [this] at hj; simp at hj)
    clear hlt
    go_wp2_with (first
      | (at_builtin; refine wpList_append_grows _ rfl _ _ 22 rfl 3 i0 (.int .i64 0) 1 8 Try.underlying22 hi hz0 hz1 hz2 rfl (by decide) (some ⟨b, o, none⟩) t t ((l.take t).map (Value.int .i64)) rfl (fun h => by cases h) HLT.out (fun b' hb' j u hj => by cases hb'; exact HOL.out _ (HB1.out.alloc HB1.out.size _) j u hj) ⟨w1.heap.size, 0, none⟩ 1 1 [.int .i64 x] rfl rfl (X.Lit.one' _ _ _ _ rfl) (X.one1 _) (by omega) HM1.out (by omega) ?_; intro v' w2 hown' hgrow'; have HO2 := hid hown'; have HB2 := hid (Below.grown (HB1.out.alloc HB1.out.size (.cells #[.int .i64 x] 3)) hgrow' (by simp; have := HB1.out.size; omega) (fun k hk => by cases hk)); have hs2 := hgrow'.size; clear hown' hgrow')
      | (at_builtin; refine wpList_append_own _ rfl _ _ 22 rfl ((w1.alloc (.cells #[.int .i64 x] 3)).heap.size) 3 i0 (.int .i64 0) 1 8 Try.underlying22 hi hz0 hz1 hz2 rfl (by decide) _ _ _ rfl HO2.out ⟨b, o, none⟩ (l.length - t) _ ((l.drop t).map (Value.int .i64)) rfl HDN.out (HDC.out _) (fun u hu => by obtain ⟨y, _, rfl⟩ := List.mem_map.1 hu; rfl) HM2.out HM3.out hs2 ?_; intro v3 w3 hown3 hgrow3 _))
    have HB3 := hid (Below.grown HB2.out hgrow3 (Nat.le_trans HB1.out.size (by simp at hs2 ⊢; omega)) (fun k hk => by have := (World.ownsRow.lt HO2.out k hk).1; have := HB1.out.size; simp at *; omega))
    have HR3 : Hid (RowI w3 ((w1.alloc (.cells #[.int .i64 x] 3)).heap.size) v3 R) := hid (by
      unfold RowI
      rw [HRL.out.1, HRL.out.2]
      exact hown3)
    obtain ⟨y, cy, rfl, hr⟩ := HR3.out.rd
    have HRD := hid hr
    clear hr hown3 hgrow3
    go_wp2
    go_ret
    exact ⟨y, cy, rfl, HRD.out, HB3.out⟩
  · have HDN : Hid (((l.drop t).map (Value.int .i64)).length = (l.length - t) * 1) := hid (by simp)
    have HDC : Hid (∀ W, Below w.heap.size w W → ∀ j u, ((l.drop t).map (Value.int .i64))[j]? = some u → W.cell? ((⟨b, o + t, none⟩ : Addr).add j) = some u) := hid (fun W hb j u hj => by
      have hjl : j < l.length - t := by
        have := (List.getElem?_eq_some_iff.1 hj).1
        simpa using this
      rw [Addr.add_lit, Nat.add_assoc, HCE.out W hb (t + j) (by omega)]
      rw [List.getElem?_map, List.getElem?_drop, List.getElem?_eq_getElem (by omega)] at hj
      simp only [Option.map_some] at hj
      rw [← hj, List.getD_eq_getElem?_getD, List.getElem?_eq_getElem (by omega)]; rfl)
    go_wp2_with (first
      | (at_builtin; refine wpList_append_grows _ rfl _ _ 22 rfl 3 i0 (.int .i64 0) 1 8 Try.underlying22 hi hz0 hz1 hz2 rfl (by decide) (some ⟨b, o, none⟩) t t ((l.take t).map (Value.int .i64)) rfl (fun h => by cases h) HLT.out (fun b' hb' j u hj => by cases hb'; exact HOL.out _ (HB1.out.alloc HB1.out.size _) j u hj) ⟨w1.heap.size, 0, none⟩ 1 1 [.int .i64 x] rfl rfl (X.Lit.one' _ _ _ _ rfl) (X.one1 _) (by omega) HM1.out (by omega) ?_; intro v' w2 hown' hgrow'; have HO2 := hid hown'; have HB2 := hid (Below.grown (HB1.out.alloc HB1.out.size (.cells #[.int .i64 x] 3)) hgrow' (by simp; have := HB1.out.size; omega) (fun k hk => by cases hk)); have hs2 := hgrow'.size; clear hown' hgrow')
      | (at_builtin; refine wpList_append_own _ rfl _ _ 22 rfl ((w1.alloc (.cells #[.int .i64 x] 3)).heap.size) 3 i0 (.int .i64 0) 1 8 Try.underlying22 hi hz0 hz1 hz2 rfl (by decide) _ _ _ rfl HO2.out ⟨b, o + t, none⟩ (l.length - t) _ ((l.drop t).map (Value.int .i64)) rfl HDN.out (HDC.out _ HB2.out) (fun u hu => by obtain ⟨y, _, rfl⟩ := List.mem_map.1 hu; rfl) HM2.out HM3.out hs2 ?_; intro v3 w3 hown3 hgrow3 _))
    have HB3 := hid (Below.grown HB2.out hgrow3 (Nat.le_trans HB1.out.size (by simp at hs2 ⊢; omega)) (fun k hk => by have := (World.ownsRow.lt HO2.out k hk).1; have := HB1.out.size; simp at *; omega))
    have HR3 : Hid (RowI w3 ((w1.alloc (.cells #[.int .i64 x] 3)).heap.size) v3 R) := hid (by
      unfold RowI
      rw [HRL.out.1, HRL.out.2]
      exact hown3)
    obtain ⟨y, cy, rfl, hr⟩ := HR3.out.rd
    have HRD := hid hr
    clear hr hown3 hgrow3
    go_wp2
    go_ret
    exact ⟨y, cy, rfl, HRD.out, HB3.out⟩

/-- The places below k where a cross can be added. -/
def X.pl (l : List Int) (k : Nat) : List Int := ((List.range k).filter fun p : Nat => decide ((p : Int) ∉ l) && X.clr (X.ins l p)).map fun p : Nat => (p : Int)
theorem X.pl_succ (l : List Int) (k : Nat) : X.pl l (k + 1) = X.pl l k ++ (if (k : Int) ∉ l ∧ X.clr (X.ins l k) = true then [(k : Int)] else []) := by
  unfold X.pl
  rw [List.range_succ, List.filter_append, List.map_append, List.filter_cons, List.filter_nil]
  by_cases h : (k : Int) ∉ l ∧ X.clr (X.ins l k) = true
  · rw [if_pos h, if_pos (by simpa using h)]; rfl
  · rw [if_neg h, if_neg (by simpa using h)]; rfl
theorem X.pl_len (l : List Int) (k : Nat) : (X.pl l k).length ≤ k := by
  unfold X.pl
  rw [List.length_map]
  exact Nat.le_trans (List.length_filter_le _ _) (by simp)
def X.plE (l : List Int) (mo : Int) : Int := if X.chk l = 0 then (if X.clr l = true then (if l.length = 8 then 2 else if X.wi mo 0 60 = true then 0 else 4) else 13) else X.chk l
def X.plV (l : List Int) (mo : Int) : List Int := if X.plE l mo = 0 then X.pl l (mo.toNat + 1) else []

set_option maxHeartbeats 4000000 in
set_option maxRecDepth 100000 in
theorem places_any (a : Option Addr) (c : Nat) (l : List Int) (mo : Int) (w : World) (hlc : l.length ≤ c) (hcm : c ≤ maxLen) (hl : RdI w a l) :
    Calls Try.prog 29 #[.slice a l.length c, .int .i64 mo] w (X.LE (X.plV l mo) (X.plE l mo) w) := by
  obtain ⟨i0, hi, hz0, hz1, hz2⟩ := info_parts (show (Try.prog.info? 3).map (fun i => (i.zero, i.size, i.bytes)) = some (some (.int .i64 0), 1, 8) by kernel_rfl)
  have hm : l.length ≤ maxLen := Nat.le_trans hlc hcm
  have HC := hid (check_any a c l w hm hl)
  unfold X.plV
  by_cases h0 : X.chk l = 0
  · have hok := X.chk_zero.1 h0
    have h2 := hok.two
    have h8 := hok.eight
    obtain ⟨b, o, rfl, _⟩ := X.num hl (show 0 < l.length by omega)
    rw [h0] at HC
    have HIC := hid (fun W (h : Below w.heap.size w W) => isClear_any (some ⟨b, o, none⟩) c l W (hl.stays h) hok)
    have HWI := hid (fun W => within_any mo 0 60 W)
    cases hc : X.clr l with
    | false =>
      have HE : Hid (X.plE l mo = 13) := hid (by unfold X.plE; rw [if_pos h0, if_neg (by rw [hc]; simp)])
      rw [hc] at HIC
      rw [HE.out, if_neg (show ¬ (13 : Int) = 0 by omega)]
      clear hl hok hc h0
      go_enter Try.func29, Try.ntmps29
      go_wp2_with fail
      refine HC.out.mono ?_
      rintro e w1 ⟨rfl, rfl⟩
      go_wp2_with fail
      refine (HIC.out _ (Below.refl _ _)).mono ?_
      rintro e w2 ⟨rfl, hb⟩
      have HB := hid hb
      clear hb
      go_wp2
      go_ret2
      exact ⟨none, 0, rfl, RdI.nil _ _, HB.out⟩
    | true =>
      rw [hc] at HIC
      by_cases h88 : l.length = 8
      · have HE : Hid (X.plE l mo = 2) := hid (by unfold X.plE; rw [if_pos h0, if_pos hc, if_pos h88])
        rw [HE.out, if_neg (show ¬ (2 : Int) = 0 by omega)]
        have h8' : ((l.length : Int) == 8) = true := by simp; omega
        clear hl hok hc h0 h88
        go_enter Try.func29, Try.ntmps29
        go_wp2_with fail
        refine HC.out.mono ?_
        rintro e w1 ⟨rfl, rfl⟩
        go_wp2_with fail
        refine (HIC.out _ (Below.refl _ _)).mono ?_
        rintro e w2 ⟨rfl, hb⟩
        have HB := hid hb
        clear hb
        go_wp2
        go_ret2
        exact ⟨none, 0, rfl, RdI.nil _ _, HB.out⟩
      · have h8' : ((l.length : Int) == 8) = false := by simp; omega
        have h7 : l.length ≤ 7 := by omega
        cases hw : X.wi mo 0 60 with
        | false =>
          have HE : Hid (X.plE l mo = 4) := hid (by unfold X.plE; rw [if_pos h0, if_pos hc, if_neg h88, hw]; rfl)
          rw [hw] at HWI
          rw [HE.out, if_neg (show ¬ (4 : Int) = 0 by omega)]
          clear hl hok hc h0 h88 hw
          go_enter Try.func29, Try.ntmps29
          go_wp2_with fail
          refine HC.out.mono ?_
          rintro e w1 ⟨rfl, rfl⟩
          go_wp2_with fail
          refine (HIC.out _ (Below.refl _ _)).mono ?_
          rintro e w2 ⟨rfl, hb⟩
          have HB := hid hb
          clear hb
          go_wp2_with fail
          refine (HWI.out _).mono ?_
          rintro e w3 ⟨rfl, rfl⟩
          go_wp2
          go_ret2
          exact ⟨none, 0, rfl, RdI.nil _ _, HB.out⟩
        | true =>
          obtain ⟨M, rfl⟩ : ∃ M : Nat, mo = (M : Int) := ⟨mo.toNat, by have := X.wi_true.1 hw; omega⟩
          have hM60 := (X.wi_true.1 hw).2
          have HE : Hid (X.plE l (M : Int) = 0) := hid (by unfold X.plE; rw [if_pos h0, if_pos hc, if_neg h88, hw]; rfl)
          rw [hw] at HWI
          rw [HE.out, if_pos rfl, Int.toNat_natCast]
          have HCN := hid (fun (k : Nat) W (h : Below w.heap.size w W) => contains_any (some ⟨b, o, none⟩) c l (k : Int) W hm (hl.stays h))
          have HWT := hid (fun (k : Nat) W (h : Below w.heap.size w W) => with_any b o c l (k : Int) W hlc (hl.stays h) hok)
          have HCL := hid (fun (k : Nat) (hk : k ≤ 60) (hn : (k : Int) ∉ l) (x : Option Addr) (cx : Nat) W (hr : RdI W x (X.ins l k)) => isClear_any x cx (X.ins l k) W hr (X.ins_ok hok h7 ⟨by omega, by omega⟩ hn))
          have HSU := hid (X.pl_succ l)
          have HLL := hid (X.pl_len l)
          have HS0 : Hid (X.pl l 0 = []) := hid rfl
          generalize X.pl l = F at *
          clear hl hok hc h0 h88 hw
          go_enter Try.func29, Try.ntmps29
          go_wp2_with fail
          refine HC.out.mono ?_
          rintro e w1 ⟨rfl, rfl⟩
          go_wp2_with fail
          refine (HIC.out _ (Below.refl _ _)).mono ?_
          rintro e w2 ⟨rfl, hb⟩
          have HB2 := hid hb
          clear hb
          go_wp2_with fail
          refine (HWI.out _).mono ?_
          rintro e w3 ⟨rfl, rfl⟩
          go_wp2_with fail
          go_loopw [7, 29] (fun v s wr => ∃ k : Nat, k ≤ M + 1 ∧ s = .int .i64 k ∧ RowI wr w1.heap.size v (F k) ∧ Below w1.heap.size w1 wr) (fun _ s _ => M + 1 - (intOf s).toNat)
          case atStart => exact ⟨0, Nat.zero_le _, rfl, by rw [HS0.out]; exact RowI.nil _ _, HB2.out⟩
          case round => as_aux_lemma =>
            obtain ⟨k, hk, rfl, hown, hb⟩ := hrel
            have HOW := hid hown
            have HBW := hid hb
            clear hown hb HB2
            by_cases hlt : k < M + 1
            · have hlt' : decide ((k : Int) < (M : Int) + 1) = true := by simp; omega
              have HSK := hid (HSU.out k)
              have hfl := HLL.out k
              have HC1 := hid (HCN.out k wr HBW.out)
              generalize F k = K at *
              by_cases hin : (k : Int) ∈ l
              · have HSK2 : Hid (F (k + 1) = K) := hid (by rw [HSK.out, if_neg (fun h => h.1 hin), List.append_nil])
                rw [decide_eq_true hin] at HC1
                clear hin
                go_wp2_with fail
                refine HC1.out.mono ?_
                rintro e w4 ⟨rfl, rfl⟩
                go_wp2
                go_roundw
                case rel => exact ⟨k + 1, by omega, by go_num, by rw [HSK2.out]; exact HOW.out, HBW.out⟩
                case measure => simp [intOf]; omega
              · have HC2 := hid (HCL.out k (by omega) hin)
                have HW1 := hid (HWT.out k wr HBW.out)
                rw [decide_eq_false hin] at HC1
                have HSK3 : Hid (F (k + 1) = K ++ (if X.clr (X.ins l k) = true then [(k : Int)] else [])) := hid (by
                  rw [HSK.out]
                  congr 1
                  by_cases hcc : X.clr (X.ins l k) = true
                  · rw [if_pos ⟨hin, hcc⟩, if_pos hcc]
                  · rw [if_neg (fun h => hcc h.2), if_neg hcc])
                clear hin HSK
                generalize X.clr (X.ins l k) = cl at *
                generalize X.ins l k = N at *
                cases cl with
                | true =>
                  have HSK2 : Hid (F (k + 1) = K ++ [(k : Int)]) := hid HSK3.out
                  have HM1' : Hid (K.length + 1 ≤ maxLen) := hid (by unfold maxLen; omega)
                  have HM2' : Hid ((K.length + 1) * 8 ≤ 140737488355328) := hid (by omega)
                  go_wp2_with fail
                  refine HC1.out.mono ?_
                  rintro e w4 ⟨rfl, rfl⟩
                  go_wp2_with fail
                  refine HW1.out.mono ?_
                  rintro e w5 ⟨y, cy, rfl, hr, hb⟩
                  have HC3 := hid (HC2.out y cy w5 hr)
                  have HB5 := hid (HBW.out.trans (hb.mono HBW.out.size))
                  have HO5 := hid (RowI.stays HOW.out hb)
                  clear hr hb
                  go_wp2_with fail
                  refine HC3.out.mono ?_
                  rintro e w6 ⟨rfl, hb⟩
                  have HB6 := hid (HB5.out.trans (hb.mono HB5.out.size))
                  have HO6 := hid (RowI.stays HO5.out hb)
                  clear hb
                  go_wp2_with (at_builtin; refine wpList_append_own _ rfl _ _ 22 rfl w1.heap.size 3 i0 (.int .i64 0) 1 8 Try.underlying22 hi hz0 hz1 hz2 rfl (by decide) _ _ _ rfl (World.ownsRow.alloc HO6.out _) ⟨w6.heap.size, 0, none⟩ 1 1 [.int .i64 (k : Int)] rfl rfl (X.Lit.one' _ _ _ _ rfl) (X.one1 _) HM1'.out HM2'.out (Nat.le_trans HB6.out.size (by simp)) ?_; intro v' w9 hown' hgrow _)
                  have HB9 := hid (Below.grown (HB6.out.alloc HB6.out.size (.cells #[.int .i64 (k : Int)] 3)) hgrow (by simp; have := HB6.out.size; omega) (fun q hq => (World.ownsRow.lt HO6.out q hq).1))
                  have HO9 := hid (RowI.push hown')
                  clear hown' hgrow
                  go_wp2
                  go_roundw
                  case rel => exact ⟨k + 1, by omega, by go_num, by rw [HSK2.out]; exact HO9.out, HB9.out⟩
                  case measure => simp [intOf]; omega
                | false =>
                  have HSK2 : Hid (F (k + 1) = K) := hid (by rw [HSK3.out, if_neg (by simp), List.append_nil])
                  go_wp2_with fail
                  refine HC1.out.mono ?_
                  rintro e w4 ⟨rfl, rfl⟩
                  go_wp2_with fail
                  refine HW1.out.mono ?_
                  rintro e w5 ⟨y, cy, rfl, hr, hb⟩
                  have HC3 := hid (HC2.out y cy w5 hr)
                  have HB5 := hid (HBW.out.trans (hb.mono HBW.out.size))
                  have HO5 := hid (RowI.stays HOW.out hb)
                  clear hr hb
                  go_wp2_with fail
                  refine HC3.out.mono ?_
                  rintro e w6 ⟨rfl, hb⟩
                  have HB6 := hid (HB5.out.trans (hb.mono HB5.out.size))
                  have HO6 := hid (RowI.stays HO5.out hb)
                  clear hb
                  go_wp2
                  go_roundw
                  case rel => exact ⟨k + 1, by omega, by go_num, by rw [HSK2.out]; exact HO6.out, HB6.out⟩
                  case measure => simp [intOf]; omega
            · have hke : k = M + 1 := by omega
              subst hke
              have hlt' : decide ((((M + 1 : Nat)) : Int) < (M : Int) + 1) = false := by simp
              obtain ⟨x, cx, rfl, hr⟩ := HOW.out.rd
              have HR := hid hr
              clear hr
              go_wp2
              go_ret2
              exact ⟨x, cx, rfl, HR.out, HBW.out⟩
  · have HE : Hid (X.plE l mo = X.chk l) := hid (by unfold X.plE; rw [if_neg h0])
    rw [HE.out, if_neg h0]
    have hne : (X.chk l != 0) = true := by rw [bne_iff_ne]; exact h0
    generalize X.chk l = z at *
    clear hl h0
    go_enter Try.func29, Try.ntmps29
    go_wp2_with fail
    refine HC.out.mono ?_
    rintro e w1 ⟨rfl, rfl⟩
    go_wp2
    go_ret2
    exact ⟨none, 0, rfl, RdI.nil _ _, Below.refl _ _⟩
end Go.Proofs.Ythaoacnaeafbeaa
