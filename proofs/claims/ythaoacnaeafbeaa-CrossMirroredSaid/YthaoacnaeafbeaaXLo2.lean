/- Package cross: the walks of show, Locate. -/
import Derived.Test.YthaoacnaeafbeaaXLoc
namespace Go.Proofs.Ythaoacnaeafbeaa
open Go.RowKit

/-- What is seen of the first k crosses. -/
def X.sw (l : List Int) (wd sh : Int) (k : Nat) : List Int := ((List.range k).filter fun i => decide (sh ≤ l.getD i 0) && decide (l.getD i 0 ≤ sh + wd)).map fun i => l.getD i 0 - sh
theorem X.sw_succ (l : List Int) (wd sh : Int) (k : Nat) : X.sw l wd sh (k + 1) = X.sw l wd sh k ++ (if sh ≤ l.getD k 0 ∧ l.getD k 0 ≤ sh + wd then [l.getD k 0 - sh] else []) := by
  unfold X.sw
  rw [List.range_succ, List.filter_append, List.map_append, List.filter_cons, List.filter_nil]
  by_cases h : sh ≤ l.getD k 0 ∧ l.getD k 0 ≤ sh + wd
  · rw [if_pos h, if_pos (by simpa using h)]; rfl
  · rw [if_neg h, if_neg (by simpa using h)]; rfl
theorem X.sw_len (l : List Int) (wd sh : Int) (k : Nat) : (X.sw l wd sh k).length ≤ k := by
  unfold X.sw
  rw [List.length_map]
  exact Nat.le_trans (List.length_filter_le _ _) (by simp)

set_option maxHeartbeats 2000000 in
theorem show_any (a : Option Addr) (c : Nat) (l : List Int) (wd sh : Int) (w : World) (hl : RdI w a l) (hok : X.Ok l) (hw : 0 ≤ wd ∧ wd ≤ 60) (hs : -60 ≤ sh ∧ sh ≤ 60) :
    Calls Try.prog 56 #[.slice a l.length c, .int .i64 wd, .int .i64 sh] w fun e w' => ∃ x cx, e = .returned (.slice x (X.sw l wd sh l.length).length cx) ∧ RdI w' x (X.sw l wd sh l.length) ∧ Below w.heap.size w w' := by
  obtain ⟨i0, hi, hz0, hz1, hz2⟩ := info_parts (show (Try.prog.info? 3).map (fun i => (i.zero, i.size, i.bytes)) = some (some (.int .i64 0), 1, 8) by kernel_rfl)
  have h8 := hok.eight
  have HL := hid hl
  have HOK := hid hok
  have HSU := hid (X.sw_succ l wd sh)
  have HSL := hid (X.sw_len l wd sh)
  have HS0 : Hid (X.sw l wd sh 0 = []) := hid rfl
  generalize X.sw l wd sh = F at *
  clear hl hok
  go_enter Try.func56, Try.ntmps56
  go_wp2_with fail
  go_loopw [7, 12] (fun v s wr => ∃ k : Nat, k ≤ l.length ∧ s = .int .i64 k ∧ RowI wr w.heap.size v (F k) ∧ Below w.heap.size w wr) (fun _ s _ => l.length - (intOf s).toNat)
  case atStart => exact ⟨0, Nat.zero_le _, rfl, by rw [HS0.out]; exact RowI.nil _ _, Below.refl _ _⟩
  case round => as_aux_lemma =>
    obtain ⟨k, hk, rfl, hown, hb⟩ := hrel
    have HOW := hid hown
    have HBW := hid hb
    by_cases hlt : k < l.length
    · obtain ⟨b, o, rfl, hc⟩ := X.num (HL.out.stays hb) hlt
      clear hown hb
      have hx0 := HOK.out.up.lo k hlt
      have hx1 := HOK.out.up.hi k hlt
      have hkk : (0 : Int) ≤ (k : Int) ∧ (k : Int) < (l.length : Int) := by omega
      have HSK := hid (HSU.out k)
      have hfl := HSL.out k
      generalize l.getD k 0 = x at *
      generalize F k = G at *
      have hwr1 : IntKind.i64.wrap (sh + wd) = sh + wd := IntWalk.i64_in _ (by omega)
      have hwr2 : IntKind.i64.wrap (x - sh) = x - sh := IntWalk.i64_in _ (by omega)
      by_cases h1 : sh ≤ x
      · by_cases h2 : x ≤ sh + wd
        · have HSK2 : Hid (F (k + 1) = G ++ [x - sh]) := hid (by rw [HSK.out, if_pos ⟨h1, h2⟩])
          have HM1' : Hid (G.length + 1 ≤ maxLen) := hid (by unfold maxLen; omega)
          have HM2' : Hid ((G.length + 1) * 8 ≤ 140737488355328) := hid (by omega)
          go_wp2_with (at_builtin; refine wpList_append_own _ rfl _ _ 22 rfl w.heap.size 3 i0 (.int .i64 0) 1 8 Try.underlying22 hi hz0 hz1 hz2 rfl (by decide) _ _ _ rfl (World.ownsRow.alloc HOW.out _) ⟨wr.heap.size, 0, none⟩ 1 1 [.int .i64 (x - sh)] rfl rfl (X.Lit.one' _ _ _ _ rfl) (by simp [Value.oneCell']) HM1'.out HM2'.out (Nat.le_trans HBW.out.size (by simp)) ?_; intro v' w9 hown' hgrow _)
          have HB9 := hid (Below.grown (HBW.out.alloc HBW.out.size (.cells #[.int .i64 (x - sh)] 3)) hgrow (by simp; have := HBW.out.size; omega) (fun q hq => (World.ownsRow.lt HOW.out q hq).1))
          have HO9 := hid (RowI.push hown')
          clear hown' hgrow
          go_wp2
          go_roundw
          case rel => exact ⟨k + 1, by omega, by go_num, by rw [HSK2.out]; exact HO9.out, HB9.out⟩
          case measure => simp [intOf]; omega
        · have h2' : decide (x ≤ sh + wd) = false := by simpa using h2
          have HSK2 : Hid (F (k + 1) = G) := hid (by rw [HSK.out, if_neg (fun h => h2 h.2), List.append_nil])
          clear h2
          go_wp2
          go_roundw
          case rel => exact ⟨k + 1, by omega, by go_num, by rw [HSK2.out]; exact HOW.out, HBW.out⟩
          case measure => simp [intOf]; omega
      · have h1' : decide (sh ≤ x) = false := by simpa using h1
        have HSK2 : Hid (F (k + 1) = G) := hid (by rw [HSK.out, if_neg (fun h => h1 h.1), List.append_nil])
        clear h1
        go_wp2
        go_roundw
        case rel => exact ⟨k + 1, by omega, by go_num, by rw [HSK2.out]; exact HOW.out, HBW.out⟩
        case measure => simp [intOf]; omega
    · have hke : k = l.length := by omega
      subst hke
      clear hown hb
      obtain ⟨x, cx, rfl, hr⟩ := HOW.out.rd
      have HR := hid hr
      clear hr
      go_wp2
      go_ret
      exact ⟨x, cx, rfl, HR.out, HBW.out⟩

/-- The shifts among the first k at which just this is seen. -/
def X.lo (l : List Int) (wd : Int) (se : List Int) (k : Nat) : List Int := ((List.range k).filter fun i : Nat => decide (X.sw l wd ((i : Int) - 60) l.length = se)).map fun i : Nat => (i : Int) - 60
theorem X.lo_succ (l : List Int) (wd : Int) (se : List Int) (k : Nat) : X.lo l wd se (k + 1) = X.lo l wd se k ++ (if X.sw l wd ((k : Int) - 60) l.length = se then [(k : Int) - 60] else []) := by
  unfold X.lo
  rw [List.range_succ, List.filter_append, List.map_append, List.filter_cons, List.filter_nil]
  by_cases h : X.sw l wd ((k : Int) - 60) l.length = se
  · rw [if_pos h, if_pos (by simpa using h)]; rfl
  · rw [if_neg h, if_neg (by simpa using h)]; rfl
theorem X.lo_len (l : List Int) (wd : Int) (se : List Int) (k : Nat) : (X.lo l wd se k).length ≤ k := by
  unfold X.lo
  rw [List.length_map]
  exact Nat.le_trans (List.length_filter_le _ _) (by simp)
def X.loE (l : List Int) (wd : Int) (se : List Int) : Int := if X.chk l = 0 then (if X.wi wd 0 60 = true then X.asc wd se else 4) else X.chk l
def X.loV (l : List Int) (wd : Int) (se : List Int) : List Int := if X.loE l wd se = 0 then X.lo l wd se 121 else []

set_option maxHeartbeats 2000000 in
theorem locate_any (a b : Option Addr) (c d : Nat) (l : List Int) (wd : Int) (se : List Int) (w : World) (hm : l.length ≤ maxLen) (hm2 : se.length ≤ maxLen) (hl : RdI w a l) (hse : RdI w b se) :
    Calls Try.prog 27 #[.slice a l.length c, .int .i64 wd, .slice b se.length d] w (X.LE (X.loV l wd se) (X.loE l wd se) w) := by
  obtain ⟨i0, hi, hz0, hz1, hz2⟩ := info_parts (show (Try.prog.info? 3).map (fun i => (i.zero, i.size, i.bytes)) = some (some (.int .i64 0), 1, 8) by kernel_rfl)
  have HC := hid (check_any a c l w hm hl)
  have HW := hid (within_any wd 0 60 w)
  have HA := hid (ascending_any b d se wd w hm2 hse)
  unfold X.loV
  by_cases h0 : X.chk l = 0
  · have hok := X.chk_zero.1 h0
    rw [h0] at HC
    cases hw : X.wi wd 0 60 with
    | false =>
      have HE : Hid (X.loE l wd se = 4) := hid (by unfold X.loE; rw [if_pos h0, hw]; rfl)
      rw [hw] at HW
      rw [HE.out, if_neg (show ¬ (4 : Int) = 0 by omega)]
      clear hw hl hse h0 hok
      go_enter Try.func27, Try.ntmps27
      go_wp2_with fail
      refine HC.out.mono ?_
      rintro e w1 ⟨rfl, rfl⟩
      go_wp2_with fail
      refine HW.out.mono ?_
      rintro e w2 ⟨rfl, rfl⟩
      go_wp2
      go_ret2
      exact ⟨none, 0, rfl, RdI.nil _ _, Below.refl _ _⟩
    | true =>
      have hwd := X.wi_true.1 hw
      have HE : Hid (X.loE l wd se = X.asc wd se) := hid (by unfold X.loE; rw [if_pos h0, hw]; rfl)
      rw [hw] at HW
      rw [HE.out]
      by_cases h1 : X.asc wd se = 0
      · rw [h1] at HA ⊢
        rw [if_pos rfl]
        have HSH := hid (fun (k : Nat) (hk : k < 121) (W : World) (h : Below w.heap.size w W) => show_any a c l wd ((k : Int) - 60) W (hl.stays h) hok hwd (by omega))
        have HSL := hid (fun k => X.sw_len l wd ((k : Int) - 60) l.length)
        have h8 := hok.eight
        have HEQ := hid (fun (x : Option Addr) (cx : Nat) (xs : List Int) (hx : xs.length ≤ 8) (W : World) (h : Below w.heap.size w W) (hr : RdI W x xs) => equalI_any x b cx d xs se W (by unfold maxLen; omega) hm2 hr (hse.stays h))
        have HSU := hid (X.lo_succ l wd se)
        have HLL := hid (X.lo_len l wd se)
        have HS0 : Hid (X.lo l wd se 0 = []) := hid rfl
        have HSL2 : Hid (∀ k : Nat, (X.sw l wd ((k : Int) - 60) l.length).length ≤ 8) := hid (fun k => by have := HSL.out k; omega)
        generalize X.lo l wd se = F at *
        generalize hG : (fun k : Nat => X.sw l wd ((k : Int) - 60) l.length) = G at *
        have HG : Hid (∀ k : Nat, X.sw l wd ((k : Int) - 60) l.length = G k) := hid (fun k => by rw [← hG])
        simp only [HG.out] at HSH HSU HSL2
        clear hG hw hl hse h0 h1 hok HSL
        go_enter Try.func27, Try.ntmps27
        go_wp2_with fail
        refine HC.out.mono ?_
        rintro e w1 ⟨rfl, rfl⟩
        go_wp2_with fail
        refine HW.out.mono ?_
        rintro e w2 ⟨rfl, rfl⟩
        go_wp2_with fail
        refine HA.out.mono ?_
        rintro e w3 ⟨rfl, rfl⟩
        go_wp2_with fail
        go_loopw [10, 11] (fun v s wr => ∃ k : Nat, k ≤ 121 ∧ s = .int .i64 ((k : Int) - 60) ∧ RowI wr w3.heap.size v (F k) ∧ Below w3.heap.size w3 wr) (fun _ s _ => (61 - intOf s).toNat)
        case atStart => exact ⟨0, by omega, by go_num, by rw [HS0.out]; exact RowI.nil _ _, Below.refl _ _⟩
        case round => as_aux_lemma =>
          obtain ⟨k, hk, rfl, hown, hb⟩ := hrel
          have HOW := hid hown
          have HBW := hid hb
          by_cases hlt : k < 121
          · have hle : (k : Int) - 60 ≤ 60 := by omega
            have HSK := hid (HSU.out k)
            have hfl := HLL.out k
            have HSW := hid (HSH.out k hlt wr hb)
            have h88 := HSL2.out k
            generalize F k = K at *
            clear hown hb
            by_cases he : G k = se
            · have HSK2 : Hid (F (k + 1) = K ++ [(k : Int) - 60]) := hid (by rw [HSK.out, if_pos he])
              have HDE := hid (decide_eq_true he)
              clear he
              have HM1' : Hid (K.length + 1 ≤ maxLen) := hid (by unfold maxLen; omega)
              have HM2' : Hid ((K.length + 1) * 8 ≤ 140737488355328) := hid (by omega)
              go_wp2_with fail
              refine HSW.out.mono ?_
              rintro e w4 ⟨x, cx, rfl, hr, hb4⟩
              have HB4 := hid (HBW.out.trans (hb4.mono HBW.out.size))
              have HO4 := hid (RowI.stays HOW.out hb4)
              have HQ := hid (HEQ.out x cx (G k) h88 w4 HB4.out hr)
              rw [HDE.out] at HQ
              clear hr hb4
              go_wp2_with fail
              refine HQ.out.mono ?_
              rintro e w5 ⟨rfl, hb5⟩
              have HB5 := hid (HB4.out.trans (hb5.mono HB4.out.size))
              have HO5 := hid (RowI.stays HO4.out hb5)
              clear hb5
              go_wp2_with (at_builtin; refine wpList_append_own _ rfl _ _ 22 rfl w3.heap.size 3 i0 (.int .i64 0) 1 8 Try.underlying22 hi hz0 hz1 hz2 rfl (by decide) _ _ _ rfl (World.ownsRow.alloc HO5.out _) ⟨w5.heap.size, 0, none⟩ 1 1 [.int .i64 ((k : Int) - 60)] rfl rfl (X.Lit.one' _ _ _ _ rfl) (by simp [Value.oneCell']) HM1'.out HM2'.out (Nat.le_trans HB5.out.size (by simp)) ?_; intro v' w9 hown' hgrow _)
              have HB9 := hid (Below.grown (HB5.out.alloc HB5.out.size (.cells #[.int .i64 ((k : Int) - 60)] 3)) hgrow (by simp; have := HB5.out.size; omega) (fun q hq => (World.ownsRow.lt HO5.out q hq).1))
              have HO9 := hid (RowI.push hown')
              clear hown' hgrow
              go_wp2
              go_roundw
              case rel => exact ⟨k + 1, by omega, by go_num, by rw [HSK2.out]; exact HO9.out, HB9.out⟩
              case measure => simp [intOf]; omega
            · have HSK2 : Hid (F (k + 1) = K) := hid (by rw [HSK.out, if_neg he, List.append_nil])
              have HDE := hid (decide_eq_false he)
              clear he
              go_wp2_with fail
              refine HSW.out.mono ?_
              rintro e w4 ⟨x, cx, rfl, hr, hb4⟩
              have HB4 := hid (HBW.out.trans (hb4.mono HBW.out.size))
              have HO4 := hid (RowI.stays HOW.out hb4)
              have HQ := hid (HEQ.out x cx (G k) h88 w4 HB4.out hr)
              rw [HDE.out] at HQ
              clear hr hb4
              go_wp2_with fail
              refine HQ.out.mono ?_
              rintro e w5 ⟨rfl, hb5⟩
              have HB5 := hid (HB4.out.trans (hb5.mono HB4.out.size))
              have HO5 := hid (RowI.stays HO4.out hb5)
              clear hb5
              go_wp2
              go_roundw
              case rel => exact ⟨k + 1, by omega, by go_num, by rw [HSK2.out]; exact HO5.out, HB5.out⟩
              case measure => simp [intOf]; omega
          · have hke : k = 121 := by omega
            subst hke
            have hle : ¬ (((121 : Nat) : Int) - 60 ≤ 60) := by omega
            clear hown hb
            obtain ⟨x, cx, rfl, hr⟩ := HOW.out.rd
            have HR := hid hr
            clear hr
            go_wp2
            go_ret2
            exact ⟨x, cx, rfl, HR.out, HBW.out⟩
      · rw [if_neg h1]
        have hne : (X.asc wd se != 0) = true := by rw [bne_iff_ne]; exact h1
        generalize X.asc wd se = z at *
        clear hl hse h1
        go_enter Try.func27, Try.ntmps27
        go_wp2_with fail
        refine HC.out.mono ?_
        rintro e w1 ⟨rfl, rfl⟩
        go_wp2_with fail
        refine HW.out.mono ?_
        rintro e w2 ⟨rfl, rfl⟩
        go_wp2_with fail
        refine HA.out.mono ?_
        rintro e w3 ⟨rfl, rfl⟩
        go_wp2
        go_ret2
        exact ⟨none, 0, rfl, RdI.nil _ _, Below.refl _ _⟩
  · have HE : Hid (X.loE l wd se = X.chk l) := hid (by unfold X.loE; rw [if_neg h0])
    rw [HE.out, if_neg h0]
    have hne : (X.chk l != 0) = true := by rw [bne_iff_ne]; exact h0
    generalize X.chk l = z at *
    clear hl hse h0
    go_enter Try.func27, Try.ntmps27
    go_wp2_with fail
    refine HC.out.mono ?_
    rintro e w1 ⟨rfl, rfl⟩
    go_wp2
    go_ret2
    exact ⟨none, 0, rfl, RdI.nil _ _, Below.refl _ _⟩
end Go.Proofs.Ythaoacnaeafbeaa
