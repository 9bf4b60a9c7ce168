/- Package mark: checkSuspects, Verify. -/
import Derived.Test.YthnklabdjaiplaaDoorMCan
import Derived.Test.YthnklabdjaiplaaDoorMMem
import Derived.Test.YthnklabdjaiplaaDoorMFew
namespace Go.Proofs.YthnklabdjaiplaaDoor
open Go.RowKit

/-- The error of a coalition of a doubt. -/
def M.cs (T : List (List Int)) (wd l : List Int) : Int := if M.co T.length l = 0 then (if 2 < l.length then 2 else if M.can T l wd = true then 0 else 13) else M.co T.length l
theorem M.cs_zero {T : List (List Int)} {wd l : List Int} (h : M.cs T wd l = 0) : M.Co T.length l ∧ l.length ≤ 2 ∧ M.can T l wd = true := by
  unfold M.cs at h
  by_cases h1 : M.co T.length l = 0
  · rw [if_pos h1] at h
    by_cases h2 : 2 < l.length
    · rw [if_pos h2] at h; omega
    · rw [if_neg h2] at h
      by_cases h3 : M.can T l wd = true
      · exact ⟨M.co_zero.1 h1, by omega, h3⟩
      · rw [if_neg h3] at h; omega
  · rw [if_neg h1] at h
    exact absurd h h1

set_option maxHeartbeats 400000 in
theorem checkSuspects_any (m : Int) (a : Option Addr) (c : Nat) (T : List (List Int)) (aw : Option Addr) (cw : Nat) (wd : List Int) (al : Option Addr) (cl : Nat) (l : List Int) (w : World) (hok : M.Ok m T) (hwl : wd.length = M.pl T) (hwm : ∀ k, k < M.pl T → 0 ≤ wd.getD k 0 ∧ wd.getD k 0 < m) (hl0 : l.length ≤ maxLen) (hT : RdM w a T) (hw : RdI w aw wd) (hl : RdI w al l) :
    Calls Tryd.prog 64 #[M.cv m a T.length c, .slice aw wd.length cw, .slice al l.length cl] w fun e w' => e = .returned (.int .i64 (M.cs T wd l)) ∧ Below w.heap.size w w' := by
  obtain ⟨W, hW, c0, c1, hB, hlt⟩ := M.cvNew w m a T.length c
  have HB := hid hB
  have HC := hid (checkCoalition_any m a c T.length al cl l W hl0 (hl.stays hB))
  have HM := hid (fun w' (hb : Below W.heap.size W w') (hi : M.In T.length l) => canMake_any m a c T al cl l aw cw wd w' ⟨hok, hl0, hi, hwl, hwm⟩ ((hT.stays hB).stays hb) ((hl.stays hB).stays hb) ((hw.stays hB).stays hb))
  unfold M.cv at *
  unfold maxLen at hl0
  by_cases h0 : M.co T.length l = 0
  · have hin := (M.co_zero.1 h0).inn
    have HR : Hid (M.cs T wd l = if 2 < l.length then 2 else if M.can T l wd = true then 0 else 13) := hid (by unfold M.cs; rw [if_pos h0])
    rw [h0] at HC
    clear hB hT hw hl h0 hwl hwm
    by_cases h2 : 2 < l.length
    · have HR2 := hid HR.out
      rw [if_pos h2] at HR2
      have h2' : (2 : Int) < (l.length : Int) := by omega
      rw [HR2.out]
      go_enter Tryd.func64, Tryd.ntmps64
      go_wp2_with fail
      rw [hW] at *
      go_wp2_with (refine HC.out.mono ?_; rintro e w8 ⟨rfl, hb8⟩; replace hb8 := hid hb8)
      go_ret
      exact ⟨rfl, HB.out.trans (hb8.out.mono HB.out.size)⟩
    have HR2 := hid HR.out
    rw [if_neg h2] at HR2
    have h2' : ¬ (2 : Int) < (l.length : Int) := by omega
    have HMM := hid (fun w' hb => HM.out w' hb hin)
    clear h2
    cases hr : M.can T l wd with
    | true =>
      have HR3 : Hid (M.cs T wd l = 0) := hid (by rw [HR2.out, if_pos hr])
      rw [hr] at HMM
      rw [HR3.out]
      clear hr
      go_enter Tryd.func64, Tryd.ntmps64
      go_wp2_with fail
      rw [hW] at *
      go_wp2_with (refine HC.out.mono ?_; rintro e w8 ⟨rfl, hb8⟩; have c0' := cell_stays hb8 (Nat.le_refl _) c0; have c1' := cell_stays hb8 (Nat.le_refl _) c1; have HM8 := hid (HMM.out w8 hb8); replace hb8 := hid hb8)
      refine HM8.out.mono ?_
      rintro e w9 ⟨rfl, hb9⟩
      have HB9 := hid (HB.out.trans ((hb8.out.trans (hb9.mono hb8.out.size)).mono HB.out.size))
      clear hb9
      go_wp2
      go_ret
      exact ⟨rfl, HB9.out⟩
    | false =>
      have HR3 : Hid (M.cs T wd l = 13) := hid (by rw [HR2.out, if_neg (by rw [hr]; exact Bool.false_ne_true)])
      rw [hr] at HMM
      rw [HR3.out]
      clear hr
      go_enter Tryd.func64, Tryd.ntmps64
      go_wp2_with fail
      rw [hW] at *
      go_wp2_with (refine HC.out.mono ?_; rintro e w8 ⟨rfl, hb8⟩; have c0' := cell_stays hb8 (Nat.le_refl _) c0; have c1' := cell_stays hb8 (Nat.le_refl _) c1; have HM8 := hid (HMM.out w8 hb8); replace hb8 := hid hb8)
      refine HM8.out.mono ?_
      rintro e w9 ⟨rfl, hb9⟩
      have HB9 := hid (HB.out.trans ((hb8.out.trans (hb9.mono hb8.out.size)).mono HB.out.size))
      clear hb9
      go_wp2
      go_ret
      exact ⟨rfl, HB9.out⟩
  · have HR : Hid (M.cs T wd l = M.co T.length l) := hid (by unfold M.cs; rw [if_neg h0])
    have h0' : (M.co T.length l == 0) = false := beq_eq_false_iff_ne.2 h0
    rw [HR.out]
    clear hB hT hw hl h0 hwl hwm
    generalize M.co T.length l = y at *
    go_enter Tryd.func64, Tryd.ntmps64
    go_wp2_with fail
    rw [hW] at *
    go_wp2_with (refine HC.out.mono ?_; rintro e w8 ⟨rfl, hb8⟩; replace hb8 := hid hb8)
    go_ret
    exact ⟨rfl, HB.out.trans (hb8.out.mono HB.out.size)⟩

/-- The error of a doubt. -/
def M.ver (m : Int) (T : List (List Int)) (wd : List Int) (L : List (List Int)) : Int :=
  if M.chkw m T wd = 0 then (if L.length = 0 then 1 else if 10 < L.length then 2 else if M.fst (fun i => M.cs T wd (L.getD i [])) L.length = 0 then (if 0 < (M.mem L).length then 12 else 0) else M.fst (fun i => M.cs T wd (L.getD i [])) L.length) else M.chkw m T wd

theorem M.cs_in {T : List (List Int)} {wd : List Int} {L : List (List Int)} (hn : T.length ≤ 10) (h : ∀ i, i < L.length → M.cs T wd (L.getD i []) = 0) :
    (∀ i, i < L.length → (L.getD i []).length ≤ 10) ∧ ∀ x, x ∈ L.flatten → 0 ≤ x ∧ x < 10 := by
  refine ⟨fun i hi => by have := (M.cs_zero (h i hi)).2.1; omega, fun x hx => ?_⟩
  obtain ⟨r, hr, hxr⟩ := List.mem_flatten.1 hx
  obtain ⟨i, hi, rfl⟩ := List.getElem_of_mem hr
  have e : L.getD i [] = L[i] := by rw [List.getD_eq_getElem?_getD, List.getElem?_eq_getElem hi]; rfl
  have := (M.cs_zero (h i hi)).1.inn x (by rw [e]; exact hxr)
  omega

/-- A doubt as a value. -/
def M.dv (aw : Option Addr) (n cw : Nat) (al : Option Addr) (k cl : Nat) : Value := .agg #[.slice aw n cw, .slice al k cl]

set_option maxHeartbeats 1000000 in
theorem Verify_any (m : Int) (a : Option Addr) (c : Nat) (T : List (List Int)) (aw : Option Addr) (cw : Nat) (wd : List Int) (al : Option Addr) (cl : Nat) (L : List (List Int)) (w : World) (hm : T.length ≤ maxLen) (hml : ∀ i, i < T.length → (T.getD i []).length ≤ maxLen) (hwl : wd.length ≤ maxLen) (hll : ∀ i, i < L.length → (L.getD i []).length ≤ maxLen) (hT : RdM w a T) (hw : RdI w aw wd) (hL : RdM w al L) :
    Calls Tryd.prog 32 #[M.cv m a T.length c, M.dv aw wd.length cw al L.length cl] w fun e w' => e = .returned (.int .i64 (M.ver m T wd L)) ∧ Below w.heap.size w w' := by
  obtain ⟨W0, hW0, c0, c1, hB0, hlt⟩ := M.cvNew w m a T.length c
  obtain ⟨W, hW⟩ : ∃ W, W0.alloc (.cells #[.slice aw wd.length cw, .slice al L.length cl] 57) = W := ⟨_, rfl⟩
  have hs0 : W0.heap.size = w.heap.size + 1 := by rw [← hW0]; simp
  have hB : Below w.heap.size w W := by rw [← hW]; exact hB0.alloc hB0.size _
  have k0 : W.cell? ⟨w.heap.size, 0, none⟩ = some (.int .i64 m) := by rw [← hW]; exact Lib.cell?_alloc_some _ c0
  have k1 : W.cell? ⟨w.heap.size, 1, none⟩ = some (.slice a T.length c) := by rw [← hW]; exact Lib.cell?_alloc_some _ c1
  have d0 : W.cell? ⟨W0.heap.size, 0, none⟩ = some (.slice aw wd.length cw) := by rw [← hW, World.cell?_alloc_at _ _ _ _ rfl]; rfl
  have d1 : W.cell? ⟨W0.heap.size, 1, none⟩ = some (.slice al L.length cl) := by rw [← hW, World.cell?_alloc_at _ _ _ _ rfl]; rfl
  have HB := hid hB
  have HC := hid (checkCopy_any m a c T aw cw wd W hm hml hwl (hT.stays hB) (hw.stays hB))
  have HT := hid (hT.stays hB)
  have HWD := hid (hw.stays hB)
  have HL := hid (hL.stays hB)
  have HLL := hid hll
  have HML := hid hml
  unfold M.cv M.dv at *
  clear hB hB0 c0 c1 hs0 hT hw hL hll hml hlt
  by_cases h0 : M.chkw m T wd = 0
  · have hck : M.chk m T = 0 ∧ M.wd m (M.pl T) wd = 0 := by
      unfold M.chkw at h0
      by_cases h : M.chk m T = 0
      · rw [if_pos h] at h0; exact ⟨h, h0⟩
      · rw [if_neg h] at h0; exact absurd h0 h
    have HOK := hid (M.chk_zero.1 hck.1)
    have HWX := hid (M.wd_zero.1 hck.2)
    have HR : Hid (M.ver m T wd L = if L.length = 0 then 1 else if 10 < L.length then 2 else if M.fst (fun i => M.cs T wd (L.getD i [])) L.length = 0 then (if 0 < (M.mem L).length then 12 else 0) else M.fst (fun i => M.cs T wd (L.getD i [])) L.length) := hid (by unfold M.ver; rw [if_pos h0])
    rw [h0] at HC
    clear h0 hck
    go_enter Tryd.func32, Tryd.ntmps32
    go_wp2_with fail
    rw [hW0, hW] at *
    clear hW0 hW
    refine HC.out.mono ?_
    rintro e w8 ⟨rfl, hb8⟩
    have c0 := cell_stays hb8 (Nat.le_refl _) k0
    have c1 := cell_stays hb8 (Nat.le_refl _) k1
    have e0 := cell_stays hb8 (Nat.le_refl _) d0
    have e1 := cell_stays hb8 (Nat.le_refl _) d1
    have HT8 := hid (HT.out.stays hb8)
    have HW8 := hid (HWD.out.stays hb8)
    have HL8 := hid (HL.out.stays hb8)
    have HB8 := hid (HB.out.trans (hb8.mono HB.out.size))
    clear hb8 k0 k1 d0 d1 HT HWD HL HB HC
    by_cases h1 : L.length = 0
    · have HR2 : Hid (M.ver m T wd L = 1) := hid (by rw [HR.out, if_pos h1])
      have h1' : ((L.length : Int) == 0) = true := beq_iff_eq.2 (by omega)
      clear h1
      go_wp2
      go_ret
      exact ⟨ret_int HR2.out.symm, HB8.out⟩
    have h1' : ((L.length : Int) == 0) = false := beq_eq_false_iff_ne.2 (by omega)
    by_cases h2 : 10 < L.length
    · have HR2 : Hid (M.ver m T wd L = 2) := hid (by rw [HR.out, if_neg h1, if_pos h2])
      have h2' : (10 : Int) < (L.length : Int) := by omega
      clear h1 h2
      go_wp2
      go_ret
      exact ⟨ret_int HR2.out.symm, HB8.out⟩
    have h2' : ¬ (10 : Int) < (L.length : Int) := by omega
    have h10 : L.length ≤ 10 := by omega
    have HN1 : Hid (1 ≤ L.length) := hid (by omega)
    generalize hf : (fun i => M.cs T wd (L.getD i [])) = f at *
    have HF : Hid (∀ i, M.cs T wd (L.getD i []) = f i) := hid (fun i => by rw [← hf])
    have HR2 : Hid (M.ver m T wd L = if M.fst f L.length = 0 then (if 0 < (M.mem L).length then 12 else 0) else M.fst f L.length) := hid (by rw [HR.out, if_neg h1, if_neg h2])
    clear h1 h2 hf HR
    go_wp2
    go_loopw [29] (fun i wr => ∃ k : Nat, k ≤ L.length ∧ i = .int .i64 k ∧ M.fst f k = 0 ∧ Below w8.heap.size w8 wr) (fun i _ => L.length - (intOf i).toNat)
    case atStart => exact ⟨0, Nat.zero_le _, rfl, rfl, Below.refl _ _⟩
    case round =>
      obtain ⟨k, hk, rfl, hz, hb⟩ := hrel
      have HZ := hid hz
      have HBR := hid hb
      have q0 := cell_stays hb (Nat.le_refl _) c0
      have q1 := cell_stays hb (Nat.le_refl _) c1
      have p0 := cell_stays hb (Nat.le_refl _) e0
      have p1 := cell_stays hb (Nat.le_refl _) e1
      have HTR := hid (HT8.out.stays hb)
      have HWR := hid (HW8.out.stays hb)
      have HLR := hid (HL8.out.stays hb)
      clear hz hb c0 c1 e0 e1
      by_cases hlt : k < L.length
      · obtain ⟨b2, o2, r2, cr2, rfl, hck, hrk⟩ := M.row HLR.out hlt
        have HCS := hid (checkSuspects_any m a c T aw cw wd r2 cr2 (L.getD k []) wr HOK.out HWX.out.1 HWX.out.2 (HLL.out k hlt) HTR.out HWR.out hrk)
        rw [HF.out k] at HCS
        have HK : Hid (f k ≠ 0 → M.fst f L.length = f k) := hid (fun h => M.fst_at HZ.out hlt h)
        have HK2 : Hid (f k = 0 → M.fst f (k + 1) = 0) := hid (fun h => M.fst_step HZ.out h)
        unfold M.cv at HCS
        clear hrk
        generalize L.getD k [] = row at *
        by_cases h3 : f k = 0
        · have HQ := hid (HK2.out h3)
          rw [h3] at HCS
          clear h3
          go_wp2_with (refine HCS.out.mono ?_; rintro e w9 ⟨rfl, hb9⟩; replace hb9 := hid hb9)
          go_roundw
          case rel => exact ⟨k + 1, by omega, by go_num, HQ.out, HBR.out.trans (hb9.out.mono HBR.out.size)⟩
          case measure => simp [intOf]; omega
        · have HQ := hid (HK.out h3)
          have h3' : (f k == 0) = false := beq_eq_false_iff_ne.2 h3
          have HR3 : Hid (M.ver m T wd L = f k) := hid (by rw [HR2.out, HQ.out, if_neg h3])
          generalize f k = y at *
          clear h3
          go_wp2_with (refine HCS.out.mono ?_; rintro e w9 ⟨rfl, hb9⟩; replace hb9 := hid hb9)
          go_ret
          exact ⟨ret_int HR3.out.symm, HB8.out.trans ((HBR.out.trans (hb9.out.mono HBR.out.size)).mono HB8.out.size)⟩
      · have hke : k = L.length := by omega
        subst hke
        have HR3 : Hid (M.ver m T wd L = if 0 < (M.mem L).length then 12 else 0) := hid (by rw [HR2.out, if_pos HZ.out])
        have hin := M.cs_in (T := T) (wd := wd) (L := L) HOK.out.n10 (fun i hi => by rw [HF.out i]; exact M.fst_zero.1 HZ.out i hi)
        have HMM := hid (membersOfAll_any al cl L wr HN1.out (by omega) hin.1 hin.2 HLR.out)
        clear hin
        generalize M.mem L = Z at *
        go_wp2_with fail
        refine HMM.out.mono ?_
        rintro e w9 ⟨v9, rfl, hro, hb9⟩
        obtain ⟨a9, c9, rfl, -⟩ := hro.rd
        have HB9 := hid (HB8.out.trans ((HBR.out.trans (hb9.mono HBR.out.size)).mono HB8.out.size))
        clear hro hb9
        by_cases h4 : 0 < Z.length
        · have h4' : (0 : Int) < (Z.length : Int) := by omega
          have HR4 : Hid (M.ver m T wd L = 12) := hid (by rw [HR3.out, if_pos h4])
          clear h4
          go_wp2
          go_ret
          exact ⟨ret_int HR4.out.symm, HB9.out⟩
        · have h4' : ¬ (0 : Int) < (Z.length : Int) := by omega
          have HR4 : Hid (M.ver m T wd L = 0) := hid (by rw [HR3.out, if_neg h4])
          clear h4
          go_wp2
          go_ret
          exact ⟨ret_int HR4.out.symm, HB9.out⟩
  · have HR : Hid (M.ver m T wd L = M.chkw m T wd) := hid (by unfold M.ver; rw [if_neg h0])
    have h0' : (M.chkw m T wd == 0) = false := beq_eq_false_iff_ne.2 h0
    rw [HR.out]
    generalize M.chkw m T wd = y at *
    clear h0
    go_enter Tryd.func32, Tryd.ntmps32
    go_wp2_with fail
    rw [hW0, hW] at *
    clear hW0 hW
    refine HC.out.mono ?_
    rintro e w8 ⟨rfl, hb8⟩
    have HB8 := hid (HB.out.trans (hb8.mono HB.out.size))
    clear hb8
    go_wp2
    go_ret
    exact ⟨rfl, HB8.out⟩
end Go.Proofs.YthnklabdjaiplaaDoor
