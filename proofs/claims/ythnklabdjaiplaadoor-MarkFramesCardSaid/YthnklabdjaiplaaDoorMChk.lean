/- Package mark: the walks of checkWord, Check, checkCopy, checkSize, checkCoalition. -/
import Derived.Test.YthnklabdjaiplaaDoorProg
import Derived.Test.YthnklabdjaiplaaDoorMPlain
import Derived.WalkKit
import Derived.BigQuiet
namespace Go.Proofs.YthnklabdjaiplaaDoor
open Go.RowKit

/-- A code as a value. -/
def M.cv (m : Int) (a : Option Addr) (n c : Nat) : Value := .agg #[.int .i64 m, .slice a n c]

theorem M.row {w : World} {a : Option Addr} {T : List (List Int)} (h : RdM w a T) {i : Nat} (hi : i < T.length) :
    ∃ b off r c, a = some ⟨b, off, none⟩ ∧ w.cell? ⟨b, off + i, none⟩ = some (.slice r (T.getD i []).length c) ∧ RdI w r (T.getD i []) := by
  obtain ⟨b, off, r, c, h1, h2, h3⟩ := h i hi
  have e : T.getD i [] = T[i] := by rw [List.getD_eq_getElem?_getD, List.getElem?_eq_getElem hi]; rfl
  rw [e]
  exact ⟨b, off, r, c, h1, h2, h3⟩

theorem M.row0 {w : World} {a : Option Addr} {T : List (List Int)} (h : RdM w a T) (hi : 0 < T.length) :
    ∃ b off r c, a = some ⟨b, off, none⟩ ∧ w.cell? ⟨b, off, none⟩ = some (.slice r (M.pl T) c) ∧ RdI w r (T.getD 0 []) := M.row h hi

theorem M.num {w : World} {a : Option Addr} {l : List Int} (h : RdI w a l) {i : Nat} (hi : i < l.length) :
    ∃ b off, a = some ⟨b, off, none⟩ ∧ w.cell? ⟨b, off + i, none⟩ = some (.int .i64 (l.getD i 0)) := by
  obtain ⟨b, off, h1, h2⟩ := h i hi
  have e : l.getD i 0 = l[i] := by rw [List.getD_eq_getElem?_getD, List.getElem?_eq_getElem hi]; rfl
  rw [e]
  exact ⟨b, off, h1, h2⟩

/-- A code in a variable: its cells. -/
theorem M.cvNew (w : World) (m : Int) (a : Option Addr) (n c : Nat) : ∃ W, w.alloc (.cells #[.int .i64 m, .slice a n c] 24) = W ∧ W.cell? ⟨w.heap.size, 0, none⟩ = some (.int .i64 m) ∧ W.cell? ⟨w.heap.size, 1, none⟩ = some (.slice a n c) ∧ Below w.heap.size w W ∧ w.heap.size < W.heap.size :=
  ⟨_, rfl, by rw [World.cell?_alloc_at _ _ _ _ rfl]; rfl, by rw [World.cell?_alloc_at _ _ _ _ rfl]; rfl, (Below.refl _ _).alloc (Nat.le_refl _) _, by simp⟩

set_option maxHeartbeats 1000000 in
theorem checkWord_any (m : Int) (a : Option Addr) (c : Nat) (T : List (List Int)) (aw : Option Addr) (cw : Nat) (l : List Int) (w : World) (hm : l.length ≤ maxLen) (h0 : 0 < T.length) (hT : RdM w a T) (hl : RdI w aw l) :
    Calls Tryd.prog 49 #[M.cv m a T.length c, .slice aw l.length cw] w fun e w' => e = .returned (.int .i64 (M.wd m (M.pl T) l)) ∧ Below w.heap.size w w' := by
  unfold maxLen at hm
  obtain ⟨W, hW, c0, c1, hB, hlt⟩ := M.cvNew w m a T.length c
  obtain ⟨b, off, r, cr, rfl, hc, -⟩ := M.row0 (hT.stays hB) h0
  have HL := hid (hl.stays hB)
  have HB := hid hB
  have HT0 : Hid (0 < T.length) := hid h0
  have hix : (0 : Int) < (T.length : Int) := by omega
  unfold M.cv
  by_cases hp : l.length = M.pl T
  · have HE : Hid (M.wd m (M.pl T) l = M.fst (fun k => if l.getD k 0 < 0 ∨ m ≤ l.getD k 0 then 4 else 0) l.length) := hid (by unfold M.wd; rw [if_pos hp])
    rw [← hp] at hc
    clear hB hl hT hp
    generalize hf : (fun k => if l.getD k 0 < 0 ∨ m ≤ l.getD k 0 then (4 : Int) else 0) = f at *
    have HF : Hid (∀ k, f k = if l.getD k 0 < 0 ∨ m ≤ l.getD k 0 then (4 : Int) else 0) := hid (fun k => by rw [← hf])
    clear hf
    go_enter Tryd.func49, Tryd.ntmps49
    go_wp2
    rw [hW] at *
    go_loop [17] (fun i => ∃ k : Nat, k ≤ l.length ∧ i = .int .i64 k ∧ M.fst f k = 0) (fun i => l.length - (intOf i).toNat)
    case atStart => exact ⟨0, Nat.zero_le _, rfl, rfl⟩
    case round =>
      obtain ⟨k, hk, rfl, hz⟩ := hrel
      have HZ := hid hz
      clear hz
      by_cases hlt2 : k < l.length
      · obtain ⟨b2, o2, rfl, hck⟩ := M.num HL.out hlt2
        have HFK := hid (HF.out k)
        have HK : Hid (f k ≠ 0 → M.fst f l.length = f k) := hid (fun h => M.fst_at HZ.out hlt2 h)
        have HK2 : Hid (f k = 0 → M.fst f (k + 1) = 0) := hid (fun h => M.fst_step HZ.out h)
        generalize l.getD k 0 = x at *
        by_cases h1 : x < 0
        · have HR : Hid (M.wd m (M.pl T) l = 4) := hid (by
            have e := HFK.out; rw [if_pos (.inl h1)] at e
            rw [HE.out, HK.out (by omega), e])
          go_wp2
          go_ret
          exact ⟨ret_int HR.out.symm, HB.out⟩
        · by_cases h2 : m ≤ x
          · have HR : Hid (M.wd m (M.pl T) l = 4) := hid (by
              have e := HFK.out; rw [if_pos (.inr h2)] at e
              rw [HE.out, HK.out (by omega), e])
            go_wp2
            go_ret
            exact ⟨ret_int HR.out.symm, HB.out⟩
          · have HR := hid (HK2.out (by rw [HFK.out, if_neg (by omega)]))
            have h3 : x < m := by omega
            go_wp2
            go_round
            case rel => exact ⟨k + 1, by omega, by go_num, HR.out⟩
            case measure => simp [intOf]; omega
      · have hke : k = l.length := by omega
        subst hke
        go_wp2
        go_ret
        exact ⟨ret_int (by rw [HE.out, HZ.out]), HB.out⟩
  · have HE : Hid (M.wd m (M.pl T) l = 3) := hid (by unfold M.wd; rw [if_neg hp])
    have hp1 : ((l.length : Int) == (M.pl T : Int)) = false := beq_eq_false_iff_ne.2 (by omega)
    clear hB hl hT hp
    go_enter Tryd.func49, Tryd.ntmps49
    go_wp2
    rw [hW] at *
    go_ret
    exact ⟨ret_int HE.out.symm, HB.out⟩

set_option maxHeartbeats 4000000 in
theorem check_any (m : Int) (a : Option Addr) (c : Nat) (T : List (List Int)) (w : World) (hm : T.length ≤ maxLen) (hml : ∀ i, i < T.length → (T.getD i []).length ≤ maxLen) (hT : RdM w a T) :
    Calls Tryd.prog 20 #[M.cv m a T.length c] w fun e w' => e = .returned (.int .i64 (M.chk m T)) ∧ Below w.heap.size w w' := by
  unfold maxLen at hm
  obtain ⟨W, hW, c0, c1, hB, hlt⟩ := M.cvNew w m a T.length c
  have HB := hid hB
  have HTW := hid (hT.stays hB)
  have HML := hid hml
  clear hml
  unfold M.cv
  by_cases h1 : m < 2
  · have HR : Hid (M.chk m T = 4) := hid (by unfold M.chk; rw [if_pos (.inl h1)])
    clear hB hT
    go_enter Tryd.func20, Tryd.ntmps20
    go_wp2
    rw [hW] at *
    go_ret
    exact ⟨ret_int HR.out.symm, HB.out⟩
  have h1' : decide (m < 2) = false := by simpa using h1
  by_cases h2 : 4 < m
  · have HR : Hid (M.chk m T = 4) := hid (by unfold M.chk; rw [if_pos (.inr h2)])
    clear hB hT
    go_enter Tryd.func20, Tryd.ntmps20
    go_wp2
    rw [hW] at *
    go_ret
    exact ⟨ret_int HR.out.symm, HB.out⟩
  have h2' : decide (4 < m) = false := by simpa using h2
  by_cases h3 : T.length = 0
  · have HR : Hid (M.chk m T = 1) := hid (by unfold M.chk; rw [if_neg (by omega), if_pos h3])
    clear hB hT
    rw [h3] at hW c1
    go_enter Tryd.func20, Tryd.ntmps20
    go_wp2
    rw [hW] at *
    go_ret
    exact ⟨ret_int HR.out.symm, HB.out⟩
  have h3' : ((T.length : Int) == 0) = false := beq_eq_false_iff_ne.2 (by omega)
  by_cases h4 : 10 < T.length
  · have HR : Hid (M.chk m T = 2) := hid (by unfold M.chk; rw [if_neg (by omega), if_neg h3, if_pos h4])
    clear hB hT
    go_enter Tryd.func20, Tryd.ntmps20
    go_wp2
    rw [hW] at *
    go_ret
    exact ⟨ret_int HR.out.symm, HB.out⟩
  have h4' : decide ((10 : Int) < T.length) = false := decide_eq_false (by omega)
  have hix : (0 : Int) < (T.length : Int) := by omega
  obtain ⟨b, off, r, cr, rfl, hc, -⟩ := M.row0 HTW.out (by omega)
  have HCW := hid (fun i w (hi : i < T.length) (h : RdM w (some ⟨b, off, none⟩) T) (aw : Option Addr) (cw : Nat) (hl : RdI w aw (T.getD i [])) => checkWord_any m (some ⟨b, off, none⟩) c T aw cw (T.getD i []) w (HML.out i hi) (by omega) h hl)
  have HE : Hid (M.chk m T = if M.pl T = 0 ∨ 8 < M.pl T then 3 else if M.fst (fun i => if (T.getD i []).length = M.pl T then 0 else 3) T.length = 0 then M.fst (fun i => M.wd m (M.pl T) (T.getD i [])) T.length else 3) := hid (by
    unfold M.chk; rw [if_neg (by omega), if_neg h3, if_neg h4])
  have HPL : Hid (M.pl T ≤ maxLen) := hid (HML.out 0 (by omega))
  have HMK : Hid (M.cv m (some ⟨b, off, none⟩) T.length c = .agg #[.int .i64 m, .slice (some ⟨b, off, none⟩) T.length c]) := hid rfl
  unfold M.cv at HCW
  generalize hp : M.pl T = p at *
  by_cases h5 : p = 0
  · have HR : Hid (M.chk m T = 3) := hid (by rw [HE.out, if_pos (.inl h5)])
    subst h5
    clear hB hT hp
    go_enter Tryd.func20, Tryd.ntmps20
    go_wp2
    rw [hW] at *
    go_ret
    exact ⟨ret_int HR.out.symm, HB.out⟩
  have h5' : ((p : Int) == 0) = false := beq_eq_false_iff_ne.2 (by omega)
  by_cases h6 : 8 < p
  · have HR : Hid (M.chk m T = 3) := hid (by rw [HE.out, if_pos (.inr h6)])
    clear hB hT hp
    go_enter Tryd.func20, Tryd.ntmps20
    go_wp2
    rw [hW] at *
    go_ret
    exact ⟨ret_int HR.out.symm, HB.out⟩
  have h6' : decide ((8 : Int) < p) = false := decide_eq_false (by omega)
  have HE2 : Hid (M.chk m T = if M.fst (fun i => if (T.getD i []).length = p then 0 else 3) T.length = 0 then M.fst (fun i => M.wd m p (T.getD i [])) T.length else 3) := hid (by rw [HE.out, if_neg (by omega)])
  clear HE HMK hB hT hp
  generalize hf : (fun i => if (T.getD i []).length = p then (0 : Int) else 3) = f at *
  have HF : Hid (∀ k, f k = if (T.getD k []).length = p then (0 : Int) else 3) := hid (fun k => by rw [← hf])
  generalize hg : (fun i => M.wd m p (T.getD i [])) = g at *
  have HG : Hid (∀ k, M.wd m p (T.getD k []) = g k) := hid (fun k => by rw [← hg])
  clear hf hg h1 h2 h3 h4
  go_enter Tryd.func20, Tryd.ntmps20
  go_wp2
  rw [hW] at *
  clear h1' h2' h3' h4' h5' h6'
  go_loop [45] (fun i => ∃ k : Nat, k ≤ T.length ∧ i = .int .i64 k ∧ M.fst f k = 0) (fun i => T.length - (intOf i).toNat)
  case atStart => exact ⟨0, Nat.zero_le _, rfl, rfl⟩
  case round =>
    obtain ⟨k, hk, rfl, hz⟩ := hrel
    have HZ := hid hz
    clear hz
    by_cases hlt2 : k < T.length
    · obtain ⟨b2, o2, r2, cr2, he2, hck, -⟩ := M.row HTW.out hlt2
      simp only [Option.some.injEq, Addr.mk.injEq, and_true] at he2
      obtain ⟨rfl, rfl⟩ := he2
      have HFK := hid (HF.out k)
      have HK : Hid (f k ≠ 0 → M.fst f T.length = f k) := hid (fun h => M.fst_at HZ.out hlt2 h)
      have HK2 : Hid (f k = 0 → M.fst f (k + 1) = 0) := hid (fun h => M.fst_step HZ.out h)
      generalize (T.getD k []).length = x at *
      by_cases h1 : x = p
      · have HR := hid (HK2.out (by rw [HFK.out, if_pos h1]))
        subst h1
        go_wp2
        go_round
        case rel => exact ⟨k + 1, by omega, by go_num, HR.out⟩
        case measure => simp [intOf]; omega
      · have HR : Hid (M.chk m T = 3) := hid (by
          have e := HFK.out; rw [if_neg h1] at e
          rw [HE2.out, if_neg (by rw [HK.out (by omega)]; omega)])
        have h1' : ((x : Int) == (p : Int)) = false := beq_eq_false_iff_ne.2 (by omega)
        go_wp2
        go_ret
        exact ⟨ret_int HR.out.symm, HB.out⟩
    · have hke : k = T.length := by omega
      subst hke
      have HE3 : Hid (M.chk m T = M.fst g T.length) := hid (by rw [HE2.out, if_pos HZ.out])
      clear HE2 HF HZ
      go_wp2
      go_loopw [61] (fun i wr => ∃ k : Nat, k ≤ T.length ∧ i = .int .i64 k ∧ M.fst g k = 0 ∧ Below W.heap.size W wr) (fun i _ => T.length - (intOf i).toNat)
      case atStart => exact ⟨0, Nat.zero_le _, rfl, rfl, Below.refl _ _⟩
      case round =>
        obtain ⟨k, hk, rfl, hz, hb⟩ := hrel
        have HZ := hid hz
        have HBW := hid hb
        have c0' := cell_stays hb (Nat.le_refl _) c0
        have c1' := cell_stays hb (Nat.le_refl _) c1
        have hT' := HTW.out.stays hb
        clear hz hb
        by_cases hlt2 : k < T.length
        · obtain ⟨b2, o2, r2, cr2, he2, hck, hri⟩ := M.row hT' hlt2
          simp only [Option.some.injEq, Addr.mk.injEq, and_true] at he2
          obtain ⟨rfl, rfl⟩ := he2
          have HW1 := hid (HCW.out k wr hlt2 hT' r2 cr2 hri)
          rw [HG.out k] at HW1
          have HK : Hid (g k ≠ 0 → M.fst g T.length = g k) := hid (fun h => M.fst_at HZ.out hlt2 h)
          have HK2 : Hid (g k = 0 → M.fst g (k + 1) = 0) := hid (fun h => M.fst_step HZ.out h)
          clear hT' hri
          generalize (T.getD k []).length = x at *
          generalize g k = y at *
          by_cases h1 : y = 0
          · have HR := hid (HK2.out h1)
            subst h1
            go_wp2_with (refine HW1.out.mono ?_; rintro e w9 ⟨rfl, hb9⟩; replace hb9 := hid hb9)
            go_roundw
            case rel => exact ⟨k + 1, by omega, by go_num, HR.out, HBW.out.trans (hb9.out.mono HBW.out.size)⟩
            case measure => simp [intOf]; omega
          · have HR := hid (HK.out h1)
            have h1' : (y == 0) = false := beq_eq_false_iff_ne.2 h1
            go_wp2_with (refine HW1.out.mono ?_; rintro e w9 ⟨rfl, hb9⟩; replace hb9 := hid hb9)
            go_ret
            exact ⟨ret_int (by rw [HE3.out, HR.out]), (HB.out.trans (HBW.out.mono HB.out.size)).trans (hb9.out.mono (Nat.le_trans HB.out.size HBW.out.size))⟩
        · have hke : k = T.length := by omega
          subst hke
          go_wp2
          go_ret
          exact ⟨ret_int (by rw [HE3.out, HZ.out]), HB.out.trans (HBW.out.mono HB.out.size)⟩

/-- The error of a size. -/
def M.sz (n : Int) : Int := if 1 ≤ n ∧ n ≤ 10 then 0 else 4

theorem checkSize_any (n : Int) (w : World) : Calls Tryd.prog 54 #[.int .i64 n] w fun e w' => e = .returned (.int .i64 (M.sz n)) ∧ w' = w := by
  by_cases h1 : n < 1
  · have HR : Hid (M.sz n = 4) := hid (if_neg (by omega))
    go_enter Tryd.func54, Tryd.ntmps54
    go_wp2
    go_ret
    exact ⟨ret_int HR.out.symm, rfl⟩
  · by_cases h2 : 10 < n
    · have HR : Hid (M.sz n = 4) := hid (if_neg (by omega))
      go_enter Tryd.func54, Tryd.ntmps54
      go_wp2
      go_ret
      exact ⟨ret_int HR.out.symm, rfl⟩
    · have HR : Hid (M.sz n = 0) := hid (if_pos (by omega))
      go_enter Tryd.func54, Tryd.ntmps54
      go_wp2
      go_ret
      exact ⟨ret_int HR.out.symm, rfl⟩

/-- The error of a code, or of a word for it. -/
def M.chkw (m : Int) (T : List (List Int)) (l : List Int) : Int := if M.chk m T = 0 then M.wd m (M.pl T) l else M.chk m T

theorem checkCopy_any (m : Int) (a : Option Addr) (c : Nat) (T : List (List Int)) (aw : Option Addr) (cw : Nat) (l : List Int) (w : World) (hm : T.length ≤ maxLen) (hml : ∀ i, i < T.length → (T.getD i []).length ≤ maxLen) (hl : l.length ≤ maxLen) (hT : RdM w a T) (hw : RdI w aw l) :
    Calls Tryd.prog 63 #[M.cv m a T.length c, .slice aw l.length cw] w fun e w' => e = .returned (.int .i64 (M.chkw m T l)) ∧ Below w.heap.size w w' := by
  obtain ⟨W, hW, c0, c1, hB, hlt⟩ := M.cvNew w m a T.length c
  have HB := hid hB
  have HC := hid (check_any m a c T W hm hml (hT.stays hB))
  have HT := hid (hT.stays hB)
  have HL := hid (hw.stays hB)
  unfold M.cv at *
  by_cases h0 : M.chk m T = 0
  · have HR : Hid (M.chkw m T l = M.wd m (M.pl T) l) := hid (by unfold M.chkw; rw [if_pos h0])
    have hok := M.chk_zero.1 h0
    have HN : Hid (0 < T.length) := hid (by have := hok.n1; omega)
    rw [h0] at HC
    have HW := hid (fun w' (hb : Below W.heap.size W w') => checkWord_any m a c T aw cw l w' hl HN.out (HT.out.stays hb) (HL.out.stays hb))
    unfold M.cv at HW
    clear hB hT hw h0 hok
    go_enter Tryd.func63, Tryd.ntmps63
    go_wp2_with fail
    rw [hW] at *
    go_wp2_with (refine HC.out.mono ?_; rintro e w8 ⟨rfl, hb8⟩; have c0' := cell_stays hb8 (Nat.le_refl _) c0; have c1' := cell_stays hb8 (Nat.le_refl _) c1; replace hb8 := hid hb8)
    refine (HW.out w8 hb8.out).mono ?_
    rintro e w9 ⟨rfl, hb9⟩
    have HB9 := hid hb9
    clear hb9
    go_wp2
    go_ret
    exact ⟨ret_int HR.out.symm, HB.out.trans ((hb8.out.trans (HB9.out.mono hb8.out.size)).mono HB.out.size)⟩
  · have HR : Hid (M.chkw m T l = M.chk m T) := hid (by unfold M.chkw; rw [if_neg h0])
    have h0' : (M.chk m T == 0) = false := beq_eq_false_iff_ne.2 h0
    generalize M.chk m T = y at *
    clear hB hT hw h0
    go_enter Tryd.func63, Tryd.ntmps63
    go_wp2_with fail
    rw [hW] at *
    go_wp2_with (refine HC.out.mono ?_; rintro e w8 ⟨rfl, hb8⟩; replace hb8 := hid hb8)
    go_ret
    exact ⟨ret_int HR.out.symm, HB.out.trans (hb8.out.mono HB.out.size)⟩
end Go.Proofs.YthnklabdjaiplaaDoor
