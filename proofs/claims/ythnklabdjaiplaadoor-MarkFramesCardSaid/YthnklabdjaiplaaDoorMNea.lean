/- Package mark: Nearest. -/
import Derived.Test.YthnklabdjaiplaaDoorMDist
import Derived.Test.YthnklabdjaiplaaDoorMShf
import Derived.Test.YthnklabdjaiplaaDoorMFew
import Derived.Test.YthnklabdjaiplaaDoorMMem
namespace Go.Proofs.YthnklabdjaiplaaDoor
open Go.RowKit

theorem M.mn_is {f : Nat → Int} {v s : Int} : ∀ n, (∀ i, i < n → v ≤ f i) → v ≤ s → (v = s ∨ ∃ i, i < n ∧ f i = v) → M.mn f n s = v
  | 0, _, _, h3 => by
    rcases h3 with h | ⟨i, hi, _⟩
    · exact h.symm
    · omega
  | n + 1, h1, h2, h3 => by
    have hb : ∀ k, k ≤ n → v ≤ M.mn f k s := by
      intro k
      induction k with
      | zero => intro _; exact h2
      | succ k ih =>
        intro hk
        have e1 := ih (by omega)
        have e2 := h1 k (by omega)
        show v ≤ M.mi (M.mn f k s) (f k)
        unfold M.mi
        split <;> assumption
    have hbn := hb n (Nat.le_refl _)
    have hfn := h1 n (by omega)
    show M.mi (M.mn f n s) (f n) = v
    unfold M.mi
    by_cases hlast : f n = v
    · split <;> omega
    · have := M.mn_is (f := f) (v := v) (s := s) n (fun i hi => h1 i (by omega)) h2 (by
        rcases h3 with h | ⟨i, hi, he⟩
        · exact .inl h
        · refine .inr ⟨i, ?_, he⟩
          rcases Nat.lt_succ_iff_lt_or_eq.1 hi with h | h
          · exact h
          · rw [h] at he; exact absurd he hlast)
      split <;> omega

/-- The smallest number of a list. -/
def M.low (F : List Int) : Int := M.mn (fun i => F.getD i 0) F.length (F.getD 0 0)
theorem M.low_is {F : List Int} {v : Int} (h : v ∈ F) (hm : ∀ x ∈ F, v ≤ x) : M.low F = v := by
  have hg : ∀ i, i < F.length → F.getD i 0 ∈ F := fun i hi => by
    rw [List.getD_eq_getElem?_getD, List.getElem?_eq_getElem hi]; exact List.getElem_mem hi
  obtain ⟨i, hi, he⟩ := List.getElem_of_mem h
  refine M.mn_is _ (fun i hi => hm _ (hg i hi)) (hm _ (hg 0 (by omega))) (.inr ⟨i, hi, ?_⟩)
  rw [List.getD_eq_getElem?_getD, List.getElem?_eq_getElem hi]
  exact he

/-- How far a word is from the first k words. -/
def M.far (T : List (List Int)) (l : List Int) (k : Nat) : List Int := (List.range k).map fun i => (M.dst l (T.getD i []) l.length : Int)
theorem M.far_succ (T : List (List Int)) (l : List Int) (k : Nat) : M.far T l (k + 1) = M.far T l k ++ [(M.dst l (T.getD k []) l.length : Int)] := by
  unfold M.far; rw [List.range_succ, List.map_append]; rfl
theorem M.far_len (T : List (List Int)) (l : List Int) (k : Nat) : (M.far T l k).length = k := by simp [M.far]
/-- Which of the first k numbers are v. -/
def M.eqs (F : List Int) (v : Int) (k : Nat) : List Int := ((List.range k).filter fun i => F.getD i 0 == v).map Int.ofNat
theorem M.eqs_succ (F : List Int) (v : Int) (k : Nat) : M.eqs F v (k + 1) = if F.getD k 0 = v then M.eqs F v k ++ [(k : Int)] else M.eqs F v k := by
  unfold M.eqs
  rw [List.range_succ, List.filter_append, List.map_append]
  by_cases h : F.getD k 0 = v
  · rw [if_pos h, List.filter_cons, if_pos (beq_iff_eq.2 h)]
    rfl
  · rw [if_neg h]
    have : (F.getD k 0 == v) = false := beq_eq_false_iff_ne.2 h
    simp only [List.filter_cons, this, List.filter_nil, List.map_nil, List.append_nil, Bool.false_eq_true, if_false]
theorem M.eqs_len (F : List Int) (v : Int) (k : Nat) : (M.eqs F v k).length ≤ k := by
  unfold M.eqs
  rw [List.length_map]
  have := List.length_filter_le (fun i => F.getD i 0 == v) (List.range k)
  simpa using this

def M.neaV (m : Int) (T : List (List Int)) (l : List Int) : List Int × Int :=
  if M.chkw m T l = 0 then (M.eqs (M.far T l T.length) (M.low (M.far T l T.length)) T.length, 0) else ([], M.chkw m T l)

set_option maxHeartbeats 4000000 in
set_option maxRecDepth 100000 in
theorem Nearest_any (m : Int) (a : Option Addr) (c : Nat) (T : List (List Int)) (aw : Option Addr) (cw : Nat) (l : List Int) (w : World) (hm : T.length ≤ maxLen) (hml : ∀ i, i < T.length → (T.getD i []).length ≤ maxLen) (hl : l.length ≤ maxLen) (hT : RdM w a T) (hw : RdI w aw l) :
    Calls Tryd.prog 38 #[M.cv m a T.length c, .slice aw l.length cw] w (M.LE (M.neaV m T l).1 (M.neaV m T l).2 w) := by
  obtain ⟨i0, hi, hz0, hz1, hz2⟩ := info_parts (show (Tryd.prog.info? 3).map (fun i => (i.zero, i.size, i.bytes)) = some (some (.int .i64 0), 1, 8) by kernel_rfl)
  obtain ⟨W, hW, c0, c1, hB, hlt⟩ := M.cvNew w m a T.length c
  have HB := hid hB
  have HC := hid (checkCopy_any m a c T aw cw l W hm hml hl (hT.stays hB) (hw.stays hB))
  have HT := hid (hT.stays hB)
  have HL := hid (hw.stays hB)
  unfold M.cv at *
  by_cases h0 : M.chkw m T l = 0
  · have hck : M.chk m T = 0 ∧ M.wd m (M.pl T) l = 0 := by
      unfold M.chkw at h0
      by_cases h : M.chk m T = 0
      · rw [if_pos h] at h0; exact ⟨h, h0⟩
      · rw [if_neg h] at h0; exact absurd h0 h
    have HOK := hid (M.chk_zero.1 hck.1)
    have HWD := hid (M.wd_zero.1 hck.2)
    have HV : Hid (M.neaV m T l = (M.eqs (M.far T l T.length) (M.low (M.far T l T.length)) T.length, 0)) := hid (by unfold M.neaV; rw [if_pos h0])
    rw [h0] at HC
    rw [HV.out]
    clear hB hT hw h0 hck hml hm
    have h10 := HOK.out.n10
    have hn0 := HOK.out.n1
    go_enter Tryd.func38, Tryd.ntmps38
    go_wp2_with fail
    rw [hW] at *
    go_wp2_with (refine HC.out.mono ?_; rintro e w8 ⟨rfl, hb8⟩; have c0' := cell_stays hb8 (Nat.le_refl _) c0; have c1' := cell_stays hb8 (Nat.le_refl _) c1; have HT8 := hid (HT.out.stays hb8); have HL8 := hid (HL.out.stays hb8); replace hb8 := hid hb8)
    clear c0 c1
    have HF : Hid (Below w.heap.size w w8) := hid (HB.out.trans (hb8.out.mono HB.out.size))
    go_loopw [7, 23] (fun v i wr => ∃ k : Nat, k ≤ T.length ∧ i = .int .i64 k ∧ RowI wr w8.heap.size v (M.far T l k) ∧ Below w8.heap.size w8 wr) (fun _ i _ => T.length - (intOf i).toNat)
    case atStart => exact ⟨0, Nat.zero_le _, rfl, RowI.nil _ _, Below.refl _ _⟩
    case round =>
      obtain ⟨k, hk, rfl, hrow, hb⟩ := hrel
      have HROW := hid hrow
      have HBW := hid hb
      have HTR := hid (HT8.out.stays hb)
      have HLR := hid (HL8.out.stays hb)
      clear hrow hb
      by_cases hlt2 : k < T.length
      · obtain ⟨b2, o2, r2, cr2, rfl, hck, hrk⟩ := M.row HTR.out hlt2
        have hlk := HOK.out.len k hlt2
        have hp8 := HOK.out.p8
        have HD := hid (distance_any aw r2 cw cr2 l (T.getD k []) wr hl (by rw [hlk]; exact HWD.out.1.symm) HLR.out hrk)
        replace HD := hid (HD.out.mono (fun e w' h => (⟨h.1, h.2.symm⟩ : e = .returned (.int .i64 (M.dst l (T.getD k []) l.length)) ∧ wr = w')))
        have HFS := hid (M.far_succ T l k)
        have hfl := M.far_len T l k
        generalize M.dst l (T.getD k []) l.length = d at *
        rw [hlk] at hck HD
        have HM1 : Hid ((M.far T l k).length + 1 ≤ maxLen) := hid (by unfold maxLen; omega)
        have HM2 : Hid (((M.far T l k).length + 1) * 8 ≤ 140737488355328) := hid (by omega)
        clear hrk hlk hfl
        generalize M.far T l k = F at *
        go_wp2_with (first
          | (at_builtin; refine wpList_append_own _ rfl _ _ 25 rfl w8.heap.size 3 i0 (.int .i64 0) 1 8 Tryd.underlying25 hi hz0 hz1 hz2 rfl (by decide) _ _ _ rfl (World.ownsRow.alloc HROW.out _) ⟨wr.heap.size, 0, none⟩ 1 1 [.int .i64 (d : Int)] rfl rfl (cell_one_new _ _ _) (by simp [Value.oneCell']) HM1.out HM2.out (Nat.le_trans HBW.out.size (by simp)) ?_; intro v' w9 hown' hgrow _)
          | (refine HD.out.mono ?_; rintro e w9 ⟨rfl, rfl⟩))
        have HB9 := hid (Below.grown (HBW.out.alloc HBW.out.size (.cells #[.int .i64 (d : Int)] 3)) hgrow (by simp; have := HBW.out.size; omega) (fun q hq => (World.ownsRow.lt HROW.out q hq).1))
        have HO9 := hid (RowI.push hown')
        clear hown' hgrow
        go_roundw
        case rel => exact ⟨k + 1, by omega, by go_num, by rw [HFS.out]; exact HO9.out, HB9.out⟩
        case measure => simp [intOf]; omega
      · have hke : k = T.length := by omega
        subst hke
        have hfl := M.far_len T l T.length
        have HF2 : Hid (Below w.heap.size w wr) := hid (HF.out.trans (HBW.out.mono HF.out.size))
        obtain ⟨a9, c9, rfl, hrd⟩ := HROW.out.rd
        generalize M.far T l T.length = F at *
        have HRD := hid hrd
        have HMN := hid (minI_any a9 c9 F wr (by omega) (by unfold maxLen; omega) hrd)
        have HES := hid (M.eqs_succ F)
        have HEL := hid (M.eqs_len F)
        have HLW := hid (fun v => M.low_is (F := F) (v := v))
        generalize M.low F = z at *
        have HLE := hid hfl
        have hF10 : F.length ≤ 10 := by omega
        clear hfl hrd HROW HTR HLR c0' c1'
        go_wp2_with (refine HMN.out.mono ?_; rintro e w9 ⟨v9, rfl, hv1, hv2, rfl⟩; obtain rfl := HLW.out v9 hv1 hv2; clear hv1 hv2)
        go_loopw [11, 38] (fun v i wx => ∃ k : Nat, k ≤ F.length ∧ i = .int .i64 k ∧ RowI wx w9.heap.size v (M.eqs F z k) ∧ Below w9.heap.size w9 wx) (fun _ i _ => F.length - (intOf i).toNat)
        case atStart => exact ⟨0, Nat.zero_le _, rfl, RowI.nil _ _, Below.refl _ _⟩
        case round =>
          obtain ⟨k, hk, rfl, hrow, hb⟩ := hrel
          have HROW := hid hrow
          have HBX := hid hb
          have HRX := hid (HRD.out.stays hb)
          clear hrow hb
          by_cases hlt2 : k < F.length
          · obtain ⟨b2, o2, rfl, hck⟩ := M.num HRX.out hlt2
            have hek := HES.out z k
            have hle := HEL.out z k
            have HM1 : Hid ((M.eqs F z k).length + 1 ≤ maxLen) := hid (by unfold maxLen; omega)
            have HM2 : Hid (((M.eqs F z k).length + 1) * 8 ≤ 140737488355328) := hid (by omega)
            generalize F.getD k 0 = x at *
            clear hle
            by_cases h1 : x = z
            · rw [if_pos h1] at hek
              have h1' : (x == z) = true := beq_iff_eq.2 h1
              have HEK := hid hek
              clear h1 hek
              generalize M.eqs F x k = G at *
              go_wp2_with (at_builtin; refine wpList_append_own _ rfl _ _ 25 rfl w9.heap.size 3 i0 (.int .i64 0) 1 8 Tryd.underlying25 hi hz0 hz1 hz2 rfl (by decide) _ _ _ rfl (World.ownsRow.alloc HROW.out _) ⟨wr.heap.size, 0, none⟩ 1 1 [.int .i64 (k : Int)] rfl rfl (cell_one_new _ _ _) (by simp [Value.oneCell']) HM1.out HM2.out (Nat.le_trans HBX.out.size (by simp)) ?_; intro v' w10 hown' hgrow _)
              have HB9 := hid (Below.grown (HBX.out.alloc HBX.out.size (.cells #[.int .i64 (k : Int)] 3)) hgrow (by simp; have := HBX.out.size; omega) (fun q hq => (World.ownsRow.lt HROW.out q hq).1))
              have HO9 := hid (RowI.push hown')
              clear hown' hgrow
              go_roundw
              case rel => exact ⟨k + 1, by omega, by go_num, by rw [HEK.out]; exact HO9.out, HB9.out⟩
              case measure => simp [intOf]; omega
            · rw [if_neg h1] at hek
              have h1' : (x == z) = false := beq_eq_false_iff_ne.2 h1
              have HEK := hid hek
              clear h1 hek
              go_wp2
              go_roundw
              case rel => exact ⟨k + 1, by omega, by go_num, by rw [HEK.out]; exact HROW.out, HBX.out⟩
              case measure => simp [intOf]; omega
          · have hke : k = F.length := by omega
            subst hke
            obtain ⟨a10, c10, rfl, hrd⟩ := HROW.out.rd
            have HRD10 := hid hrd
            clear hrd HROW
            go_wp2
            go_ret2
            rw [← HLE.out]
            exact ⟨a10, c10, rfl, HRD10.out, HF2.out.trans (HBX.out.mono HF2.out.size)⟩
  · have HV : Hid (M.neaV m T l = ([], M.chkw m T l)) := hid (by unfold M.neaV; rw [if_neg h0])
    have h0' : (M.chkw m T l == 0) = false := beq_eq_false_iff_ne.2 h0
    rw [HV.out]
    generalize M.chkw m T l = y at *
    clear hB hT hw h0
    go_enter Tryd.func38, Tryd.ntmps38
    go_wp2_with fail
    rw [hW] at *
    go_wp2_with (refine HC.out.mono ?_; rintro e w8 ⟨rfl, hb8⟩; replace hb8 := hid hb8)
    go_ret2
    exact ⟨none, 0, rfl, RdI.nil _ _, HB.out.trans (hb8.out.mono HB.out.size)⟩
end Go.Proofs.YthnklabdjaiplaaDoor
