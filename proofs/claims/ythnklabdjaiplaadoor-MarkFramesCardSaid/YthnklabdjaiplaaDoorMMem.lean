/- Package mark: the walk of membersOfAll: a map of counts, a range over it in whatever order, a sort. -/
import Derived.Test.YthnklabdjaiplaaDoorMSrI
import Derived.Test.YthnklabdjaiplaaDoorMChk
import Derived.Maps.RangeWalk
import Derived.Maps.OwnOps
import Derived.Maps.OwnSet
import Derived.Maps.Ext
import Derived.Maps.Views
namespace Go.Proofs.YthnklabdjaiplaaDoor
open Go.RowKit

/-- Who is a member of all of some coalitions. -/
def M.mem (L : List (List Int)) : List Int := ((List.range 10).filter fun x : Nat => L.flatten.count (x : Int) == L.length).map (fun x : Nat => (x : Int))
theorem M.mem_asc (L : List (List Int)) : (M.mem L).Pairwise (· < ·) := by
  unfold M.mem
  rw [List.pairwise_map]
  refine (List.Pairwise.filter _ List.pairwise_lt_range).imp ?_
  intro a b h
  omega
theorem M.mem_mem {L : List (List Int)} (hv : ∀ x, x ∈ L.flatten → 0 ≤ x ∧ x < 10) (h1 : 1 ≤ L.length) (x : Int) : x ∈ M.mem L ↔ x ∈ L.flatten ∧ L.flatten.count x = L.length := by
  unfold M.mem
  simp only [List.mem_map, List.mem_filter, List.mem_range, beq_iff_eq]
  constructor
  · rintro ⟨y, ⟨_, h3⟩, rfl⟩
    exact ⟨List.count_pos_iff.1 (by omega), h3⟩
  · rintro ⟨h2, h3⟩
    have := hv x h2
    exact ⟨x.toNat, ⟨by omega, by rw [Int.toNat_of_nonneg this.1]; exact h3⟩, Int.toNat_of_nonneg this.1⟩

/-- A map of counts. -/
structure M.Cn (D : DataW Unit) (zs : List Int) : Prop where
  at_ : ∀ x : Int, D.atKey (.int .i64 x) (.lit (.int .i64 0)) = .lit (.int .i64 (zs.count x : Nat))
  has : ∀ x : Int, Maps.has D (.int .i64 x) = decide (x ∈ zs)
theorem M.Cn.nil : M.Cn (.map []) [] := ⟨fun x => rfl, fun x => by simp [Maps.has]⟩
theorem M.Cn.put {D : DataW Unit} {zs : List Int} {x : Int} (h : M.Cn D zs) (hm : Maps.IsMap D) : M.Cn (D.put (.int .i64 x) (.lit (.int .i64 ((zs.count x : Nat) + 1)))) (zs ++ [x]) := by
  constructor
  · intro y
    by_cases e : y = x
    · subst e
      rw [Maps.atKey_put_same hm (show WideAt.IsKeyLit (.int .i64 y) from trivial), List.count_append, List.count_singleton_self]
      rfl
    · rw [Maps.atKey_put_other (by intro h2; cases h2; exact e rfl), h.at_ y, List.count_append, show [x].count y = 0 from List.count_eq_zero.2 (by simpa using e), Nat.add_zero]
  · intro y
    by_cases e : y = x
    · subst e
      rw [Maps.has_put_same hm (show WideAt.IsKeyLit (.int .i64 y) from trivial)]
      simp
    · rw [Maps.has_put_other (by intro h2; cases h2; exact e rfl), h.has y]
      simp [e]

theorem M.wf_int (x : Int) (h : 0 ≤ x) (h2 : x < 10) : (Lit.int .i64 x).wf = true := by
  simp only [Lit.wf, IntKind.min, IntKind.max, IntKind.signed, IntKind.bits, if_true, Bool.and_eq_true, decide_eq_true_eq]
  omega
theorem M.wf_nat (n : Nat) (h : n ≤ 12000) : (Lit.int .i64 ((n : Int) + 1)).wf = true := by
  simp only [Lit.wf, IntKind.min, IntKind.max, IntKind.signed, IntKind.bits, if_true, Bool.and_eq_true, decide_eq_true_eq]
  omega

/-- The numbers met so far. -/
def M.zs (L : List (List Int)) (i j : Nat) : List Int := (L.take i).flatten ++ (L.getD i []).take j
theorem M.zs_step {L : List (List Int)} {i j : Nat} (hj : j < (L.getD i []).length) : M.zs L i (j + 1) = M.zs L i j ++ [(L.getD i []).getD j 0] := by
  unfold M.zs
  rw [List.take_succ_eq_append_getElem hj, ← List.append_assoc, List.getD_eq_getElem?_getD (l := L.getD i []), List.getElem?_eq_getElem hj]
  rfl
theorem M.zs_next {L : List (List Int)} {i : Nat} (hi : i < L.length) : M.zs L i (L.getD i []).length = M.zs L (i + 1) 0 := by
  unfold M.zs
  have e : L.getD i [] = L[i] := by rw [List.getD_eq_getElem?_getD, List.getElem?_eq_getElem hi]; rfl
  rw [List.take_succ_eq_append_getElem hi, List.flatten_append, e, List.take_length]
  simp
theorem M.zs_all (L : List (List Int)) : M.zs L L.length 0 = L.flatten := by
  unfold M.zs
  rw [List.take_length]
  simp
theorem M.zs_len {L : List (List Int)} {c : Nat} (hc : ∀ i, i < L.length → (L.getD i []).length ≤ c) : ∀ i, i ≤ L.length → (M.zs L i 0).length ≤ i * c := by
  intro i
  induction i with
  | zero => intro _; simp [M.zs]
  | succ i ih =>
    intro hi
    rw [← M.zs_next (by omega)]
    unfold M.zs at *
    have h1 := ih (by omega)
    have h2 := hc i (by omega)
    simp only [List.take_zero, List.append_nil, List.length_append] at *
    rw [Nat.succ_mul, List.length_take]
    omega

set_option maxHeartbeats 4000000 in
set_option maxRecDepth 100000 in
theorem membersOfAll_any (a : Option Addr) (c : Nat) (L : List (List Int)) (w : World) (h1 : 1 ≤ L.length) (hL : L.length ≤ 1100) (hr : ∀ i, i < L.length → (L.getD i []).length ≤ 10) (hv : ∀ x, x ∈ L.flatten → 0 ≤ x ∧ x < 10) (hT : RdM w a L) :
    Calls Tryd.prog 60 #[.slice a L.length c] w fun e w' => ∃ v, e = .returned v ∧ RowI w' w.heap.size v (M.mem L) ∧ Below w.heap.size w w' := by
  have hmm := @run_makeMap Tryd.prog
  have law := Maps.int_keyed (P := Tryd.prog) Tryd.underlying3
  have hw0 := World.ownsMap_made w Tryd.prog 3 (plainElem (H := Unit) Tryd.prog 3)
  have HB0 := hid ((Below.refl w.heap.size w).alloc (Nat.le_refl _) (.map #[] 0))
  have HT := hid hT
  have HR := hid hr
  have HV := hid hv
  have HZL := hid (M.zs_len hr)
  have HZV : Hid (∀ i j x, x ∈ M.zs L i j → 0 ≤ x ∧ x < 10) := hid (fun i j x hx => hv x (by
    unfold M.zs at hx
    rcases List.mem_append.1 hx with h | h
    · obtain ⟨t, ht, hxt⟩ := List.mem_flatten.1 h
      exact List.mem_flatten.2 ⟨t, List.mem_of_mem_take ht, hxt⟩
    · have h2 := List.mem_of_mem_take h
      by_cases hi : i < L.length
      · have e : L.getD i [] = L[i] := by rw [List.getD_eq_getElem?_getD, List.getElem?_eq_getElem hi]; rfl
        rw [e] at h2
        exact List.mem_flatten.2 ⟨_, List.getElem_mem hi, h2⟩
      · rw [List.getD_eq_getElem?_getD, List.getElem?_eq_none (by omega)] at h2
        simp at h2))
  obtain ⟨i0, hi, hz0, hz1, hz2⟩ := info_parts (show (Tryd.prog.info? 3).map (fun i => (i.zero, i.size, i.bytes)) = some (some (.int .i64 0), 1, 8) by kernel_rfl)
  clear hT hr hv
  go_enter Tryd.func60, Tryd.ntmps60
  go_wp2
  go_loopw [14] (fun i wr => ∃ (k : Nat) (D : DataW Unit) (n : Nat), k ≤ L.length ∧ i = .int .i64 k ∧ wr.ownsMap Tryd.prog 3 (plainElem Tryd.prog 3) w.heap.size n D ∧ n ≤ (M.zs L k 0).length ∧ M.Cn D (M.zs L k 0) ∧ Below w.heap.size w wr) (fun i _ => L.length - (intOf i).toNat)
  case atStart => exact ⟨0, .map [], 0, Nat.zero_le _, rfl, hw0, Nat.zero_le _, by simpa [M.zs] using M.Cn.nil, HB0.out⟩
  case round =>
    clear hw0 HB0
    obtain ⟨k, D, n, hk, rfl, hown, hn, hcn, hb⟩ := hrel
    have HOWN := hid hown
    have HN := hid hn
    have HCN := hid hcn
    have HB := hid hb
    have hzl := HZL.out k hk
    by_cases hlt : k < L.length
    · obtain ⟨b2, o2, r2, cr2, rfl, hckw, hrk⟩ := M.row HT.out hlt
      have hck := cell_stays hb (Nat.le_refl _) hckw
      have HRK := hid hrk
      have hrl := HR.out k hlt
      have HNX := hid (M.zs_next hlt)
      have HST := hid (fun j => M.zs_step (L := L) (i := k) (j := j))
      have HZ2 : Hid (∀ j, (M.zs L k j).length ≤ (M.zs L k 0).length + 10) := hid (fun j => by
        unfold M.zs
        simp only [List.length_append, List.length_take, List.take_zero, List.append_nil]
        omega)
      clear hown hn hcn hb hrk hckw
      generalize L.getD k [] = row at *
      go_wp2
      go_loopw [20] (fun i wx => ∃ (j : Nat) (D : DataW Unit) (n : Nat), j ≤ row.length ∧ i = .int .i64 j ∧ wx.ownsMap Tryd.prog 3 (plainElem Tryd.prog 3) w.heap.size n D ∧ n ≤ (M.zs L k j).length ∧ M.Cn D (M.zs L k j) ∧ Below w.heap.size w wx) (fun i _ => row.length - (intOf i).toNat)
      case atStart => exact ⟨0, D, n, Nat.zero_le _, rfl, HOWN.out, HN.out, HCN.out, HB.out⟩
      case round =>
        clear HOWN HN HCN HB hck
        clear D n
        obtain ⟨j, D, n, hj, rfl, hown, hn, hcn, hb⟩ := hrel
        by_cases hlj : j < row.length
        · obtain ⟨b3, o3, rfl, hc3⟩ := M.num (HRK.out.stays hb) hlj
          have hs := HST.out j hlj
          have hzk : (M.zs L k j).length ≤ 12000 := by
            have h2 := HZ2.out j
            omega
          have hx10 : 0 ≤ row.getD j 0 ∧ row.getD j 0 < 10 := HZV.out k (j + 1) _ (by rw [hs]; simp)
          generalize row.getD j 0 = x at *
          have hkey : keyOf Tryd.prog 3 (.int .i64 x) = some (.int .i64 x) := Maps.keyOf_int_mk Tryd.underlying3 (M.wf_int x hx10.1 hx10.2)
          obtain ⟨cn, hcnx⟩ : ∃ cn, (M.zs L k j).count x = cn := ⟨_, rfl⟩
          have hcle : cn ≤ 12000 := by rw [← hcnx]; exact Nat.le_trans (List.count_le_length) hzk
          have HCA : Hid (∀ c : Int, D.atKey (.int .i64 x) (.lit (.int .i64 0)) = .lit (.int .i64 c) → c = (cn : Int)) := hid (fun c h => by
            rw [hcn.at_ x, hcnx] at h
            simp only [DataW.lit.injEq, Lit.int.injEq, true_and] at h
            exact h.symm)
          have HPT : Hid (M.Cn (D.put (.int .i64 x) (.lit (.int .i64 ((cn : Int) + 1)))) (M.zs L k (j + 1))) := hid (by
            have := hcn.put (x := x) hown.isMap
            rw [hcnx] at this
            rw [hs]
            exact this)
          have HSL : Hid ((M.zs L k (j + 1)).length = (M.zs L k j).length + 1) := hid (by rw [hs]; simp)
          have HB := hid hb
          have HN := hid hn
          have hn2 : n < maxLen := by unfold maxLen; omega
          have hwr : IntKind.i64.wrap ((cn : Int) + 1) = (cn : Int) + 1 := IntWalk.i64_in _ ⟨by omega, by omega⟩
          have HN2 := hid hn2
          have HCLE := hid hcle
          clear hcn hb hn hs hcnx hzk hcle hn2 hx10
          go_wp2_with (first
            | (at_lookup; refine wpList_lookup_own_int _ rfl _ _ 102 rfl 3 3 .i64 law Tryd.underlying102 Tryd.underlying3 (Tryd.zeroValue3 _) w.heap.size n _ rfl hown _ _ rfl hkey ?_; intro c hat _; obtain rfl := HCA.out c hat; clear hat)
            | (at_mapUpdate; refine wpList_mapUpdate_own _ rfl _ _ _ 102 rfl 3 3 law Tryd.underlying102 _ w.heap.size n _ rfl hown HN2.out _ _ _ rfl rfl hkey _ [] (plainElem_int Tryd.underlying3 (M.wf_nat cn HCLE.out)) ?_; intro w2 hown2 hg2))
          go_roundw
          case rel => exact ⟨j + 1, _, n + 1, by omega, by go_num, hown2, by have := HSL.out; have := HN.out; omega, HPT.out, HB.out.grown hg2 HB.out.size (fun i hi => by cases hi; exact Nat.le_refl _)⟩
          case measure => simp [intOf]; omega
        · have hje : j = row.length := by omega
          subst hje
          have HN := hid hn
          have HCN := hid hcn
          have HB := hid hb
          rw [HNX.out] at HN HCN
          clear hn hcn hb
          go_wp2
          go_roundw
          case rel => exact ⟨k + 1, D, n, by omega, by go_num, hown, HN.out, HCN.out, HB.out⟩
          case measure => simp [intOf]; omega
    · have hke : k = L.length := by omega
      subst hke
      rw [M.zs_all] at hn hcn
      have HN := hid hn
      have HCN := hid hcn
      have HFL : Hid (L.flatten.length ≤ 11000) := hid (by rw [← M.zs_all]; omega)
      obtain ⟨r0, hr0⟩ : ∃ r0, wr.heap.size = r0 := ⟨_, rfl⟩
      have hbl := hown.lt
      clear hn hcn hb hzl
      go_wp2_with (at_range; refine wpList_range_own _ rfl _ 102 rfl 3 3 law Tryd.underlying102 _ w.heap.size n _ rfl hown ?_; intro w0 hrg0 hg0 hs0)
      go_frame
      rw [hr0] at hrg0 hs0 ⊢
      go_loopw [8] (fun v wx => ∃ (left : Lit → Bool) (cnt : Nat) (ks : List Int), wx.ranges Tryd.prog 3 (plainElem Tryd.prog 3) w.heap.size r0 n D left cnt ∧ RowI wx (r0 + 1) v ks ∧ ks.Nodup ∧
        (∀ x : Int, x ∈ ks ↔ (x ∈ L.flatten ∧ left (.int .i64 x) = false ∧ L.flatten.count x = L.length)) ∧ (∀ x : Int, left (.int .i64 x) = true → x ∈ L.flatten) ∧ Below w.heap.size w wx ∧ r0 + 1 ≤ wx.heap.size)
        (fun _ wx => wx.rangeLeft w.heap.size r0)
      case atStart =>
        refine ⟨_, _, [], hrg0, RowI.nil _ _, List.nodup_nil, fun x => ⟨fun h => by simp at h, fun ⟨h2, h3, _⟩ => ?_⟩, fun x hx => ?_, HB.out.grown hg0 HB.out.size (fun i hi => by cases hi), by omega⟩
        · rw [HCN.out.has x, decide_eq_false_iff_not] at h3
          exact absurd h2 h3
        · rw [HCN.out.has x, decide_eq_true_eq] at hx
          exact hx
      case round =>
        obtain ⟨left, cnt, ks, hrg, hrow, hnd, hks, hlf, hb, hsz⟩ := hrel
        have HROW := hid hrow
        have HND := hid hnd
        have HKS := hid hks
        have HLF := hid hlf
        have HB := hid hb
        have hkl : ks.length ≤ 11000 := by
          have h2 : ks.length ≤ L.flatten.length := hnd.length_le_of_subset (fun x hx => ((hks x).1 hx).1)
          have := HFL.out
          omega
        clear hrow hnd hks hlf hb
        go_wp2_with (at_next; refine wpList_next_ranges_ii _ rfl _ rfl 3 3 .i64 .i64 law Tryd.underlying3 Tryd.underlying3 w.heap.size r0 n _ _ _ rfl hrg ?_ ?_)
        · intro _ hl0
          have HM := hid (sortI_any (r0 + 1) _ ks (M.mem L) wr (by omega) HROW.out HND.out (M.mem_asc L) (fun x => by
            rw [HKS.out x, M.mem_mem HV.out h1, hl0]
            simp))
          have hrng := hrg
          clear hrg hl0
          go_wp2_with (refine HM.out.mono ?_; rintro e w9 ⟨rfl, hr9, hg9⟩; have HR9 := hid hr9; have HG9 := hid hg9; clear hr9 hg9)
          go_ret
          exact ⟨_, rfl, HR9.out.mono (by have := HB.out.size; omega), HB.out.grown HG9.out HB.out.size (fun i hi => by have := (World.ownsRow.lt HROW.out i hi).1; omega)⟩
        · intro x c w1 cnt1 hwx hwc hlx hat hrg1 hlt hg1 hs1 hen
          have hcx : c = (L.flatten.count x : Nat) := by
            have h2 := HCN.out.at_ x
            rw [hat] at h2
            simp only [DataW.lit.injEq, Lit.int.injEq, true_and] at h2
            exact h2
          have hxf := HLF.out x hlx
          have hgo : ∀ i, u8.ownBlock = some i → r0 + 1 ≤ i := fun i hi => (World.ownsRow.lt HROW.out i hi).1
          have HR1 := hid (HROW.out.kept hg1 (by
            cases hv : u8.ownBlock with
            | none => exact .inl rfl
            | some i => exact .inr (fun e => by have := hgo i hv; have := Option.some.inj e; omega)))
          have HB1 := hid (HB.out.grown hg1 HB.out.size (fun i hi => by have := Option.some.inj hi; omega))
          have HXF := hid hxf
          have HLX := hid hlx
          have HKL : Hid (∀ y : Int, (left (.int .i64 y) && !(Lit.int .i64 y).sameKey (.int .i64 x)) = true → y ∈ L.flatten) := hid (fun y hy => by
            simp only [Bool.and_eq_true] at hy
            exact HLF.out y hy.1)
          have HLTT := hid hlt
          have HRG := hid hrg
          have hsz1 : r0 + 1 ≤ w1.heap.size := by omega
          have HGO := hid hgo
          have HRG1 := hid hrg1
          have hbw : w.heap.size < r0 := by omega
          by_cases hcl : c = (L.length : Int)
          · have HKS2 : Hid (∀ y : Int, y ∈ ks ++ [x] ↔ (y ∈ L.flatten ∧ (left (.int .i64 y) && !(Lit.int .i64 y).sameKey (.int .i64 x)) = false ∧ L.flatten.count y = L.length)) := hid (fun y => by
              rw [List.mem_append, List.mem_singleton, HKS.out y]
              simp only [Lit.sameKey, true_and, Bool.and_eq_false_iff, Bool.not_eq_false', decide_eq_true_eq]
              constructor
              · rintro (⟨h2, h3, h4⟩ | rfl)
                · exact ⟨h2, .inl h3, h4⟩
                · exact ⟨hxf, .inr rfl, by omega⟩
              · rintro ⟨h2, h3 | h3, h4⟩
                · exact .inl ⟨h2, h3, h4⟩
                · exact .inr h3)
            have HND2 : Hid ((ks ++ [x]).Nodup) := hid (by
              rw [List.nodup_append]
              refine ⟨HND.out, by simp, fun p hp q hq e => ?_⟩
              rw [List.mem_singleton.1 hq] at e
              have := ((HKS.out p).1 hp).2.1
              rw [e, hlx] at this
              cases this)
            have hcl' : (c == (L.length : Int)) = true := beq_iff_eq.2 hcl
            clear hcx hxf hlx hlt hrg hat hcl hgo hg1 hwx hwc hs1 hrg1
            go_wp2_with (at_builtin; refine wpList_append_own _ rfl _ _ 25 rfl (r0 + 1) 3 i0 (.int .i64 0) 1 8 Tryd.underlying25 hi hz0 hz1 hz2 rfl (by decide) u8 ks.length (ks.map (Value.int .i64)) rfl (World.ownsRow.kept HR1.out (World.grownBy_alloc _ _ none) (Classical.em _)) ⟨w1.heap.size, 0, none⟩ 1 1 [.int .i64 x] rfl rfl (cell_one_new _ _ _) (by simp [Value.oneCell']) (by unfold maxLen; omega) (by omega) (by simp; omega) ?_; intro v2 w2 hown2 hg2 _)
            obtain ⟨g', cap', rfl⟩ := ownsRow_succ hown2
            have hrg2 := (HRG1.out.alloc (.cells #[.int .i64 x] 3)).kept hg2 (fun e => by have := HGO.out _ e.symm; omega) (fun e => by have := HGO.out _ e.symm; omega)
            have hb2 := (HB1.out.alloc HB1.out.size (.cells #[.int .i64 x] 3)).grown hg2 (by have := HB1.out.size; simp; omega) (fun i hi => by have := HGO.out i hi; omega)
            have hz2 : r0 + 1 ≤ w2.heap.size := by have := hg2.size; simp at this; omega
            have HP := hid (RowI.push hown2)
            go_roundw
            case rel => exact ⟨_, cnt1, ks ++ [x], hrg2, HP.out, HND2.out, HKS2.out, HKL.out, hb2, hz2⟩
            case measure => rw [hrg2.left_eq, HRG.out.left_eq]; exact HLTT.out
          · have HKS2 : Hid (∀ y : Int, y ∈ ks ↔ (y ∈ L.flatten ∧ (left (.int .i64 y) && !(Lit.int .i64 y).sameKey (.int .i64 x)) = false ∧ L.flatten.count y = L.length)) := hid (fun y => by
              rw [HKS.out y]
              simp only [Lit.sameKey, true_and, Bool.and_eq_false_iff, Bool.not_eq_false', decide_eq_true_eq]
              constructor
              · rintro ⟨h2, h3, h4⟩
                exact ⟨h2, .inl h3, h4⟩
              · rintro ⟨h2, h3 | h3, h4⟩
                · exact ⟨h2, h3, h4⟩
                · rw [h3] at h4
                  omega)
            have hcl' : (c == (L.length : Int)) = false := beq_eq_false_iff_ne.2 hcl
            clear hcx hxf hlx hlt hrg hat hcl hgo hg1 hwx hwc hs1 hrg1
            go_wp2
            go_roundw
            case rel => exact ⟨_, cnt1, ks, HRG1.out, HR1.out, HND.out, HKS2.out, HKL.out, HB1.out, hsz1⟩
            case measure => rw [HRG1.out.left_eq, HRG.out.left_eq]; exact HLTT.out
end Go.Proofs.YthnklabdjaiplaaDoor
