/- Package tuscheref11: the walks of isClear, with, Places. -/
import Derived.Test.YthaoacnaeafbeaaXPlc
import Derived.Test.YthaoacnaeafbeaaXRTw
import Derived.Test.YthaoacnaeafbeaaXNum
namespace Go.Proofs.Ythaoacnaeafbeaa
open Go.RowKit

set_option maxHeartbeats 4000000 in
theorem refIsClear_any (a : Option Addr) (c : Nat) (l : List Int) (w : World) (hl : RdI w a l) (hok : X.Ok l) :
    Calls Try.prog 59 #[.slice a l.length c] w fun e w' => e = .returned (.bool (X.clr l)) ∧ Below w.heap.size w w' := by
  have h8 := hok.eight
  have HPA := hid (paired_any a c l w hl hok)
  have hpl : (X.prs l).length ≤ 1000 := by
    unfold X.prs
    rw [← X.fr_from]
    have := X.fr_len X.up l.length l.length
    have : l.length * l.length ≤ 8 * 8 := Nat.mul_le_mul h8 h8
    omega
  have HRE := hid (fun x y cx cy W' h1 h2 => repeated_any x y cx cy (X.dis l) (X.prs l) W' hpl h1 h2)
  have HV : Hid (X.clr l = !(X.tw (X.dis l) (X.prs l)).isSome) := hid (by
    unfold X.clr
    cases X.tw (X.dis l) (X.prs l) <;> rfl)
  clear hl hok hpl
  generalize X.clr l = r at *
  go_enter Try.func59, Try.ntmps59
  go_wp2_with fail
  refine HPA.out.mono ?_
  rintro e W2 ⟨x, cx, y, cy, rfl, hx, hy, hb2⟩
  have HX := hid hx
  have HY := hid hy
  have HB2 := hid hb2
  clear hx hy hb2
  go_wp2_with fail
  refine (HRE.out x y cx cy W2 HX.out HY.out).mono ?_
  rintro e W3 ⟨rfl, hb3⟩
  have HB3 := hid (HB2.out.trans (hb3.mono HB2.out.size))
  clear hb3
  generalize (X.tw (X.dis l) (X.prs l)).isSome = t at *
  generalize X.o1 (X.tw (X.dis l) (X.prs l)) = p at *
  generalize X.o2 (X.tw (X.dis l) (X.prs l)) = q at *
  obtain ⟨p1, p2⟩ := p
  obtain ⟨q1, q2⟩ := q
  obtain ⟨W4, W5, hW4, hW5, hb5, A1, A2, y0, y1, y2, y3, f0, f1, n1, n2, s45⟩ := X.put2 W3 (p1, p2) (q1, q2)
  dsimp only at hW5
  have HB5 := hid (HB3.out.trans (hb5.mono HB3.out.size))
  clear A1 A2 hb5
  unfold X.pv
  dsimp only
  go_wp2_with fail
  try rw [hW4]
  try rw [hW5]
  go_ret
  exact ⟨ret_bool HV.out.symm, HB5.out⟩

/-- What with has written after k places, and whether the place is in. -/
def X.wp (l : List Int) (x : Int) : Nat → List Int × Bool
  | 0 => ([], false)
  | k + 1 => ((if (!(X.wp l x k).2) = true ∧ x < l.getD k 0 then (X.wp l x k).1 ++ [x] else (X.wp l x k).1) ++ [l.getD k 0], (if (!(X.wp l x k).2) = true ∧ x < l.getD k 0 then true else (X.wp l x k).2) || (x == l.getD k 0))
def X.wf (l : List Int) (x : Int) : List Int := if (X.wp l x l.length).2 = true then (X.wp l x l.length).1 else (X.wp l x l.length).1 ++ [x]
theorem X.wp_len (l : List Int) (x : Int) : ∀ k, (X.wp l x k).1.length ≤ 2 * k
  | 0 => Nat.le_refl _
  | k + 1 => by
    have := X.wp_len l x k
    unfold X.wp
    dsimp only
    rw [List.length_append]
    split
    · rw [List.length_append]; simp; omega
    · simp; omega
theorem X.atg {l : List Int} (hok : X.Ok l) (x : Int) : ∀ i, i < l.length → (l.getD i 0 < x ↔ i < X.at l x) := fun i hi => by
  have := X.at_lt (x := x) (X.pw hok.up) i hi
  simpa [List.getD, hi] using this
theorem X.memg {l : List Int} {x : Int} : x ∈ l ↔ ∃ i, i < l.length ∧ l.getD i 0 = x := by
  constructor
  · intro h
    obtain ⟨i, hi, e⟩ := List.getElem_of_mem h
    exact ⟨i, hi, by rw [List.getD_eq_getElem?_getD, List.getElem?_eq_getElem hi]; exact e⟩
  · rintro ⟨i, hi, e⟩
    rw [← e, List.getD_eq_getElem?_getD, List.getElem?_eq_getElem hi]
    exact List.getElem_mem hi
theorem X.take_getD {l : List Int} {k : Nat} (h : k < l.length) : l.take (k + 1) = l.take k ++ [l.getD k 0] := by
  rw [List.take_succ_eq_append_getElem h, List.getD_eq_getElem?_getD, List.getElem?_eq_getElem h]; rfl
theorem X.wp_out {l : List Int} (hok : X.Ok l) {x : Int} (hn : x ∉ l) : ∀ k, k ≤ l.length → X.wp l x k = if k ≤ X.at l x then ((X.ins l x).take k, false) else ((X.ins l x).take (k + 1), true)
  | 0, _ => by rw [if_pos (Nat.zero_le _)]; rfl
  | k + 1, hk => by
    have ih := X.wp_out hok hn k (by omega)
    have ha := X.atg hok x k (by omega)
    have hne : l.getD k 0 ≠ x := fun e => hn (X.memg.2 ⟨k, by omega, e⟩)
    have hil := X.ins_len l x
    unfold X.wp
    rw [ih]
    have hb : (x == l.getD k 0) = false := by rw [beq_eq_false_iff_ne]; exact fun e => hne e.symm
    rw [hb, Bool.or_false]
    by_cases c1 : k < X.at l x
    · rw [if_pos (show k ≤ X.at l x by omega), if_pos (show k + 1 ≤ X.at l x by omega)]
      have hx : ¬ x < l.getD k 0 := by have := ha.2 c1; omega
      dsimp only
      rw [if_neg (fun h => hx h.2), if_neg (fun h => hx h.2), X.take_getD (by omega), X.ins_get, if_pos c1]
    · by_cases c2 : k = X.at l x
      · rw [if_pos (show k ≤ X.at l x by omega), if_neg (show ¬ k + 1 ≤ X.at l x by omega)]
        have hx : x < l.getD k 0 := by
          have : ¬ l.getD k 0 < x := fun h => c1 (ha.1 h)
          omega
        dsimp only
        rw [if_pos ⟨rfl, hx⟩, if_pos ⟨rfl, hx⟩, X.take_getD (l := X.ins l x) (k := k + 1) (by omega), X.take_getD (l := X.ins l x) (k := k) (by omega), X.ins_get, X.ins_get, if_neg c1, if_pos c2, if_neg (by omega), if_neg (by omega), Nat.add_sub_cancel]
      · rw [if_neg (show ¬ k ≤ X.at l x by omega), if_neg (show ¬ k + 1 ≤ X.at l x by omega)]
        dsimp only
        rw [if_neg (fun h => by simp at h), if_neg (fun h => by simp at h), X.take_getD (l := X.ins l x) (k := k + 1) (by omega), X.ins_get, if_neg (by omega), if_neg (by omega), Nat.add_sub_cancel]
theorem X.wf_out {l : List Int} (hok : X.Ok l) {x : Int} (hn : x ∉ l) : X.wf l x = X.ins l x := by
  have h := X.wp_out hok hn l.length (Nat.le_refl _)
  have ha := X.at_le l x
  have hil := X.ins_len l x
  unfold X.wf
  rw [h]
  by_cases c : l.length ≤ X.at l x
  · rw [if_pos c]
    dsimp only
    rw [if_neg (by simp)]
    have e : (X.ins l x).take (l.length + 1) = X.ins l x := List.take_of_length_le (by omega)
    rw [← e, X.take_getD (l := X.ins l x) (k := l.length) (by omega), X.ins_get, if_neg (by omega), if_pos (by omega), List.take_append_of_le_length (by rw [List.length_take]; omega), List.take_take, Nat.min_self]
  · rw [if_neg c]
    dsimp only
    rw [if_pos rfl, List.take_of_length_le (by omega)]
theorem X.wp_in {l : List Int} (hok : X.Ok l) {x : Int} (hn : x ∈ l) : ∀ k, k ≤ l.length → X.wp l x k = (l.take k, decide (X.at l x < k))
  | 0, _ => by simp [X.wp]
  | k + 1, hk => by
    have ih := X.wp_in hok hn k (by omega)
    have ha := X.atg hok x k (by omega)
    obtain ⟨j, hj, hx⟩ := X.memg.1 hn
    have hja := X.atg hok x j hj
    have hjat : X.at l x = j := by
      have h1 : ¬ j < X.at l x := fun h => by have := hja.2 h; omega
      by_cases c : X.at l x < j
      · have h2 := X.atg hok x (X.at l x) (by omega)
        have h3 : ¬ l.getD (X.at l x) 0 < x := fun h => Nat.lt_irrefl _ (h2.1 h)
        have h4 := hok.up.lt (X.at l x) j c hj
        omega
      · omega
    unfold X.wp
    rw [ih]
    dsimp only
    rw [X.take_getD (by omega)]
    by_cases c1 : k < X.at l x
    · have hlt := ha.2 c1
      have hx2 : ¬ x < l.getD k 0 := by omega
      rw [if_neg (fun h => hx2 h.2), if_neg (fun h => hx2 h.2)]
      have hb : (x == l.getD k 0) = false := by rw [beq_eq_false_iff_ne]; omega
      rw [hb, Bool.or_false, decide_eq_false (by omega), decide_eq_false (by omega)]
    · by_cases c2 : k = X.at l x
      · have hkx : l.getD k 0 = x := by rw [c2, hjat]; exact hx
        have hx2 : ¬ x < l.getD k 0 := by omega
        rw [if_neg (fun h => hx2 h.2), if_neg (fun h => hx2 h.2)]
        have hb : (x == l.getD k 0) = true := by rw [beq_iff_eq]; exact hkx.symm
        rw [hb, Bool.or_true, decide_eq_true (by omega)]
      · rw [decide_eq_true (show X.at l x < k by omega), if_neg (fun h => by simp at h), if_neg (fun h => by simp at h), decide_eq_true (show X.at l x < k + 1 by omega), Bool.true_or]
theorem X.wf_in {l : List Int} (hok : X.Ok l) {x : Int} (hn : x ∈ l) : (X.wf l x).length = l.length := by
  have h := X.wp_in hok hn l.length (Nat.le_refl _)
  obtain ⟨j, hj, hx⟩ := X.memg.1 hn
  have hja := X.atg hok x j hj
  have hlt : X.at l x < l.length := by
    by_cases c : X.at l x < l.length
    · exact c
    · exact absurd (hja.2 (by omega)) (by omega)
  unfold X.wf
  rw [h]
  dsimp only
  rw [if_pos (by simpa using hlt), List.take_length]

set_option maxHeartbeats 8000000 in
set_option maxRecDepth 100000 in
theorem refWith_any (a : Option Addr) (c : Nat) (l : List Int) (x : Int) (w : World) (hl : RdI w a l) (h8 : l.length ≤ 8) :
    Calls Try.prog 60 #[.slice a l.length c, .int .i64 x] w fun e w' => ∃ y cy, e = .returned (.slice y (X.wf l x).length cy) ∧ RdI w' y (X.wf l x) ∧ Below w.heap.size w w' := by
  obtain ⟨i0, hi, hz0, hz1, hz2⟩ := info_parts (show (Try.prog.info? 3).map (fun i => (i.zero, i.size, i.bytes)) = some (some (.int .i64 0), 1, 8) by kernel_rfl)
  have HL := hid hl
  have HSU : Hid (∀ k, X.wp l x (k + 1) = ((if (!(X.wp l x k).2) = true ∧ x < l.getD k 0 then (X.wp l x k).1 ++ [x] else (X.wp l x k).1) ++ [l.getD k 0], (if (!(X.wp l x k).2) = true ∧ x < l.getD k 0 then true else (X.wp l x k).2) || (x == l.getD k 0))) := hid (fun _ => rfl)
  have HSL := hid (X.wp_len l x)
  have HS0 : Hid (X.wp l x 0 = ([], false)) := hid rfl
  have HWF : Hid (X.wf l x = if (X.wp l x l.length).2 = true then (X.wp l x l.length).1 else (X.wp l x l.length).1 ++ [x]) := hid rfl
  generalize X.wf l x = R at *
  generalize X.wp l x = F at *
  clear hl
  go_enter Try.func60, Try.ntmps60
  go_wp2_with fail
  go_loopw [5, 6, 7] (fun v f s wr => ∃ k : Nat, k ≤ l.length ∧ s = .int .i64 k ∧ f = .bool (F k).2 ∧ RowI wr w.heap.size v (F k).1 ∧ Below w.heap.size w wr) (fun _ _ s _ => l.length - (intOf s).toNat)
  case atStart => exact ⟨0, Nat.zero_le _, rfl, by rw [HS0.out], by rw [HS0.out]; exact RowI.nil _ _, Below.refl _ _⟩
  case round => as_aux_lemma =>
    obtain ⟨k, hk, rfl, rfl, hown, hb⟩ := hrel
    have HOW := hid hown
    have HBW := hid hb
    by_cases hlt : k < l.length
    · obtain ⟨b, o, rfl, hc⟩ := X.num (HL.out.stays hb) hlt
      have hbb : b < w.heap.size := by
        obtain ⟨b', o', he, hc'⟩ := X.num HL.out hlt
        simp only [Option.some.injEq, Addr.mk.injEq, and_true] at he
        obtain ⟨rfl, rfl⟩ := he
        exact World.block_lt_of_cell? _ _ hc'
      have HCX := hid (fun W (h : Below w.heap.size w W) => show W.cell? ⟨b, o + k, none⟩ = some (.int .i64 (l.getD k 0)) by
        obtain ⟨b', o', he, hc'⟩ := X.num HL.out hlt
        simp only [Option.some.injEq, Addr.mk.injEq, and_true] at he
        obtain ⟨rfl, rfl⟩ := he
        exact cell_stays h (Nat.le_refl _) hc')
      have hkk : (0 : Int) ≤ (k : Int) ∧ (k : Int) < (l.length : Int) := by omega
      have HSK := hid (HSU.out k)
      have hfl := HSL.out k
      generalize l.getD k 0 = y at *
      generalize hFk : F k = st at *
      clear hFk hown hb
      obtain ⟨K, fl⟩ := st
      dsimp only at *
      have HM2 : Hid (K.length + 1 ≤ maxLen ∧ (K.length + 1) * 8 ≤ 140737488355328) := hid ⟨by unfold maxLen; omega, by omega⟩
      cases fl with
      | true =>
        have HS2 : Hid (F (k + 1) = (K ++ [y], true)) := hid (by rw [HSK.out, if_neg (fun h => by simp at h), if_neg (fun h => by simp at h)]; rfl)
        go_wp2_with (at_builtin; refine wpList_append_own _ rfl _ _ 22 rfl w.heap.size 3 i0 (.int .i64 0) 1 8 Try.underlying22 hi hz0 hz1 hz2 rfl (by decide) _ _ _ rfl (World.ownsRow.alloc HOW.out _) ⟨wr.heap.size, 0, none⟩ 1 1 [.int .i64 y] rfl rfl (X.Lit.one' _ _ _ _ rfl) (X.one1 _) HM2.out.1 HM2.out.2 (Nat.le_trans HBW.out.size (by simp)) ?_; intro v' w9 hown' hgrow _)
        have HB9 := hid (Below.grown (HBW.out.alloc HBW.out.size (.cells #[.int .i64 y] 3)) hgrow (by simp; have := HBW.out.size; omega) (fun q hq => (World.ownsRow.lt HOW.out q hq).1))
        have HO9 := hid (RowI.push hown')
        clear hown' hgrow
        go_wp2
        go_roundw
        case rel => exact ⟨k + 1, by omega, by go_num, by rw [HS2.out], by rw [HS2.out]; exact HO9.out, HB9.out⟩
        case measure => simp [intOf]; omega
      | false =>
        by_cases hxy : x < y
        · have hxy' : decide (x < y) = true := by simpa using hxy
          have HS2 : Hid (F (k + 1) = (K ++ [x] ++ [y], true)) := hid (by rw [HSK.out, if_pos ⟨rfl, hxy⟩, if_pos ⟨rfl, hxy⟩]; rfl)
          have HM3 : Hid ((K ++ [x]).length + 1 ≤ maxLen ∧ ((K ++ [x]).length + 1) * 8 ≤ 140737488355328) := hid ⟨by rw [List.length_append]; unfold maxLen; simp; omega, by rw [List.length_append]; simp; omega⟩
          clear hxy
          go_wp2_with (first
            | (at_builtin; refine wpList_append_own _ rfl _ _ 22 rfl w.heap.size 3 i0 (.int .i64 0) 1 8 Try.underlying22 hi hz0 hz1 hz2 rfl (by decide) _ _ _ rfl (World.ownsRow.alloc HOW.out _) ⟨wr.heap.size, 0, none⟩ 1 1 [.int .i64 x] rfl rfl (X.Lit.one' _ _ _ _ rfl) (X.one1 _) HM2.out.1 HM2.out.2 (Nat.le_trans HBW.out.size (by simp)) ?_; intro v' w9 hown' hgrow _; have HB9 := hid (Below.grown (HBW.out.alloc HBW.out.size (.cells #[.int .i64 x] 3)) hgrow (by simp; have := HBW.out.size; omega) (fun q hq => (World.ownsRow.lt HOW.out q hq).1)); have HO9 := hid (RowI.push hown'); have hc9 := HCX.out w9 HB9.out; clear hown' hgrow)
            | (at_builtin; refine wpList_append_own _ rfl _ _ 22 rfl w.heap.size 3 i0 (.int .i64 0) 1 8 Try.underlying22 hi hz0 hz1 hz2 rfl (by decide) _ _ _ rfl (World.ownsRow.alloc HO9.out _) ⟨w9.heap.size, 0, none⟩ 1 1 [.int .i64 y] rfl rfl (X.Lit.one' _ _ _ _ rfl) (X.one1 _) HM3.out.1 HM3.out.2 (Nat.le_trans HB9.out.size (by simp)) ?_; intro v3 w3 hown3 hgrow3 _))
          have HB3 := hid (Below.grown (HB9.out.alloc HB9.out.size (.cells #[.int .i64 y] 3)) hgrow3 (by simp; have := HB9.out.size; omega) (fun q hq => (World.ownsRow.lt HO9.out q hq).1))
          have HO3 := hid (RowI.push hown3)
          clear hown3 hgrow3
          go_wp2
          go_roundw
          case rel => exact ⟨k + 1, by omega, by go_num, by rw [HS2.out], by rw [HS2.out]; exact HO3.out, HB3.out⟩
          case measure => simp [intOf]; omega
        · have hxy' : decide (x < y) = false := by simpa using hxy
          have HS2 : Hid (F (k + 1) = (K ++ [y], x == y)) := hid (by rw [HSK.out, if_neg (fun h => hxy h.2), if_neg (fun h => hxy h.2)]; rfl)
          clear hxy
          go_wp2_with (at_builtin; refine wpList_append_own _ rfl _ _ 22 rfl w.heap.size 3 i0 (.int .i64 0) 1 8 Try.underlying22 hi hz0 hz1 hz2 rfl (by decide) _ _ _ rfl (World.ownsRow.alloc HOW.out _) ⟨wr.heap.size, 0, none⟩ 1 1 [.int .i64 y] rfl rfl (X.Lit.one' _ _ _ _ rfl) (X.one1 _) HM2.out.1 HM2.out.2 (Nat.le_trans HBW.out.size (by simp)) ?_; intro v' w9 hown' hgrow _)
          have HB9 := hid (Below.grown (HBW.out.alloc HBW.out.size (.cells #[.int .i64 y] 3)) hgrow (by simp; have := HBW.out.size; omega) (fun q hq => (World.ownsRow.lt HOW.out q hq).1))
          have HO9 := hid (RowI.push hown')
          clear hown' hgrow
          go_wp2
          go_roundw
          case rel => exact ⟨k + 1, by omega, by go_num, by rw [HS2.out], by rw [HS2.out]; exact HO9.out, HB9.out⟩
          case measure => simp [intOf]; omega
    · have hke : k = l.length := by omega
      subst hke
      have hfl := HSL.out l.length
      generalize hFk : F l.length = st at *
      obtain ⟨K, fl⟩ := st
      dsimp only at *
      clear hFk hown hb
      cases fl with
      | true =>
        have HR : Hid (R = K) := hid (by rw [HWF.out, if_pos rfl])
        obtain ⟨y, cy, rfl, hr⟩ := HOW.out.rd
        have HRD := hid hr
        clear hr
        rw [← HR.out] at HRD
        have HLN : Hid (K.length = R.length) := hid (by rw [HR.out])
        go_wp2
        go_ret
        exact ⟨y, ⟨cy, by rw [← HLN.out]; rfl⟩, HRD.out, HBW.out⟩
      | false =>
        have HR : Hid (R = K ++ [x]) := hid (by rw [HWF.out, if_neg (by simp)])
        have HM2 : Hid (K.length + 1 ≤ maxLen ∧ (K.length + 1) * 8 ≤ 140737488355328) := hid ⟨by unfold maxLen; omega, by omega⟩
        go_wp2_with (at_builtin; refine wpList_append_own _ rfl _ _ 22 rfl w.heap.size 3 i0 (.int .i64 0) 1 8 Try.underlying22 hi hz0 hz1 hz2 rfl (by decide) _ _ _ rfl (World.ownsRow.alloc HOW.out _) ⟨wr.heap.size, 0, none⟩ 1 1 [.int .i64 x] rfl rfl (X.Lit.one' _ _ _ _ rfl) (X.one1 _) HM2.out.1 HM2.out.2 (Nat.le_trans HBW.out.size (by simp)) ?_; intro v' w9 hown' hgrow _)
        have HB9 := hid (Below.grown (HBW.out.alloc HBW.out.size (.cells #[.int .i64 x] 3)) hgrow (by simp; have := HBW.out.size; omega) (fun q hq => (World.ownsRow.lt HOW.out q hq).1))
        have HO9 := hid (RowI.push hown')
        clear hown' hgrow
        rw [← HR.out] at HO9
        obtain ⟨y, cy, rfl, hr⟩ := HO9.out.rd
        have HRD := hid hr
        clear hr
        go_wp2
        go_ret
        exact ⟨y, cy, rfl, HRD.out, HB9.out⟩
end Go.Proofs.Ythaoacnaeafbeaa
