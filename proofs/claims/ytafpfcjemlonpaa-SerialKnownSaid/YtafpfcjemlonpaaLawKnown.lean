/- The law SerialKnown: the examples of the chapter hold. No condition. -/
import Derived.Test.YtafpfcjemlonpaaWorks
import Derived.Test.YtafpfcjemlonpaaTwins
import Derived.Test.YtafpfcjemlonpaaOpen
import Derived.ShutString
import Derived.ChangeOld
import Derived.Below
namespace Go.Proofs.Ytafpfcjemlonpaa
open Go.ChangeShapes Go.WideShapes Go.ChangeAt Go.RowKit

/-- Three numbers in a row. -/
def Cell3 (w : World) (b off : Nat) (x y z : Int) : Prop := w.cell? ⟨b, off, none⟩ = some (.int .i64 x) ∧ w.cell? ⟨b, off + 1, none⟩ = some (.int .i64 y) ∧ w.cell? ⟨b, off + 2, none⟩ = some (.int .i64 z)

theorem Cell3.stays {w w' : World} {b off : Nat} {x y z : Int} (h : Cell3 w b off x y z) (hb : Below w.heap.size w w') : Cell3 w' b off x y z :=
  ⟨cell_stays hb (Nat.le_refl _) h.1, cell_stays hb (Nat.le_refl _) h.2.1, cell_stays hb (Nat.le_refl _) h.2.2⟩

theorem RdT.head {w : World} {a : Option Addr} {xs : List (Nat × Nat × Nat)} (h : RdT w a xs) (h0 : 0 < xs.length) : ∃ b off, a = some ⟨b, off, none⟩ ∧ Cell3 w b off (xs[0].1 : Nat) (xs[0].2.1 : Nat) (xs[0].2.2 : Nat) := by
  obtain ⟨b, off, ha, h1, h2, h3⟩ := h 0 h0
  exact ⟨b, off, ha, by simpa using h1, by simpa using h2, by simpa using h3⟩

def UU : List (List Int) := [[0, 1, 2, 3], [1, 2, 3, 0], [2, 3, 0, 1], [3, 0, 1, 2]]

theorem line_u (w : World) : Calls Try.prog 21 #[.int .i64 4, .int .i64 1] w fun e w' => ∃ r cr, e = .returned (.tuple #[.slice r 4 cr, .int .i64 0]) ∧ RdM w' r UU ∧ Below w.heap.size w w' := by
  refine (line_any 4 1 w).mono ?_
  rintro e w' ⟨r, cr, T, rfl, hT, hr, hb⟩
  have e1 : P.line 4 1 = (UU, 0) := by decide +kernel
  rw [e1] at hT ⊢
  subst hT
  exact ⟨r, cr, rfl, hr, hb⟩

theorem line_v (w : World) : Calls Try.prog 21 #[.int .i64 4, .int .i64 2] w fun e w' => ∃ r cr, e = .returned (.tuple #[.slice r 0 cr, .int .i64 12]) ∧ Below w.heap.size w w' := by
  refine (line_any 4 2 w).mono ?_
  rintro e w' ⟨r, cr, T, rfl, hT, hr, hb⟩
  have e1 : P.line 4 2 = ([], 12) := by decide +kernel
  rw [e1] at hT ⊢
  subst hT
  exact ⟨r, cr, rfl, hb⟩

theorem blind_u (a : Option Addr) (c : Nat) (w : World) (hT : RdM w a UU) : Calls Try.prog 23 #[.slice a 4 c] w fun e w' => ∃ b off cr, e = .returned (.tuple #[.slice (some ⟨b, off, none⟩) 24 cr, .int .i64 0]) ∧ Cell3 w' b off 0 0 1 ∧ Below w.heap.size w w' := by
  refine (blind_any a c UU w hT).mono ?_
  rintro e w' ⟨r, cr, xs, rfl, hx, hr, hb⟩
  have e1 : (P.blind UU).length = 24 ∧ (P.blind UU)[0]? = some (0, 0, 1) := by decide +kernel
  have e2 : P.check UU = 0 := by decide +kernel
  rw [← hx] at e1
  rw [e2]
  obtain ⟨b, off, rfl, h3⟩ := hr.head (by omega)
  have e3 : xs[0]'(by omega) = (0, 0, 1) := by have := e1.2; rw [List.getElem?_eq_getElem (by omega)] at this; exact Option.some.inj this
  rw [e3] at h3
  exact ⟨b, off, cr, by rw [e1.1], h3, hb⟩

theorem twins_u (a : Option Addr) (c : Nat) (w : World) (hT : RdM w a UU) : Calls Try.prog 25 #[.slice a 4 c] w fun e w' => ∃ b off cr, e = .returned (.tuple #[.slice (some ⟨b, off, none⟩) 8 cr, .int .i64 0]) ∧ Cell3 w' b off 0 0 2 ∧ Below w.heap.size w w' := by
  refine (twins_any a c UU w hT).mono ?_
  rintro e w' ⟨r, cr, xs, rfl, hx, hr, hb⟩
  have e1 : (P.twins UU).length = 8 ∧ (P.twins UU)[0]? = some (0, 0, 2) := by decide +kernel
  have e2 : P.check UU = 0 := by decide +kernel
  rw [← hx] at e1
  rw [e2]
  obtain ⟨b, off, rfl, h3⟩ := hr.head (by omega)
  have e3 : xs[0]'(by omega) = (0, 0, 2) := by have := e1.2; rw [List.getElem?_eq_getElem (by omega)] at this; exact Option.some.inj this
  rw [e3] at h3
  exact ⟨b, off, cr, by rw [e1.1], h3, hb⟩

theorem value_u (w : World) : Calls Try.prog 16 #[.string { data := #[48, 48, 55] }] w fun e w' => e = .returned (.tuple #[.int .i64 0, .bool false]) ∧ Below w.heap.size w w' := by
  refine (value_any _ w (le_max (by decide))).mono ?_
  rintro e w' ⟨rfl, hb⟩
  have e1 : P.value [48, 48, 55] = (0, false) := by decide +kernel
  exact ⟨by show Ending.returned (.tuple #[.int .i64 (P.value [48, 48, 55]).1, .bool (P.value [48, 48, 55]).2]) = _; rw [e1], hb⟩

theorem value_v (w : World) : Calls Try.prog 16 #[.string { data := #[45, 49] }] w fun e w' => e = .returned (.tuple #[.int .i64 0, .bool false]) ∧ Below w.heap.size w w' := by
  refine (value_any _ w (le_max (by decide))).mono ?_
  rintro e w' ⟨rfl, hb⟩
  have e1 : P.value [45, 49] = (0, false) := by decide +kernel
  exact ⟨by show Ending.returned (.tuple #[.int .i64 (P.value [45, 49]).1, .bool (P.value [45, 49]).2]) = _; rw [e1], hb⟩

theorem digit_u (a ad : Option Addr) (c cd : Nat) (w : World) (hT : RdM w a TT) (hx : RdI w ad [1, 2]) : Calls Try.prog 33 #[.slice a 5 c, .slice ad 2 cd] w fun e w' => e = .returned (.tuple #[.int .i64 2, .int .i64 0]) ∧ Below w.heap.size w w' := by
  refine (digit_any a ad c cd TT [1, 2] w (le_max (by decide)) hT hx).mono ?_
  rintro e w' ⟨rfl, hb⟩
  have e1 : P.digit TT [1, 2] = (2, 0) := by decide +kernel
  rw [e1]
  exact ⟨rfl, hb⟩

/-- Check of a table with two equal rows. -/
theorem check_u (w w1 w2 w3 : World) (h1 : w1 = w.alloc (.cells #[.int .i64 0, .int .i64 1] 3)) (h2 : w2 = w1.alloc (.cells #[.int .i64 0, .int .i64 1] 3))
    (h3 : w3 = w2.alloc (.cells #[.slice (some ⟨w.heap.size, 0, none⟩) 2 2, .slice (some ⟨w.heap.size + 1, 0, none⟩) 2 2] 41)) :
    Calls Try.prog 29 #[.slice (some ⟨w.heap.size + 1 + 1, 0, none⟩) 2 2] w3 fun e w' => e = .returned (.int .i64 6) ∧ Below w.heap.size w w' := by
  have s1 : w1.heap.size = w.heap.size + 1 := by rw [h1]; simp
  have s2 : w2.heap.size = w1.heap.size + 1 := by rw [h2]; simp
  have b1 : Below w.heap.size w w1 := by rw [h1]; exact below_alloc _ _
  have b2 : Below w1.heap.size w1 w2 := by rw [h2]; exact below_alloc _ _
  have b3 : Below w2.heap.size w2 w3 := by rw [h3]; exact below_alloc _ _
  have r1 : RdI w1 (some ⟨w.heap.size, 0, none⟩) [0, 1] := by rw [h1]; exact RdI.lit w 3 [0, 1]
  have r2 : RdI w2 (some ⟨w1.heap.size, 0, none⟩) [0, 1] := by rw [h2]; exact RdI.lit w1 3 [0, 1]
  have top : ∀ k, w3.cell? ⟨w2.heap.size, k, none⟩ = (#[Value.slice (some ⟨w.heap.size, 0, none⟩) 2 2, .slice (some ⟨w.heap.size + 1, 0, none⟩) 2 2] : Array Value)[k]? := fun k => by
    rw [h3, World.cell?_alloc_at _ _ _ _ rfl]
  have q1 := (r1.stays b2).stays b3
  have q2 := r2.stays b3
  rw [s1] at q2
  rw [s2, s1] at top
  have hm : RdM w3 (some ⟨w.heap.size + 1 + 1, 0, none⟩) [[0, 1], [0, 1]] := by
    refine RdM.lit (b := w.heap.size + 1 + 1) rfl (fun k => some ⟨w.heap.size + k, 0, none⟩) (fun _ => 2) (fun k hk => ?_) (fun k hk => ?_)
    · rw [top k]
      match k, hk with
      | 0, _ => rfl | 1, _ => rfl
    · match k, hk with
      | 0, _ => exact q1
      | 1, _ => exact q2
  refine (check_any _ 2 [[0, 1], [0, 1]] w3 hm).mono ?_
  rintro e w' ⟨rfl, hb⟩
  have e1 : P.check [[0, 1], [0, 1]] = 6 := by decide +kernel
  rw [e1]
  exact ⟨rfl, ((b1.trans (b2.mono (by omega))).trans (b3.mono (by omega))).trans (hb.mono (by have := b3.size; omega))⟩

set_option maxHeartbeats 4000000 in
set_option maxRecDepth 100000 in
/-- The law's walk. -/
theorem serialKnown_walk (w : World) : Calls Try.prog 14 #[] w fun e w' => e = .returned (.bool true) ∧ Below w.heap.size w w' := by
  go_enter Try.func14, Try.ntmps14
  go_wp2_with fail
  refine (line_u _).mono ?_
  rintro e w1 ⟨ru, cu, rfl, hr, hb⟩
  have hd : Below w.heap.size w w1 := hb
  have B_1 := hid hd
  have HU_1 := hid hr
  clear hb hd hr 
  go_wp2_with fail
  refine (line_v _).mono ?_
  rintro e w2 ⟨rv, cv, rfl, hb⟩
  have hd : Below w1.heap.size w1 w2 := hb
  have HU_2 := hid (HU_1.out.stays hd)
  have B_2 := hid (B_1.out.trans (hd.mono B_1.out.size))
  clear hb hd  HU_1 B_1
  have HC := hid (blind_u ru cu _ HU_2.out)
  go_wp2_with fail
  refine HC.out.mono ?_
  rintro e w3 ⟨bb, bo, bc, rfl, hr, hb⟩
  have hd : Below w2.heap.size w2 w3 := hb
  have HU_3 := hid (HU_2.out.stays hd)
  have B_3 := hid (B_2.out.trans (hd.mono B_2.out.size))
  have HBL_3 := hid hr
  clear hb hd hr HU_2 B_2
  clear HC
  have HC := hid (twins_u ru cu _ HU_3.out)
  go_wp2_with fail
  refine HC.out.mono ?_
  rintro e w4 ⟨tb, to, tc, rfl, hr, hb⟩
  have hd : Below w3.heap.size w3 w4 := hb
  have HU_4 := hid (HU_3.out.stays hd)
  have HBL_4 := hid (HBL_3.out.stays hd)
  have B_4 := hid (B_3.out.trans (hd.mono B_3.out.size))
  have HTW_4 := hid hr
  clear hb hd hr HU_3 HBL_3 B_3
  clear HC
  clear HU_4
  go_wp2_with fail
  refine (value_u _).mono ?_
  rintro e w5 ⟨rfl, hb⟩
  have hd : Below w4.heap.size w4 w5 := hb
  have HBL_5 := hid (HBL_4.out.stays hd)
  have HTW_5 := hid (HTW_4.out.stays hd)
  have B_5 := hid (B_4.out.trans (hd.mono B_4.out.size))
  clear hb hd  HBL_4 HTW_4 B_4
  go_wp2_with fail
  refine (value_v _).mono ?_
  rintro e w6 ⟨rfl, hb⟩
  have hd : Below w5.heap.size w5 w6 := hb
  have HBL_6 := hid (HBL_5.out.stays hd)
  have HTW_6 := hid (HTW_5.out.stays hd)
  have B_6 := hid (B_5.out.trans (hd.mono B_5.out.size))
  clear hb hd  HBL_5 HTW_5 B_5
  go_wp2_with fail
  refine (T_any _).mono ?_
  rintro e w7 ⟨a2, rfl, hr, hb⟩
  have hd : Below w6.heap.size w6 w7 := hb
  have HBL_7 := hid (HBL_6.out.stays hd)
  have HTW_7 := hid (HTW_6.out.stays hd)
  have B_7 := hid (B_6.out.trans (hd.mono B_6.out.size))
  have Ra2_7 := hid hr
  clear hb hd hr HBL_6 HTW_6 B_6
  have hal := below_alloc w7 (.cells #[.int .i64 1, .int .i64 2] 3)
  have HAL := hid hal
  have HC := hid (digit_u a2 (some ⟨w7.heap.size, 0, none⟩) 5 2 (w7.alloc (.cells #[.int .i64 1, .int .i64 2] 3)) (Ra2_7.out.stays hal) (RdI.lit w7 3 [1, 2]))
  clear hal
  go_wp2_with (go_at_call 56; refine (list_any _ _).mono ?_; rintro e w' ⟨rfl, rfl⟩)
  refine HC.out.mono ?_
  rintro e w8 ⟨rfl, hb⟩
  have hd : Below w7.heap.size w7 w8 := (HAL.out).trans (hb.mono (HAL.out).size)
  have HBL_8 := hid (HBL_7.out.stays hd)
  have HTW_8 := hid (HTW_7.out.stays hd)
  have Ra2_8 := hid (Ra2_7.out.stays hd)
  have B_8 := hid (B_7.out.trans (hd.mono B_7.out.size))
  clear hb hd  HBL_7 HTW_7 Ra2_7 B_7
  clear HAL HC
  clear Ra2_8
  obtain ⟨x1, x2, x3⟩ := HBL_8.out
  obtain ⟨y1, y2, y3⟩ := HTW_8.out
  have HC := hid (check_u w8 _ _ _ rfl rfl rfl)
  have i1 : (0 : Int) < 24 := by decide
  go_wp2_with fail
  refine HC.out.mono ?_
  rintro e w9 ⟨rfl, hb⟩
  have B_9 := hid (B_8.out.trans (hb.mono B_8.out.size))
  clear hb x1 x2 x3 y1 y2 y3 HC HBL_8 HTW_8
  go_wp2_with fail
  refine (works_any _).mono ?_
  rintro e w10 ⟨rfl, hb⟩
  go_wp2
  go_ret
  exact ⟨rfl, B_9.out.trans (hb.mono B_9.out.size)⟩

/-! The row's frame (the guide's template). -/
set_option linter.unusedVariables false in
set_option maxRecDepth 100000 in
theorem serialKnown_lifted (os : Os) (started : os.Started) (H : Type) (enc : TypeId × Value → H) :
    ReturnsInHanded {} Try.checked os 14 .any (Rows.serialKnownSpec.pre6 enc Try.prog Try.f14 Rows.serialKnownRow.domain false) (Rows.serialKnownSpec.post enc Try.prog Try.f14 false true false false) := by
  refine returnsInHanded_of_change (C := Try.checked) own started (by kernel_rfl) Try.func14
    (ChangeSpec.witness6 (enc := enc) (C := Try.checked) false ⟨#[], #[], []⟩ 8 (by kernel_rfl) (by kernel_rfl) (by kernel_rfl) (by kernel_rfl)) ?_
  intro W base args ds gs before hval0 hW hcnd _
  have hval : ∀ (j : Nat) t v, Try.f14.params[j]? = some t → args[j]? = some v → Value.okWide Try.prog W .any base t v := hval0
  have hW' := hW
  obtain ⟨p, q, hA0, hV, rfl, hfz, hnd⟩ := hW
  have hA : DataW.TrodAll enc Try.prog W 0 (fun _ => true) true Try.f14.params.toList args.toList ds p := hA0
  rw [Try.params14] at hA hval
  obtain ⟨rfl, rfl, rfl⟩ := trodAll_none hA
  obtain ⟨rfl, rfl⟩ := trodVars_none hV
  clear hA0 hval0
  refine (serialKnown_walk W).mono fun e W' ⟨he, bel⟩ => ?_
  subst he
  exact ⟨_, rfl, _, _, _, [], _, [], hW', trodAll_mk1 (shut_bool Try.underlying4 _), trodAll_mk0, rfl, bel.frame _, fun h => by cases h⟩

theorem serialKnown_over : Rows.serialKnownRow.holds Try.pinned (OpenSpec.ofChange Rows.serialKnownSpec) :=
  OpenClaim.holds_of_wide 14 Try.f14 rfl rfl rfl rfl rfl rfl rfl ⟨rfl, rfl, rfl, rfl, rfl⟩ rfl rfl rfl rfl rfl (by kernel_rfl) Try.func14 (by kernel_rfl)
    (of_decide_eq_true (by kernel_rfl)) (by unfold Func.isWrapper; first | (rw [if_pos (by decide +kernel)]; kernel_rfl) | (rw [if_neg (by decide +kernel)]; exact ⟨rfl, rfl⟩))
    (fun os started H enc _ => serialKnown_lifted os started H enc)

theorem serialKnown_proved : Rows.SerialKnownSaid := serialKnown_over

end Go.Proofs.Ytafpfcjemlonpaa
