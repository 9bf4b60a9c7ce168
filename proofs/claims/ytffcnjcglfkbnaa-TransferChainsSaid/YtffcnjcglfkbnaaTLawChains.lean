/- The law TransferChains: chains are valid, have ways, and are rows, as stated. No condition. -/
import Derived.Test.YtffcnjcglfkbnaaTWorks
import Derived.Test.YtffcnjcglfkbnaaTRRow
import Derived.ShutString
import Derived.ChangeOld
import Derived.Below
namespace Go.Proofs.Ytffcnjcglfkbnaa
open Go.ChangeShapes Go.WideShapes Go.ChangeAt Go.RowKit Go.Deep

theorem open_rdI {H : Type} {enc : TypeId × Value → H} {W : World} {a : Option Addr} {len cap : Nat} {d : DataW H} {ps : List MemPlace}
    (h : DataW.Trod enc Try.prog W 0 (fun _ => true) true 22 (.slice a len cap) d ps) :
    ∃ xs : List Int, xs.length = len ∧ len ≤ cap ∧ cap ≤ maxLen ∧ RdI W a xs ∧ ∀ x ∈ xs, (Lit.int .i64 x).wf = true := by
  obtain ⟨fuel, hf⟩ := h
  rcases open_ints Try.underlying22 Try.underlying3 (by kernel_rfl) hf with ⟨hcs, _⟩ | ⟨x, l, c, zs, hcs, _, hl, hm, hz, _, hcell, hwz⟩
  · simp [Value.cells] at hcs
    obtain ⟨rfl, rfl, rfl⟩ := hcs
    exact ⟨[], rfl, Nat.le_refl _, Nat.zero_le _, RdI.nil _ _, fun x hx => by cases hx⟩
  · simp [Value.cells] at hcs
    obtain ⟨rfl, rfl, rfl⟩ := hcs
    have hz' : zs.length = cap := by simpa using hz
    refine ⟨zs.take len, by rw [List.length_take]; omega, hl, hm, fun k hk => ?_, fun n hn => hwz n (List.mem_of_mem_take hn)⟩
    rw [List.length_take] at hk
    obtain ⟨b, off, rfl, hc⟩ := ints_at hcell (by omega)
    refine ⟨b, off, rfl, ?_⟩
    rw [hc k (by omega), List.getElem_take]
    simp [List.getD, List.getElem?_eq_getElem (show k < zs.length by omega)]

theorem works_any (w : World) : Calls Try.prog 15 #[] w fun e w' => e = .returned (.bool true) ∧ Below w.heap.size w w' := works_gives w
theorem waysV_len (l : List Int) (h : l.length ≤ 40) : (K.waysV l).length ≤ 100 := by
  unfold K.waysV
  split
  · rw [K.ways_length]; omega
  · simp

set_option maxHeartbeats 8000000 in
set_option maxRecDepth 100000 in
theorem transferChains_walk (w : World) (a : Option Addr) (c : Nat) (xs : List Int) (hc : xs.length ≤ c) (hcm : c ≤ maxLen) (hx : RdI w a xs) :
    Calls Try.prog 3 #[.slice a xs.length c] w fun e w' => e = .returned (.bool true) ∧ Below w.heap.size w w' := by
  by_cases h40 : 40 < xs.length
  · have HW := hid (works_any w)
    clear hx
    go_enter Try.func3, Try.ntmps3
    go_wp2_with fail
    refine HW.out.mono ?_
    rintro e w1 ⟨rfl, hb⟩
    go_wp2
    go_ret
    exact ⟨rfl, hb⟩
  have hl := waysV_len xs (by omega)
  have H1 := hid (ways_any a c xs w hc hcm hx)
  have H2 := hid (fun W (hW : Below w.heap.size w W) => refWays_any a c xs W hc hcm (hx.stays hW))
  have H3 := hid (fun W (hW : Below w.heap.size w W) => row_any a c xs W hc hcm (hx.stays hW))
  have H4 := hid (fun W (hW : Below w.heap.size w W) => refRowV_any a c xs W hc hcm (hx.stays hW))
  have H5 := hid (fun W (hW : Below w.heap.size w W) => check_any a c xs W hc hcm (hx.stays hW))
  have H6 := hid (fun W (hW : Below w.heap.size w W) => refCheck_any a c xs W hc hcm (hx.stays hW))
  clear hx
  generalize K.waysV xs = ws at *
  generalize K.rowV xs = ro at *
  generalize K.chk xs = z at *
  have hz : (z == z) = true := by simp
  have hro : (ro == ro) = true := by simp
  go_enter Try.func3, Try.ntmps3
  go_wp2_with fail
  refine H1.out.mono ?_
  rintro e w1 ⟨r1, c1, y1, rfl, rfl, hr1, hb1⟩
  have HR1 := hid hr1
  have K2 := hid (H2.out w1 hb1)
  have HB1 := hid hb1
  clear hr1 hb1 H1 H2
  go_wp2_with fail
  refine K2.out.mono ?_
  rintro e w2 ⟨r2, c2, y2, rfl, rfl, hr2, hb2⟩
  have HR2 := hid hr2
  have HR1b := hid (HR1.out.stays hb2)
  have HB2 := hid (HB1.out.trans (hb2.mono HB1.out.size))
  have K3 := hid (H3.out w2 HB2.out)
  clear hr2 hb2 H3 HR1 HB1 K2
  go_wp2_with fail
  refine K3.out.mono ?_
  rintro e w3 ⟨rfl, hb3⟩
  have HR1c := hid (HR1b.out.stays hb3)
  have HR2c := hid (HR2.out.stays hb3)
  have HB3 := hid (HB2.out.trans (hb3.mono HB2.out.size))
  have K4 := hid (H4.out w3 HB3.out)
  clear hb3 H4 HR1b HR2 HB2 K3
  go_wp2_with fail
  refine K4.out.mono ?_
  rintro e w4 ⟨rfl, hb4⟩
  have HB4 := hid (HB3.out.trans (hb4.mono HB3.out.size))
  have K5 := hid (pairs_eq r1 r2 c1 c2 y2 w4 hl (HR1c.out.stays hb4) (HR2c.out.stays hb4))
  clear hb4 HR1c HR2c HB3 K4
  go_wp2_with fail
  refine K5.out.mono ?_
  rintro e w5 ⟨rfl, hb5⟩
  have HB5 := hid (HB4.out.trans (hb5.mono HB4.out.size))
  have K6 := hid (H5.out w5 HB5.out)
  clear hb5 HB4 K5 H5
  go_wp2_with fail
  refine K6.out.mono ?_
  rintro e w6 ⟨rfl, hb6⟩
  have HB6 := hid (HB5.out.trans (hb6.mono HB5.out.size))
  have K7 := hid (H6.out w6 HB6.out)
  clear hb6 HB5 K6 H6
  go_wp2_with fail
  refine K7.out.mono ?_
  rintro e w7 ⟨rfl, hb7⟩
  have HB7 := hid (HB6.out.trans (hb7.mono HB6.out.size))
  have K8 := hid (works_any w7)
  clear hb7 HB6 K7
  go_wp2_with fail
  refine K8.out.mono ?_
  rintro e w8 ⟨rfl, hb8⟩
  have HB8 := hid (HB7.out.trans (hb8.mono HB7.out.size))
  clear hb8 HB7 K8
  go_wp2
  go_ret
  exact ⟨rfl, HB8.out⟩

/-! The row's frame (the guide's template). -/
set_option linter.unusedVariables false in
set_option maxRecDepth 100000 in
theorem transferChains_lifted (os : Os) (started : os.Started) (H : Type) (enc : TypeId × Value → H) :
    ReturnsInHanded {} Try.checked os 3 .any (Rows.transferChainsSpec.pre6 enc Try.prog Try.f3 Rows.transferChainsRow.domain false) (Rows.transferChainsSpec.post enc Try.prog Try.f3 false true false false) := by
  refine returnsInHanded_of_change (C := Try.checked) own started (by kernel_rfl) Try.func3
    (ChangeSpec.witness6 (enc := enc) (C := Try.checked) false ⟨#[], #[.slice none 0 0], []⟩ 8 (by kernel_rfl) (by kernel_rfl) (by kernel_rfl) (by kernel_rfl)) ?_
  intro W base args ds gs before hval0 hW hcnd _
  have hval : ∀ (j : Nat) t v, Try.f3.params[j]? = some t → args[j]? = some v → Value.okWide Try.prog W .any base t v := hval0
  have hW' := hW
  obtain ⟨p, q, hA0, hV, rfl, hfz, hnd⟩ := hW
  have hA : DataW.TrodAll enc Try.prog W 0 (fun _ => true) true Try.f3.params.toList args.toList ds p := hA0
  rw [Try.params3] at hA hval
  obtain ⟨v0, vs0, d0, ds0, p0, q0, hargs, rfl, rfl, h0, r0⟩ := trodAll_cons hA
  obtain ⟨rfl, rfl, rfl⟩ := trodAll_nil r0
  obtain rfl : args = #[v0] := by cases args; simp_all
  obtain ⟨rfl, rfl⟩ := trodVars_none hV
  have k0 := h0
  have lt0 : ∀ x ∈ p0, x.block < W.heap.size := by obtain ⟨m, hm⟩ := k0; exact DataW.trod_lt m _ _ _ hm
  obtain ⟨a0, len0, cap0, rfl⟩ := okWide_slice Try.underlying22 (hval 0 22 v0 rfl rfl)
  obtain ⟨xs0, rfl, hc0, hm0, hR0, hw0⟩ := open_rdI h0
  clear hA0 hval0
  refine (transferChains_walk W a0 cap0 xs0 hc0 hm0 hR0 ).mono fun e W' ⟨he, bel⟩ => ?_
  subst he
  exact ⟨_, rfl, _, _, _, [], _, [], hW', trodAll_mk1 (shut_bool Try.underlying4 _), (trodAll_cons_mk (Below.trod laidOut (by kernel_rfl) (of_decide_eq_true (by kernel_rfl)) k0 bel lt0) trodAll_mk0), rfl, bel.frame _, fun h => by cases h⟩

theorem transferChains_over : Rows.transferChainsRow.holds Try.pinned (OpenSpec.ofChange Rows.transferChainsSpec) :=
  OpenClaim.holds_of_wide 3 Try.f3 rfl rfl rfl rfl rfl rfl rfl ⟨rfl, rfl, rfl, rfl, rfl⟩ rfl rfl rfl rfl rfl (by kernel_rfl) Try.func3 (by kernel_rfl)
    (of_decide_eq_true (by kernel_rfl)) (by unfold Func.isWrapper; first | (rw [if_pos (by decide +kernel)]; kernel_rfl) | (rw [if_neg (by decide +kernel)]; exact ⟨rfl, rfl⟩))
    (fun os started H enc _ => transferChains_lifted os started H enc)

theorem transferChains_proved : Rows.TransferChainsSaid := transferChains_over

end Go.Proofs.Ytffcnjcglfkbnaa
