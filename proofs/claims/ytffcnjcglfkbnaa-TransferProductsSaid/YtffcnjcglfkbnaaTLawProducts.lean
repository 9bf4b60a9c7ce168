/- The law TransferProducts: chains can be put behind each other, multiplied; doubles and neighbours; one less than a power of 2. No condition. -/
import Derived.Test.YtffcnjcglfkbnaaTPrd0
import Derived.Test.YtffcnjcglfkbnaaTPrd1
import Derived.Test.YtffcnjcglfkbnaaTPrd2
import Derived.Test.YtffcnjcglfkbnaaTPrd3
import Derived.ShutString
import Derived.ChangeOld
import Derived.Below
namespace Go.Proofs.Ytffcnjcglfkbnaa
open Go.ChangeShapes Go.WideShapes Go.ChangeAt Go.RowKit Ev

theorem prod0 (j : Nat) (h : j < 230) : runS 10 [.res .u8 23 0, .res .u8 230 j] = true := by
  by_cases c0 : j < 60
  · have e : Nat.add 0 j = j := Nat.zero_add j
    have := allB_get prod0_0 j (by omega)
    rw [e] at this; exact this
  by_cases c60 : j < 120
  · have e : Nat.add 60 (j - 60) = j := by show 60 + (j - 60) = j; omega
    have := allB_get prod0_60 (j - 60) (by omega)
    rw [e] at this; exact this
  by_cases c120 : j < 180
  · have e : Nat.add 120 (j - 120) = j := by show 120 + (j - 120) = j; omega
    have := allB_get prod0_120 (j - 120) (by omega)
    rw [e] at this; exact this
  by_cases c180 : j < 230
  · have e : Nat.add 180 (j - 180) = j := by show 180 + (j - 180) = j; omega
    have := allB_get prod0_180 (j - 180) (by omega)
    rw [e] at this; exact this
  omega
theorem prod1 (j : Nat) (h : j < 115) : runS 10 [.res .u8 23 1, .res .u8 115 j] = true := by
  by_cases c0 : j < 60
  · have e : Nat.add 0 j = j := Nat.zero_add j
    have := allB_get prod1_0 j (by omega)
    rw [e] at this; exact this
  by_cases c60 : j < 115
  · have e : Nat.add 60 (j - 60) = j := by show 60 + (j - 60) = j; omega
    have := allB_get prod1_60 (j - 60) (by omega)
    rw [e] at this; exact this
  omega
theorem prod2 (j : Nat) (h : j < 15) : runS 10 [.res .u8 23 2, .res .u8 15 j] = true := by
  by_cases c0 : j < 15
  · have e : Nat.add 0 j = j := Nat.zero_add j
    have := allB_get prod2_0 j (by omega)
    rw [e] at this; exact this
  omega
theorem prod3 (j : Nat) (h : j < 55) : runS 10 [.res .u8 23 3, .res .u8 55 j] = true := by
  by_cases c0 : j < 55
  · have e : Nat.add 0 j = j := Nat.zero_add j
    have := allB_get prod3_0 j (by omega)
    rw [e] at this; exact this
  omega
theorem prod4 (j : Nat) (h : j < 45) : runS 10 [.res .u8 23 4, .res .u8 45 j] = true := by
  by_cases c0 : j < 45
  · have e : Nat.add 0 j = j := Nat.zero_add j
    have := allB_get prod4_0 j (by omega)
    rw [e] at this; exact this
  omega
theorem prod5 (j : Nat) (h : j < 35) : runS 10 [.res .u8 23 5, .res .u8 35 j] = true := by
  by_cases c0 : j < 35
  · have e : Nat.add 0 j = j := Nat.zero_add j
    have := allB_get prod5_0 j (by omega)
    rw [e] at this; exact this
  omega
theorem prod6 (j : Nat) (h : j < 30) : runS 10 [.res .u8 23 6, .res .u8 30 j] = true := by
  by_cases c0 : j < 30
  · have e : Nat.add 0 j = j := Nat.zero_add j
    have := allB_get prod6_0 j (by omega)
    rw [e] at this; exact this
  omega
theorem prod7 (j : Nat) (h : j < 5) : runS 10 [.res .u8 23 7, .res .u8 5 j] = true := by
  by_cases c0 : j < 5
  · have e : Nat.add 0 j = j := Nat.zero_add j
    have := allB_get prod7_0 j (by omega)
    rw [e] at this; exact this
  omega
theorem prod8 (j : Nat) (h : j < 5) : runS 10 [.res .u8 23 8, .res .u8 5 j] = true := by
  by_cases c0 : j < 5
  · have e : Nat.add 0 j = j := Nat.zero_add j
    have := allB_get prod8_0 j (by omega)
    rw [e] at this; exact this
  omega
theorem prod9 (j : Nat) (h : j < 20) : runS 10 [.res .u8 23 9, .res .u8 20 j] = true := by
  by_cases c0 : j < 20
  · have e : Nat.add 0 j = j := Nat.zero_add j
    have := allB_get prod9_0 j (by omega)
    rw [e] at this; exact this
  omega
theorem prod10 (j : Nat) (h : j < 20) : runS 10 [.res .u8 23 10, .res .u8 20 j] = true := by
  by_cases c0 : j < 20
  · have e : Nat.add 0 j = j := Nat.zero_add j
    have := allB_get prod10_0 j (by omega)
    rw [e] at this; exact this
  omega
theorem prod11 (j : Nat) (h : j < 15) : runS 10 [.res .u8 23 11, .res .u8 15 j] = true := by
  by_cases c0 : j < 15
  · have e : Nat.add 0 j = j := Nat.zero_add j
    have := allB_get prod11_0 j (by omega)
    rw [e] at this; exact this
  omega
theorem prod12 (j : Nat) (h : j < 15) : runS 10 [.res .u8 23 12, .res .u8 15 j] = true := by
  by_cases c0 : j < 15
  · have e : Nat.add 0 j = j := Nat.zero_add j
    have := allB_get prod12_0 j (by omega)
    rw [e] at this; exact this
  omega
theorem prod13 (j : Nat) (h : j < 15) : runS 10 [.res .u8 23 13, .res .u8 15 j] = true := by
  by_cases c0 : j < 15
  · have e : Nat.add 0 j = j := Nat.zero_add j
    have := allB_get prod13_0 j (by omega)
    rw [e] at this; exact this
  omega
theorem prod14 (j : Nat) (h : j < 15) : runS 10 [.res .u8 23 14, .res .u8 15 j] = true := by
  by_cases c0 : j < 15
  · have e : Nat.add 0 j = j := Nat.zero_add j
    have := allB_get prod14_0 j (by omega)
    rw [e] at this; exact this
  omega
theorem prod15 (j : Nat) (h : j < 10) : runS 10 [.res .u8 23 15, .res .u8 10 j] = true := by
  by_cases c0 : j < 10
  · have e : Nat.add 0 j = j := Nat.zero_add j
    have := allB_get prod15_0 j (by omega)
    rw [e] at this; exact this
  omega
theorem prod16 (j : Nat) (h : j < 10) : runS 10 [.res .u8 23 16, .res .u8 10 j] = true := by
  by_cases c0 : j < 10
  · have e : Nat.add 0 j = j := Nat.zero_add j
    have := allB_get prod16_0 j (by omega)
    rw [e] at this; exact this
  omega
theorem prod17 (j : Nat) (h : j < 10) : runS 10 [.res .u8 23 17, .res .u8 10 j] = true := by
  by_cases c0 : j < 10
  · have e : Nat.add 0 j = j := Nat.zero_add j
    have := allB_get prod17_0 j (by omega)
    rw [e] at this; exact this
  omega
theorem prod18 (j : Nat) (h : j < 10) : runS 10 [.res .u8 23 18, .res .u8 10 j] = true := by
  by_cases c0 : j < 10
  · have e : Nat.add 0 j = j := Nat.zero_add j
    have := allB_get prod18_0 j (by omega)
    rw [e] at this; exact this
  omega
theorem prod19 (j : Nat) (h : j < 10) : runS 10 [.res .u8 23 19, .res .u8 10 j] = true := by
  by_cases c0 : j < 10
  · have e : Nat.add 0 j = j := Nat.zero_add j
    have := allB_get prod19_0 j (by omega)
    rw [e] at this; exact this
  omega
theorem prod20 (j : Nat) (h : j < 10) : runS 10 [.res .u8 23 20, .res .u8 10 j] = true := by
  by_cases c0 : j < 10
  · have e : Nat.add 0 j = j := Nat.zero_add j
    have := allB_get prod20_0 j (by omega)
    rw [e] at this; exact this
  omega
theorem prod21 (j : Nat) (h : j < 10) : runS 10 [.res .u8 23 21, .res .u8 10 j] = true := by
  by_cases c0 : j < 10
  · have e : Nat.add 0 j = j := Nat.zero_add j
    have := allB_get prod21_0 j (by omega)
    rw [e] at this; exact this
  omega
theorem prod22 (j : Nat) (h : j < 10) : runS 10 [.res .u8 23 22, .res .u8 10 j] = true := by
  by_cases c0 : j < 10
  · have e : Nat.add 0 j = j := Nat.zero_add j
    have := allB_get prod22_0 j (by omega)
    rw [e] at this; exact this
  omega
theorem transferProducts_walk (w : World) (a0 : Int) (w0 : (Lit.int .u8 a0).wf = true) (a1 : Int) (w1 : (Lit.int .u8 a1).wf = true) : Calls Try.prog 10 #[.int .u8 a0, .int .u8 a1] w fun e w' => e = .returned (.bool true) ∧ Below w.heap.size w w' := by
  obtain ⟨x, rfl, hx⟩ := u8_nat w0
  obtain ⟨y, rfl, hy⟩ := u8_nat w1
  have hr : x % 23 < 23 := Nat.mod_lt _ (by decide)
  have key : ∀ r m, x % 23 = r → runS 10 [.res .u8 23 r, .res .u8 m (y % m)] = true → GivesV Try.prog 10 [.int .u8 x, .int .u8 y] (.bool true) := by
    intro r m e h
    subst e
    exact runS_gives (RelL.cons (rel_res (by omega)) (RelL.cons (rel_res (by omega)) (RelL.nil_iff.2 rfl))) h
  by_cases c0 : x % 23 = 0
  · exact key 0 230 c0 (prod0 _ (Nat.mod_lt _ (by decide))) w
  by_cases c1 : x % 23 = 1
  · exact key 1 115 c1 (prod1 _ (Nat.mod_lt _ (by decide))) w
  by_cases c2 : x % 23 = 2
  · exact key 2 15 c2 (prod2 _ (Nat.mod_lt _ (by decide))) w
  by_cases c3 : x % 23 = 3
  · exact key 3 55 c3 (prod3 _ (Nat.mod_lt _ (by decide))) w
  by_cases c4 : x % 23 = 4
  · exact key 4 45 c4 (prod4 _ (Nat.mod_lt _ (by decide))) w
  by_cases c5 : x % 23 = 5
  · exact key 5 35 c5 (prod5 _ (Nat.mod_lt _ (by decide))) w
  by_cases c6 : x % 23 = 6
  · exact key 6 30 c6 (prod6 _ (Nat.mod_lt _ (by decide))) w
  by_cases c7 : x % 23 = 7
  · exact key 7 5 c7 (prod7 _ (Nat.mod_lt _ (by decide))) w
  by_cases c8 : x % 23 = 8
  · exact key 8 5 c8 (prod8 _ (Nat.mod_lt _ (by decide))) w
  by_cases c9 : x % 23 = 9
  · exact key 9 20 c9 (prod9 _ (Nat.mod_lt _ (by decide))) w
  by_cases c10 : x % 23 = 10
  · exact key 10 20 c10 (prod10 _ (Nat.mod_lt _ (by decide))) w
  by_cases c11 : x % 23 = 11
  · exact key 11 15 c11 (prod11 _ (Nat.mod_lt _ (by decide))) w
  by_cases c12 : x % 23 = 12
  · exact key 12 15 c12 (prod12 _ (Nat.mod_lt _ (by decide))) w
  by_cases c13 : x % 23 = 13
  · exact key 13 15 c13 (prod13 _ (Nat.mod_lt _ (by decide))) w
  by_cases c14 : x % 23 = 14
  · exact key 14 15 c14 (prod14 _ (Nat.mod_lt _ (by decide))) w
  by_cases c15 : x % 23 = 15
  · exact key 15 10 c15 (prod15 _ (Nat.mod_lt _ (by decide))) w
  by_cases c16 : x % 23 = 16
  · exact key 16 10 c16 (prod16 _ (Nat.mod_lt _ (by decide))) w
  by_cases c17 : x % 23 = 17
  · exact key 17 10 c17 (prod17 _ (Nat.mod_lt _ (by decide))) w
  by_cases c18 : x % 23 = 18
  · exact key 18 10 c18 (prod18 _ (Nat.mod_lt _ (by decide))) w
  by_cases c19 : x % 23 = 19
  · exact key 19 10 c19 (prod19 _ (Nat.mod_lt _ (by decide))) w
  by_cases c20 : x % 23 = 20
  · exact key 20 10 c20 (prod20 _ (Nat.mod_lt _ (by decide))) w
  by_cases c21 : x % 23 = 21
  · exact key 21 10 c21 (prod21 _ (Nat.mod_lt _ (by decide))) w
  by_cases c22 : x % 23 = 22
  · exact key 22 10 c22 (prod22 _ (Nat.mod_lt _ (by decide))) w
  omega

/-! The row's frame (the guide's template). -/
set_option linter.unusedVariables false in
set_option maxRecDepth 100000 in
theorem transferProducts_lifted (os : Os) (started : os.Started) (H : Type) (enc : TypeId × Value → H) :
    ReturnsInHanded {} Try.checked os 10 .any (Rows.transferProductsSpec.pre6 enc Try.prog Try.f10 Rows.transferProductsRow.domain false) (Rows.transferProductsSpec.post enc Try.prog Try.f10 false true false false) := by
  refine returnsInHanded_of_change (C := Try.checked) own started (by kernel_rfl) Try.func10
    (ChangeSpec.witness6 (enc := enc) (C := Try.checked) false ⟨#[], #[.int .u8 0, .int .u8 0], []⟩ 8 (by kernel_rfl) (by kernel_rfl) (by kernel_rfl) (by kernel_rfl)) ?_
  intro W base args ds gs before hval0 hW hcnd _
  have hval : ∀ (j : Nat) t v, Try.f10.params[j]? = some t → args[j]? = some v → Value.okWide Try.prog W .any base t v := hval0
  have hW' := hW
  obtain ⟨p, q, hA0, hV, rfl, hfz, hnd⟩ := hW
  have hA : DataW.TrodAll enc Try.prog W 0 (fun _ => true) true Try.f10.params.toList args.toList ds p := hA0
  rw [Try.params10] at hA hval
  obtain ⟨v0, vs0, d0, ds0, p0, q0, hargs, rfl, rfl, h0, r0⟩ := trodAll_cons hA
  obtain ⟨v1, vs1, d1, ds1, p1, q1, rfl, rfl, rfl, h1, r1⟩ := trodAll_cons r0
  obtain ⟨rfl, rfl, rfl⟩ := trodAll_nil r1
  obtain rfl : args = #[v0, v1] := by cases args; simp_all
  obtain ⟨rfl, rfl⟩ := trodVars_none hV
  have k0 := h0
  have lt0 : ∀ x ∈ p0, x.block < W.heap.size := by obtain ⟨m, hm⟩ := k0; exact DataW.trod_lt m _ _ _ hm
  obtain ⟨a0, rfl, rfl, rfl, w0⟩ := open_int Try.underlying5 (hval 0 5 v0 rfl rfl) h0
  have k1 := h1
  have lt1 : ∀ x ∈ p1, x.block < W.heap.size := by obtain ⟨m, hm⟩ := k1; exact DataW.trod_lt m _ _ _ hm
  obtain ⟨a1, rfl, rfl, rfl, w1⟩ := open_int Try.underlying5 (hval 1 5 v1 rfl rfl) h1
  clear hA0 hval0
  refine (transferProducts_walk W a0 w0 a1 w1 ).mono fun e W' ⟨he, bel⟩ => ?_
  subst he
  exact ⟨_, rfl, _, _, _, [], _, [], hW', trodAll_mk1 (shut_bool Try.underlying4 _), (trodAll_cons_mk (Below.trod laidOut (by kernel_rfl) (of_decide_eq_true (by kernel_rfl)) k0 bel lt0) (trodAll_cons_mk (Below.trod laidOut (by kernel_rfl) (of_decide_eq_true (by kernel_rfl)) k1 bel lt1) trodAll_mk0)), rfl, bel.frame _, fun h => by cases h⟩

theorem transferProducts_over : Rows.transferProductsRow.holds Try.pinned (OpenSpec.ofChange Rows.transferProductsSpec) :=
  OpenClaim.holds_of_wide 10 Try.f10 rfl rfl rfl rfl rfl rfl rfl ⟨rfl, rfl, rfl, rfl, rfl⟩ rfl rfl rfl rfl rfl (by kernel_rfl) Try.func10 (by kernel_rfl)
    (of_decide_eq_true (by kernel_rfl)) (by unfold Func.isWrapper; first | (rw [if_pos (by decide +kernel)]; kernel_rfl) | (rw [if_neg (by decide +kernel)]; exact ⟨rfl, rfl⟩))
    (fun os started H enc _ => transferProducts_lifted os started H enc)

theorem transferProducts_proved : Rows.TransferProductsSaid := transferProducts_over

end Go.Proofs.Ytffcnjcglfkbnaa
