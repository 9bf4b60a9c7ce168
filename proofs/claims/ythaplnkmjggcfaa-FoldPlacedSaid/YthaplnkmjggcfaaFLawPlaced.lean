/- The law FoldPlaced holds: each segment begins where the one before it ends, and goes the opposite way. No condition. -/
import Derived.Test.YthaplnkmjggcfaaFOpenM
import Derived.Test.YthaplnkmjggcfaaFWorks
import Derived.OpenShut
import Derived.ShutString
import Derived.ChangeOld
import Derived.Below
namespace Go.Proofs.Ythaplnkmjggcfaa
open Go.ChangeShapes Go.WideShapes Go.ChangeAt Go.RowKit

set_option maxHeartbeats 2000000 in
set_option maxRecDepth 100000 in
theorem foldPlaced_walk (a : Option Addr) (c : Nat) (xs : List Nat) (f : Nat) (w : World) (hc : xs.length ≤ c) (hm : c ≤ maxLen) (hx : RdU w a xs) (hlt : ∀ x ∈ xs, x < 256) (hf : f < 256) :
    Calls Try.prog 12 #[.agg #[.slice a xs.length c, .int .u8 f]] w fun e w' => e = .returned (.bool true) ∧ Below w.heap.size w w' := by
  have HM := hid (fun W (hb : Below w.heap.size w W) => made_any a c xs f W hc hm (hx.stays hb) hlt hf)
  have HB0 := hid ((Below.refl w.heap.size w).alloc (Nat.le_refl _) (.cells #[.slice a xs.length c, .int .u8 f] 58))
  clear hx hlt hc hm hf
  go_enter Try.func12, Try.ntmps12
  go_wp2_with fail
  refine (HM.out _ HB0.out).mono ?_
  rintro e w1 ⟨b, d, l, st, rfl, h1, h6, hg, hst, hall, hrd, hb⟩
  have HB1 := hid (HB0.out.trans (hb.mono HB0.out.size))
  have HCK := hid (F.check_made h1 h6 hg hst hall)
  have HR1 := hid hrd
  have HG := hid hg
  have HST := hid hst
  clear hb hall hrd hg hst HB0 HM
  unfold F.strip
  go_wp2_with fail
  have HB2 := hid (HB1.out.alloc HB1.out.size (.cells #[.slice b l.length d, .string st] 24))
  have hR2 : RdI (w1.alloc (.cells #[.slice b l.length d, .string st] 24)) b l := HR1.out.stays ((Below.refl _ _).alloc (Nat.le_refl _) _)
  have hS2 : (w1.alloc (.cells #[.slice b l.length d, .string st] 24)).cell? ⟨w1.heap.size, 0, none⟩ = some (.slice b l.length d) := by rw [World.cell?_alloc_at _ _ _ _ rfl]; rfl
  have HSZ0 := hid (show w1.heap.size < (w1.alloc (.cells #[.slice b l.length d, .string st] 24)).heap.size by simp)
  have hP := Places_any b d l st (w1.alloc (.cells #[.slice b l.length d, .string st] 24)) (by unfold maxLen; omega) (by rw [HST.out]; unfold maxLen; omega) hR2
  generalize w1.alloc (.cells #[.slice b l.length d, .string st] 24) = w2 at *
  rw [HCK.out] at hP
  unfold F.strip at hP
  refine hP.mono ?_
  rintro e w3 ⟨r, n, cr, rfl, hn, hncr, hrb, hb3⟩
  have hn' : n = l.length := by simpa using hn
  subst hn'
  clear hn hP
  have s3 : w3.cell? ⟨w1.heap.size, 0, none⟩ = some (.slice b l.length d) := cell_stays hb3 (Nat.le_refl _) hS2
  have HS3 := hid s3
  have HR3 := hid (hR2.stays hb3)
  have HB3 := hid (HB2.out.trans (hb3.mono HB2.out.size))
  have HRB := hid hrb
  have HSZ := hid (show w1.heap.size < w3.heap.size from Nat.lt_of_lt_of_le HSZ0.out hb3.size)
  have HG5 := hid (show ∀ k (hk : k < l.length), 1 ≤ l[k] ∧ l[k] ≤ 350 from fun k hk => by have := HG.out l[k] (List.getElem_mem hk); omega)
  have HPT := hid (F.pt_bound HG5.out)
  have hll : (l.length != l.length) = false := by simp
  clear hb3 hrb hR2 hS2 HSZ0 HB2 HB1 HR1 HCK HG HST
  go_wp2
  clear s3
  go_loopg [6, 29] l.length (fun g t i wr => ∃ k : Nat, k ≤ l.length ∧ g = l.length - k ∧ t = .int .i64 (F.pt l k) ∧ i = .int .i64 k ∧ Below w3.heap.size w3 wr)
  case atStart => exact ⟨0, Nat.zero_le _, rfl, rfl, rfl, Below.refl _ _⟩
  case round =>
    obtain ⟨k, hk, rfl, rfl, rfl, hb⟩ := hrel
    have HB := hid hb
    clear hb
    by_cases hkl : k < l.length
    · have s1 : wr.cell? ⟨w1.heap.size, 0, none⟩ = some (.slice b l.length d) := cell_stays HB.out (Nat.le_refl _) HS3.out
      obtain ⟨bb, ob, rfl, hcx⟩ := (HR3.out.stays HB.out) k hkl
      obtain ⟨rb, ro, rfl, hp0⟩ := HRB.out (k * 2) (by omega)
      obtain ⟨rb', ro', he, hp1⟩ := HRB.out (k * 2 + 1) (by omega)
      simp only [Option.some.injEq, Addr.mk.injEq, and_true] at he
      obtain ⟨rfl, rfl⟩ := he
      have e0 : F.spn l l.length (k * 2) = F.lo l k := by unfold F.spn; rw [if_pos (by omega), if_pos (by omega)]; congr 1; omega
      have e1 : F.spn l l.length (k * 2 + 1) = F.hi l k := by unfold F.spn; rw [if_pos (by omega), if_neg (by omega)]; congr 1; omega
      rw [e0] at hp0
      rw [e1] at hp1
      have p0 := cell_stays HB.out (Nat.le_refl _) hp0
      have p1 : wr.cell? ⟨rb, ro + k * 2 + 1, none⟩ = some (.int .i64 (F.hi l k)) := cell_stays HB.out (Nat.le_refl _) hp1
      obtain ⟨g1, g2⟩ := HG5.out k hkl
      obtain ⟨a1, a2⟩ := HPT.out k hk
      obtain ⟨a3, a4⟩ := HPT.out (k + 1) hkl
      have hpt : F.pt l (k + 1) = if k % 2 = 1 then F.pt l k - l[k] else F.pt l k + l[k] := by rw [F.pt, F.getD_at hkl]
      have hk2 : (k : Int).tmod 2 = ((k % 2 : Nat) : Int) := by rw [Int.tmod_eq_emod_of_nonneg (by omega)]; simp
      have hk3 : (k : Int) % 2 = ((k % 2 : Nat) : Int) := by simp
      have ii1 : (0 : Int) ≤ (k : Int) ∧ (k : Int) < (l.length : Int) := by omega
      generalize l[k] = x at *
      generalize hpk : F.pt l k = t at *
      generalize hpk1 : F.pt l (k + 1) = q at *
      clear e0 e1 hp0 hp1
      by_cases hpar : k % 2 = 1
      · rw [if_pos hpar] at hpt
        rw [hpar] at hk2 hk3
        have HQ0 := hid (show F.pt l (k + 1) = t - x by rw [hpk1]; exact hpt)
        have hlo : F.lo l k = min t (t - x) := by rw [F.lo, hpk, hpk1, hpt]
        have hhi : F.hi l k = max t (t - x) := by rw [F.hi, hpk, hpk1, hpt]
        rw [hlo] at p0
        rw [hhi] at p1
        have hne1 : w1.heap.size < wr.heap.size := Nat.lt_of_lt_of_le HSZ.out HB.out.size
        have hne2 : bb < wr.heap.size := World.block_lt_of_cell? _ _ hcx
        clear hlo hhi hpk hpk1 hpt a3 a4
        go_wp2
        go_roundg (l.length - (k + 1))
        case measure => omega
        case rel => exact ⟨k + 1, by omega, rfl, by rw [HQ0.out], by go_num, HB.out.alloc HB.out.size _⟩
      · rw [if_neg hpar] at hpt
        have hpar0 : k % 2 = 0 := by omega
        rw [hpar0] at hk2 hk3
        have HQ0 := hid (show F.pt l (k + 1) = t + x by rw [hpk1]; exact hpt)
        have hlo : F.lo l k = min t (t + x) := by rw [F.lo, hpk, hpk1, hpt]
        have hhi : F.hi l k = max t (t + x) := by rw [F.hi, hpk, hpk1, hpt]
        rw [hlo] at p0
        rw [hhi] at p1
        have hne1 : w1.heap.size < wr.heap.size := Nat.lt_of_lt_of_le HSZ.out HB.out.size
        have hne2 : bb < wr.heap.size := World.block_lt_of_cell? _ _ hcx
        clear hlo hhi hpk hpk1 hpt a3 a4
        go_wp2
        go_roundg (l.length - (k + 1))
        case measure => omega
        case rel => exact ⟨k + 1, by omega, rfl, by rw [HQ0.out], by go_num, HB.out.alloc HB.out.size _⟩
    · have hkn : k = l.length := by omega
      subst hkn
      have HBE := hid (HB3.out.trans (HB.out.mono HB3.out.size))
      clear HB HB3
      go_wp2_with fail
      refine (fold_works _).mono ?_
      rintro e w5 ⟨rfl, hb5⟩
      have HB5 := hid (HBE.out.trans (hb5.mono HBE.out.size))
      clear hb5
      go_wp2
      go_ret
      exact ⟨rfl, HB5.out⟩

/-! The row's frame (the guide's template). -/
set_option linter.unusedVariables false in
set_option maxRecDepth 100000 in
theorem foldPlaced_lifted (os : Os) (started : os.Started) (H : Type) (enc : TypeId × Value → H) :
    ReturnsInHanded {} Try.checked os 12 .any (Rows.foldPlacedSpec.pre6 enc Try.prog Try.f12 Rows.foldPlacedRow.domain false) (Rows.foldPlacedSpec.post enc Try.prog Try.f12 false true false false) := by
  refine returnsInHanded_of_change (C := Try.checked) own started (by kernel_rfl) Try.func12
    (ChangeSpec.witness6 (enc := enc) (C := Try.checked) false ⟨#[], #[.agg #[.slice none 0 0, .int .u8 0]], []⟩ 8 (by kernel_rfl) (by kernel_rfl) (by kernel_rfl) (by kernel_rfl)) ?_
  intro W base args ds gs before hval0 hW hcnd _
  have hval : ∀ (j : Nat) t v, Try.f12.params[j]? = some t → args[j]? = some v → Value.okWide Try.prog W .any base t v := hval0
  have hW' := hW
  obtain ⟨p, q, hA0, hV, rfl, hfz, hnd⟩ := hW
  have hA : DataW.TrodAll enc Try.prog W 0 (fun _ => true) true Try.f12.params.toList args.toList ds p := hA0
  rw [Try.params12] at hA hval
  obtain ⟨v0, vs0, d0, ds0, p0, q0, hargs, rfl, rfl, h0, r0⟩ := trodAll_cons hA
  obtain ⟨rfl, rfl, rfl⟩ := trodAll_nil r0
  obtain rfl : args = #[v0] := by cases args; simp_all
  obtain ⟨rfl, rfl⟩ := trodVars_none hV
  have k0 := h0
  have lt0 : ∀ x ∈ p0, x.block < W.heap.size := by obtain ⟨m, hm⟩ := k0; exact DataW.trod_lt m _ _ _ hm
  obtain ⟨a0, cap0, xs0, f0, hv0, hc0, hm0, hR0, hl0, hf0⟩ := open_map (hval 0 58 v0 rfl rfl) h0
  subst hv0
  clear hA0 hval0
  refine (foldPlaced_walk a0 cap0 xs0 f0 W hc0 hm0 hR0 hl0 hf0).mono fun e W' ⟨he, bel⟩ => ?_
  subst he
  exact ⟨_, rfl, _, _, _, [], _, [], hW', trodAll_mk1 (shut_bool Try.underlying4 _), (trodAll_cons_mk (Below.trod laidOut (by kernel_rfl) (of_decide_eq_true (by kernel_rfl)) k0 bel lt0) trodAll_mk0), rfl, bel.frame _, fun h => by cases h⟩

theorem foldPlaced_over : Rows.foldPlacedRow.holds Try.pinned (OpenSpec.ofChange Rows.foldPlacedSpec) :=
  OpenClaim.holds_of_wide 12 Try.f12 rfl rfl rfl rfl rfl rfl rfl ⟨rfl, rfl, rfl, rfl, rfl⟩ rfl rfl rfl rfl rfl (by kernel_rfl) Try.func12 (by kernel_rfl)
    (of_decide_eq_true (by kernel_rfl)) (by unfold Func.isWrapper; first | (rw [if_pos (by decide +kernel)]; kernel_rfl) | (rw [if_neg (by decide +kernel)]; exact ⟨rfl, rfl⟩))
    (fun os started H enc _ => foldPlaced_lifted os started H enc)

theorem foldPlaced_proved : Rows.FoldPlacedSaid := foldPlaced_over

end Go.Proofs.Ythaplnkmjggcfaa
