/- Package fold: the walks of can and Can. -/
import Derived.Test.YthaplnkmjggcfaaFOwn
namespace Go.Proofs.Ythaplnkmjggcfaa
open Go.RowKit

/-- The segments below m that can be folded in. -/
def F.cans (l : List Int) (s : List UInt8) (m : Nat) : List Int := ((List.range m).filter (F.can l s)).map fun i : Nat => (i : Int)

theorem F.cans_succ (l : List Int) (s : List UInt8) (m : Nat) : F.cans l s (m + 1) = F.cans l s m ++ if F.can l s m = true then [(m : Int)] else [] := by
  unfold F.cans
  rw [List.range_succ, List.filter_append, List.map_append]
  congr 1
  by_cases h : F.can l s m = true <;> simp [h]

theorem F.cans_le (l : List Int) (s : List UInt8) (m : Nat) : (F.cans l s m).length ≤ m := by
  unfold F.cans
  rw [List.length_map]
  have := List.length_filter_le (F.can l s) (List.range m)
  simpa using this

set_option maxHeartbeats 2000000 in
set_option maxRecDepth 100000 in
theorem can_any (a : Option Addr) (c : Nat) (l : List Int) (s : ByteArray) (w : World) (h1 : 1 ≤ l.length) (h7 : l.length ≤ 7) (hs : s.size + 1 = l.length) (hx : RdI w a l) :
    Calls Try.prog 65 #[F.strip a l.length c s] w
      fun e w' => ∃ r cr xs, e = .returned (.slice r xs.length cr) ∧ xs = F.cans l s.data.toList l.length ∧ xs.length ≤ cr ∧ RdI w' r xs ∧ Below w.heap.size w w' := by
  have hb0 : Below w.heap.size w (w.alloc (.cells #[.slice a l.length c, .string s] 24)) := (Below.refl _ _).alloc (Nat.le_refl _) _
  have k0 : (w.alloc (.cells #[.slice a l.length c, .string s] 24)).cell? ⟨w.heap.size, 0, none⟩ = some (.slice a l.length c) := by rw [World.cell?_alloc_at _ _ _ _ rfl]; rfl
  have k1 : (w.alloc (.cells #[.slice a l.length c, .string s] 24)).cell? ⟨w.heap.size, 1, none⟩ = some (.string s) := by rw [World.cell?_alloc_at _ _ _ _ rfl]; rfl
  have HB0 := hid hb0
  have HF := hid (fun w' (hb : Below w.heap.size w w') i (hi : i < l.length) => foldsIn_any a c l s i w' h1 h7 hs (hx.stays hb) hi)
  have HK0 := hid k0
  have HK1 := hid k1
  clear hb0 hx hs
  obtain ⟨i0, hi, hz0, hz1, hz2⟩ := info_parts (show (Try.prog.info? 3).map (fun i => (i.zero, i.size, i.bytes)) = some (some (.int .i64 0), 1, 8) by kernel_rfl)
  unfold F.strip at HF ⊢
  go_enter Try.func65, Try.ntmps65
  go_wp2_with fail
  clear k0 k1
  generalize w.alloc (.cells #[.slice a l.length c, .string s] 24) = w1 at *
  go_loopw [3, 8] (fun v i wr => ∃ k : Nat, k ≤ l.length ∧ i = .int .i64 k ∧ wr.ownsRow w1.heap.size 3 1 v (F.cans l s.data.toList k).length ((F.cans l s.data.toList k).map (Value.int .i64)) ∧ Below w1.heap.size w1 wr) (fun _ i _ => l.length - (intOf i).toNat)
  case atStart => exact ⟨0, Nat.zero_le _, rfl, World.ownsRow_nil _ _ _ _, Below.refl _ _⟩
  case round =>
    obtain ⟨k, hk, rfl, hown, hb⟩ := hrel
    have HO := hid hown
    have HB2 := hid hb
    have k0 := cell_stays hb (Nat.le_refl _) HK0.out
    have k1 := cell_stays hb (Nat.le_refl _) HK1.out
    clear hown hb
    by_cases hlt : k < l.length
    · have HC := hid (HF.out wr (HB0.out.trans (HB2.out.mono HB0.out.size)) k hlt)
      have hsu := F.cans_succ l s.data.toList k
      have hle := F.cans_le l s.data.toList k
      by_cases hc : F.can l s.data.toList k = true
      · rw [hc] at HC
        rw [if_pos hc] at hsu
        have HS := hid hsu
        clear hsu hc
        go_wp2_with fail
        refine HC.out.mono ?_
        rintro e w2 ⟨rfl, hb2⟩
        have HO2 := hid (ownsRow_stays HO.out hb2)
        have HB3 := hid (HB2.out.trans (hb2.mono HB2.out.size))
        clear hb2 HC HO HB2 k0 k1
        go_wp2_with (at_builtin; refine wpList_append_own _ rfl _ _ 22 rfl w1.heap.size 3 i0 (.int .i64 0) 1 8 Try.underlying22 hi hz0 hz1 hz2 rfl (by decide) _ _ _ rfl (HO2.out.alloc _) ⟨w2.heap.size, 0, none⟩ 1 1 [.int .i64 (k : Int)] rfl rfl ?c1 ?c2 ?c3 ?c4 ?c5 ?_)
        case c1 =>
          intro j u hj
          match j, hj with
          | 0, hj => simp at hj; subst hj; simp [Addr.add]
        case c2 => intro u hu; simp at hu; subst hu; rfl
        case c3 => unfold maxLen; omega
        case c4 => omega
        case c5 => have := HB3.out.size; simp; omega
        intro v' w3 hown' hgrow _
        have HB4 := hid ((HB3.out.alloc HB3.out.size _).grown hgrow (by have := HB3.out.size; simp; omega) (fun q hq => (World.ownsRow.lt HO2.out q hq).1))
        have HO3 := hid hown'
        clear hown' hgrow
        go_wp2
        go_roundw
        case rel => exact ⟨k + 1, by omega, by go_num, by rw [HS.out]; simpa using HO3.out, HB4.out⟩
        case measure => simp [intOf]; omega
      · rw [show F.can l s.data.toList k = false from by simpa using hc] at HC
        rw [if_neg hc, List.append_nil] at hsu
        have HS := hid hsu
        clear hsu hc
        go_wp2_with fail
        refine HC.out.mono ?_
        rintro e w2 ⟨rfl, hb2⟩
        have HO2 := hid (ownsRow_stays HO.out hb2)
        have HB3 := hid (HB2.out.trans (hb2.mono HB2.out.size))
        clear hb2 HC HO HB2 k0 k1
        go_wp2
        go_roundw
        case rel => exact ⟨k + 1, by omega, by go_num, by rw [HS.out]; exact HO2.out, HB3.out⟩
        case measure => simp [intOf]; omega
    · have hke : k = l.length := by omega
      subst hke
      have hle := F.cans_le l s.data.toList l.length
      have hcap := HO.out
      obtain ⟨r, cr, rfl, hr⟩ := RdI.of_row HO.out
      have HR := hid hr
      have HCAP : Hid ((F.cans l s.data.toList l.length).length ≤ cr) := hid (by
        rcases hcap.2 with ⟨h1, h0⟩ | ⟨g', cap', cur, h1, _, _, h2, _⟩
        · omega
        · simp only [Value.slice.injEq] at h1
          obtain ⟨_, _, rfl⟩ := h1
          exact h2)
      have HBZ := hid (HB0.out.trans (HB2.out.mono HB0.out.size))
      clear hr HO hcap k0 k1 HB2
      go_wp2
      go_ret
      exact ⟨r, cr, _, rfl, rfl, HCAP.out, HR.out, HBZ.out⟩

/-- What a good strip is. -/
theorem F.check_good {l : List Int} {s : List UInt8} (h : F.check l s = 0) : F.lens l = 0 ∧ s.length + 1 = l.length ∧ 1 ≤ l.length ∧ l.length ≤ 7 ∧ s.all F.fold = true := by
  unfold F.check at h
  split at h
  · rename_i h0; exact absurd h h0
  rename_i h0
  have h0 : F.lens l = 0 := by simpa using h0
  obtain ⟨a, b, _, _⟩ := F.lens_good h0
  split at h
  · omega
  rename_i h1
  split at h
  · rename_i h2; exact ⟨h0, by omega, a, b, h2⟩
  · omega

set_option maxHeartbeats 1000000 in
set_option maxRecDepth 100000 in
theorem foldCan_any (a : Option Addr) (c : Nat) (l : List Int) (s : ByteArray) (w : World) (hm : l.length ≤ maxLen) (hsm : s.size ≤ maxLen) (hx : RdI w a l) :
    Calls Try.prog 30 #[F.strip a l.length c s] w
      fun e w' => ∃ r cr xs, e = .returned (.tuple #[.slice r xs.length cr, .int .i64 (F.check l s.data.toList)]) ∧ xs = (if F.check l s.data.toList ≠ 0 then [] else F.cans l s.data.toList l.length) ∧ xs.length ≤ cr ∧ RdI w' r xs ∧ Below w.heap.size w w' := by
  have hb0 : Below w.heap.size w (w.alloc (.cells #[.slice a l.length c, .string s] 24)) := (Below.refl _ _).alloc (Nat.le_refl _) _
  have k0 : (w.alloc (.cells #[.slice a l.length c, .string s] 24)).cell? ⟨w.heap.size, 0, none⟩ = some (.slice a l.length c) := by rw [World.cell?_alloc_at _ _ _ _ rfl]; rfl
  have k1 : (w.alloc (.cells #[.slice a l.length c, .string s] 24)).cell? ⟨w.heap.size, 1, none⟩ = some (.string s) := by rw [World.cell?_alloc_at _ _ _ _ rfl]; rfl
  have HB0 := hid hb0
  have HK0 := hid k0
  have HK1 := hid k1
  have HX := hid (hx.stays hb0)
  have HC := hid (foldCheck_any a c l s _ hm hsm (hx.stays hb0))
  clear hb0 hx
  by_cases h0 : F.check l s.data.toList = 0
  · obtain ⟨_, g2, g3, g4, _⟩ := F.check_good h0
    have HD := hid (fun w' hx' => can_any a c l s w' g3 g4 (by simpa using g2) hx')
    rw [h0] at HC ⊢
    rw [if_neg (show ¬ (0 : Int) ≠ 0 by decide)]
    unfold F.strip at HC HD ⊢
    go_enter Try.func30, Try.ntmps30
    go_wp2_with fail
    clear k0 k1
    generalize w.alloc (.cells #[.slice a l.length c, .string s] 24) = w1 at *
    refine HC.out.mono ?_
    rintro e w2 ⟨rfl, hb⟩
    have k0 := cell_stays hb (Nat.le_refl _) HK0.out
    have k1 := cell_stays hb (Nat.le_refl _) HK1.out
    have HX2 := hid (HX.out.stays hb)
    have HB2 := hid (HB0.out.trans (hb.mono HB0.out.size))
    clear hb HC
    go_wp2_with fail
    refine (HD.out w2 HX2.out).mono ?_
    rintro e w3 ⟨r, cr, xs, rfl, hxs, hcr, hr, hb⟩
    have HXS := hid hxs
    have HR := hid hr
    have HB3 := hid (HB2.out.trans (hb.mono HB2.out.size))
    clear hxs hr hb k0 k1
    go_wp2
    go_ret2
    exact ⟨r, cr, xs, rfl, HXS.out, hcr, HR.out, HB3.out⟩
  · have h0b : (F.check l s.data.toList == 0) = false := by simpa using h0
    generalize F.check l s.data.toList = q at *
    rw [if_pos (show q ≠ 0 from h0)]
    clear h0
    unfold F.strip at HC ⊢
    go_enter Try.func30, Try.ntmps30
    go_wp2_with fail
    clear k0 k1
    refine HC.out.mono ?_
    rintro e w2 ⟨rfl, hb⟩
    have HB2 := hid (HB0.out.trans (hb.mono HB0.out.size))
    clear hb HC
    go_wp2
    go_ret2
    exact ⟨none, 0, [], rfl, rfl, Nat.le_refl _, RdI.nil _ _, HB2.out⟩

end Go.Proofs.Ythaplnkmjggcfaa
