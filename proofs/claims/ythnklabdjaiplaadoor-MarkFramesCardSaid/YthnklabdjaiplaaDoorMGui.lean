/- Package mark: Guilty. -/
import Derived.Test.YthnklabdjaiplaaDoorMLeF
import Derived.Test.YthnklabdjaiplaaDoorMMem
namespace Go.Proofs.YthnklabdjaiplaaDoor
open Go.RowKit

def M.guiV (m : Int) (T : List (List Int)) (l : List Int) (sz : Int) : List Int × Int :=
  if (M.leaV m T l sz).2 = 0 then (if (M.leaV m T l sz).1.length = 0 then ([], 14) else (M.mem (M.leaV m T l sz).1, 0)) else ([], (M.leaV m T l sz).2)

theorem M.lea_rows {m : Int} {T : List (List Int)} {l : List Int} {sz : Int} (hn : T.length ≤ 10) (h : (M.leaV m T l sz).2 = 0) :
    (M.leaV m T l sz).1.length ≤ 1100 ∧ (∀ i, i < (M.leaV m T l sz).1.length → ((M.leaV m T l sz).1.getD i []).length ≤ 10) ∧ ∀ x, x ∈ (M.leaV m T l sz).1.flatten → 0 ≤ x ∧ x < 10 := by
  unfold M.leaV at *
  by_cases h1 : M.chkw m T l = 0
  · rw [if_pos h1] at h ⊢
    by_cases h2 : M.sz sz = 0
    · rw [if_pos h2] at h ⊢
      have hk : sz.toNat ≤ 10 := by
        unfold M.sz at h2
        by_cases h : 1 ≤ sz ∧ sz ≤ 10
        · omega
        · rw [if_neg h] at h2; omega
      dsimp only
      have hmem : ∀ c, c ∈ M.leaL T l sz.toNat → c.length ≤ 10 ∧ M.asc 0 T.length c := fun c hc => by
        have := M.mem_all.1 (M.mem_lxs.1 (List.mem_filter.1 hc).1)
        exact ⟨by omega, this.2.2⟩
      refine ⟨?_, fun i hi => ?_, fun x hx => ?_⟩
      · rw [List.length_map]
        have h3 : (M.leaL T l sz.toNat).length ≤ (M.lxs T.length sz.toNat).length := List.length_filter_le _ _
        have h4 : (M.lxs T.length sz.toNat).length ≤ 1023 := by
          have h : ((List.range 11).all fun a => (List.range 11).all fun b => decide ((M.lxs a b).length ≤ 1023)) = true := by kernel_rfl
          have := List.all_eq_true.1 (List.all_eq_true.1 h T.length (by simp; omega)) sz.toNat (by simp; omega)
          simpa using this
        omega
      · rw [List.length_map] at hi
        have e : ((M.leaL T l sz.toNat).map M.toI).getD i [] = M.toI (M.leaL T l sz.toNat)[i] := by
          rw [List.getD_eq_getElem?_getD, List.getElem?_map, List.getElem?_eq_getElem hi]; rfl
        rw [e, M.toI_len]
        exact (hmem _ (List.getElem_mem hi)).1
      · obtain ⟨r, hr, hxr⟩ := List.mem_flatten.1 hx
        obtain ⟨c, hc, rfl⟩ := List.mem_map.1 hr
        unfold M.toI at hxr
        obtain ⟨y, hy, rfl⟩ := List.mem_map.1 hxr
        have := M.asc_lt (hmem c hc).2 y hy
        omega
    · rw [if_neg h2] at h
      exact absurd h h2
  · rw [if_neg h1] at h
    exact absurd h h1

theorem M.chk_n {m : Int} {T : List (List Int)} {l : List Int} {sz : Int} (h : (M.leaV m T l sz).2 = 0) : T.length ≤ 10 := by
  unfold M.leaV at h
  by_cases h1 : M.chkw m T l = 0
  · unfold M.chkw at h1
    by_cases h2 : M.chk m T = 0
    · exact (M.chk_zero.1 h2).n10
    · rw [if_neg h2] at h1; exact absurd h1 h2
  · rw [if_neg h1] at h; exact absurd h h1

set_option maxHeartbeats 2000000 in
theorem Guilty_any (m : Int) (a : Option Addr) (c : Nat) (T : List (List Int)) (aw : Option Addr) (cw : Nat) (l : List Int) (sz : Int) (w : World) (hm : T.length ≤ maxLen) (hml : ∀ i, i < T.length → (T.getD i []).length ≤ maxLen) (hl : l.length ≤ maxLen) (hT : RdM w a T) (hw : RdI w aw l) :
    Calls Tryd.prog 29 #[M.cv m a T.length c, .slice aw l.length cw, .int .i64 sz] w (M.LE (M.guiV m T l sz).1 (M.guiV m T l sz).2 w) := by
  obtain ⟨W, hW, c0, c1, hB, hlt⟩ := M.cvNew w m a T.length c
  have HB := hid hB
  have HLE := hid ((callsIn_wide (n := 6)).1 (Lean_in 6 (Nat.le_refl _) m a c T aw cw l sz W hm hml hl (hT.stays hB) (hw.stays hB)))
  have HRW := hid (fun h => M.lea_rows (m := m) (T := T) (l := l) (sz := sz) (M.chk_n h) h)
  have HV : Hid (M.guiV m T l sz = if (M.leaV m T l sz).2 = 0 then (if (M.leaV m T l sz).1.length = 0 then ([], 14) else (M.mem (M.leaV m T l sz).1, 0)) else ([], (M.leaV m T l sz).2)) := hid rfl
  obtain ⟨R, hR⟩ : ∃ R, M.leaV m T l sz = R := ⟨_, rfl⟩
  rw [hR] at HLE HRW HV
  obtain ⟨L, err⟩ := R
  clear hB hT hw hR
  unfold M.cv at *
  dsimp only at HLE HRW HV
  by_cases h0 : err = 0
  · subst h0
    by_cases h1 : L.length = 0
    · have HV2 : Hid (M.guiV m T l sz = ([], 14)) := hid (by rw [HV.out, if_pos rfl, if_pos h1])
      have h1' : ((L.length : Int) == 0) = true := beq_iff_eq.2 (by omega)
      rw [HV2.out]
      clear h1
      go_enter Tryd.func29, Tryd.ntmps29
      go_wp2_with fail
      rw [hW] at *
      go_wp2_with (refine HLE.out.mono ?_; rintro e w8 ⟨a8, c8, rfl, hr8, hb8⟩; have HB8 := hid (HB.out.trans (hb8.mono HB.out.size)); clear hr8 hb8)
      go_ret2
      exact ⟨none, 0, rfl, RdI.nil _ _, HB8.out⟩
    · have HV2 : Hid (M.guiV m T l sz = (M.mem L, 0)) := hid (by rw [HV.out, if_pos rfl, if_neg h1])
      have h1' : ((L.length : Int) == 0) = false := beq_eq_false_iff_ne.2 (by omega)
      have HMM := hid (fun a c w (h : RdM w a L) => membersOfAll_any a c L w (by omega) (HRW.out rfl).1 (HRW.out rfl).2.1 (HRW.out rfl).2.2 h)
      rw [HV2.out]
      go_enter Tryd.func29, Tryd.ntmps29
      go_wp2_with fail
      rw [hW] at *
      go_wp2_with (refine HLE.out.mono ?_; rintro e w8 ⟨a8, c8, rfl, hr8, hb8⟩; have HB8 := hid (HB.out.trans (hb8.mono HB.out.size)); have HR8 := hid hr8; clear hr8 hb8)
      refine (HMM.out a8 c8 w8 HR8.out).mono ?_
      rintro e w9 ⟨v, rfl, ho, hb9⟩
      obtain ⟨a9, c9, rfl, hrd⟩ := ho.rd
      have HR9 := hid hrd
      have HB9 := hid (HB8.out.trans (hb9.mono HB8.out.size))
      clear ho hrd hb9
      generalize M.mem L = Z at *
      go_wp2
      go_ret2
      exact ⟨a9, c9, rfl, HR9.out, HB9.out⟩
  · have HV2 : Hid (M.guiV m T l sz = ([], err)) := hid (by rw [HV.out, if_neg h0])
    have h0' : (err == 0) = false := beq_eq_false_iff_ne.2 h0
    rw [HV2.out]
    clear h0
    go_enter Tryd.func29, Tryd.ntmps29
    go_wp2_with fail
    rw [hW] at *
    go_wp2_with (refine HLE.out.mono ?_; rintro e w8 ⟨a8, c8, rfl, hr8, hb8⟩; have HB8 := hid (HB.out.trans (hb8.mono HB.out.size)); clear hr8 hb8)
    go_ret2
    exact ⟨none, 0, rfl, RdI.nil _ _, HB8.out⟩
end Go.Proofs.YthnklabdjaiplaaDoor
