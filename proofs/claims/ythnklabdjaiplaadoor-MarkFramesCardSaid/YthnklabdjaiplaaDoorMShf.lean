/- Package mark: the walks of slices.Index, Contains, Clone and Min at []int. -/
import Derived.Test.YthnklabdjaiplaaDoorMRow
import Derived.WalkKit
import Derived.BigQuiet
import Derived.Lib.SliceRun
import Derived.BigRegion
import Derived.RegionTactic
namespace Go.Proofs.YthnklabdjaiplaaDoor
open Go.RowKit

/-- Where a number stands in a list, or -1. -/
def M.pos (l : List Int) (v : Int) : Int := if v ∈ l then (l.findIdx (· == v) : Nat) else -1

theorem M.pos_at {l : List Int} {v : Int} {k : Nat} (h : k < l.length) (h1 : l[k] = v) (h2 : ∀ j (hj : j < k), l[j]'(by omega) ≠ v) : M.pos l v = k := by
  unfold M.pos
  rw [if_pos (by rw [← h1]; exact List.getElem_mem h)]
  have : l.findIdx (· == v) = k := by
    rw [List.findIdx_eq h]
    exact ⟨by simpa using h1, fun j hj => by simpa using h2 j hj⟩
  rw [this]

theorem M.pos_none {l : List Int} {v : Int} (h : ∀ j (hj : j < l.length), l[j] ≠ v) : M.pos l v = -1 := by
  unfold M.pos
  rw [if_neg]
  intro hm
  obtain ⟨j, hj, he⟩ := List.getElem_of_mem hm
  exact h j hj he

theorem M.pos_mem (l : List Int) (v : Int) : (0 ≤ M.pos l v) ↔ v ∈ l := by
  unfold M.pos
  split
  · rename_i h; exact ⟨fun _ => h, fun _ => by omega⟩
  · rename_i h; exact ⟨fun k => by omega, fun k => absurd k h⟩

theorem M.pos_lt (l : List Int) (v : Int) : -1 ≤ M.pos l v ∧ M.pos l v < (l.length : Int) := by
  unfold M.pos
  split
  · rename_i h
    have := List.findIdx_lt_length_of_exists (xs := l) (p := (· == v)) ⟨v, h, by simp⟩
    omega
  · omega

set_option maxHeartbeats 1000000 in
theorem index_any (a : Option Addr) (c : Nat) (l : List Int) (v : Int) (w : World) (hm : l.length ≤ maxLen) (hx : RdI w a l) :
    Calls Tryd.prog 73 #[.slice a l.length c, .int .i64 v] w fun e w' => e = .returned (.int .i64 (M.pos l v)) ∧ w = w' := by
  unfold maxLen at hm
  have HAT := hid (fun k h h1 h2 => M.pos_at (l := l) (v := v) (k := k) h h1 h2)
  have HNO := hid (fun h => M.pos_none (l := l) (v := v) h)
  generalize M.pos l v = r at *
  go_enter Tryd.func73, Tryd.ntmps73
  go_wp2
  go_loop [8] (fun i => ∃ k : Nat, k ≤ l.length ∧ i = .int .i64 k ∧ ∀ j (hj : j < k) (hl : j < l.length), l[j] ≠ v) (fun i => l.length - (intOf i).toNat)
  case atStart => exact ⟨0, Nat.zero_le _, rfl, fun j hj => by omega⟩
  case round =>
    obtain ⟨k, hk, rfl, ho⟩ := hrel
    have HO := hid ho
    clear ho
    by_cases hlt : k < l.length
    · obtain ⟨b, off, rfl, hc⟩ := hx k hlt
      have HXV : Hid (∀ x, l[k] = x → x = v → r = k) := hid (fun x h1 h2 => HAT.out k hlt (h1.trans h2) (fun j hj => HO.out j hj (by omega)))
      have hx1 : ∃ x, l[k] = x := ⟨_, rfl⟩
      obtain ⟨x, hx1⟩ := hx1
      rw [hx1] at hc
      have HX1 := hid hx1
      clear hx1
      by_cases h1 : v = x
      · have HE := hid (HXV.out x HX1.out h1.symm)
        subst h1
        go_wp2
        go_ret
        exact ⟨ret_int HE.out.symm, rfl⟩
      · have t1 : (v == x) = false := by simpa using h1
        go_wp2
        go_round
        case rel => exact ⟨k + 1, by omega, by go_num, fun j hj hl => by
          by_cases e : j = k
          · subst e; rw [HX1.out]; exact fun e => h1 e.symm
          · exact HO.out j (by omega) hl⟩
        case measure => simp [intOf]; omega
    · have HE := hid (HNO.out (fun j hj => HO.out j (by omega) hj))
      have hke : k = l.length := by omega
      subst hke
      go_wp2
      go_ret
      exact ⟨ret_int HE.out.symm, rfl⟩

set_option maxHeartbeats 400000 in
theorem contains_any (a : Option Addr) (c : Nat) (l : List Int) (v : Int) (w : World) (hm : l.length ≤ maxLen) (hx : RdI w a l) :
    Calls Tryd.prog 56 #[.slice a l.length c, .int .i64 v] w fun e w' => e = .returned (.bool (decide (v ∈ l))) ∧ w = w' := by
  have HC := hid (index_any a c l v w hm hx)
  have HM := hid (M.pos_mem l v)
  generalize M.pos l v = r at *
  go_enter Tryd.func56, Tryd.ntmps56
  go_wp2_with fail
  refine HC.out.mono ?_
  rintro e w' ⟨rfl, rfl⟩
  go_wp2
  go_ret
  exact ⟨ret_bool (decide_eq_decide.2 HM.out), rfl⟩

set_option maxHeartbeats 1000000 in
set_option maxRecDepth 100000 in
theorem cloneI_any (a : Option Addr) (c : Nat) (xs : List Int) (w : World) (h0 : 0 < xs.length) (hbig : xs.length * 8 ≤ 140737488355328) (hx : RdI w a xs) :
    Calls Tryd.prog 89 #[.slice a xs.length c] w fun e w' => ∃ a cap, e = .returned (.slice a xs.length cap) ∧ RowI w' w.heap.size (.slice a xs.length cap) xs ∧ Below w.heap.size w w' := by
  obtain ⟨i0, hi, hz0, hz1, hz2⟩ := info_parts (show (Tryd.prog.info? 3).map (fun i => (i.zero, i.size, i.bytes)) = some (some (.int .i64 0), 1, 8) by kernel_rfl)
  have q22 : ∀ (w : World) (a : Option Addr) (n c n' c' : Nat), (binOp .eql 25 (.slice a n c) (.slice none n' c')).run Tryd.prog w = .ok (.bool a.isNone) w := fun w a n c n' c' => Lib.run_eql_slice_nil w _ _ a n c n' c' Tryd.underlying25
  obtain ⟨b, off, rfl, _⟩ := hx 0 h0
  have A := hid hx
  clear hx
  go_enter Tryd.func89, Tryd.ntmps89
  go_wp2_with (at_builtin; refine wpList_append_own _ rfl _ _ 25 rfl w.heap.size 3 i0 (.int .i64 0) 1 8 Tryd.underlying25 hi hz0 hz1 hz2 rfl (by decide) _ _ _ rfl (World.ownsRow_made w #[] 0 (Nat.le_refl _) (Nat.zero_le _) rfl) ⟨b, off, none⟩ xs.length c (xs.map (Value.int .i64)) rfl ?qc1 ?qc2 ?qc3 ?qc4 ?qc5 ?qc6 ?_)
  case qc1 => simp
  case qc2 =>
    intro j u hj
    have hjn : j < xs.length := by
      have := (List.getElem?_eq_some_iff.1 hj).1
      simpa using this
    obtain ⟨b', off', he, hc⟩ := A.out j hjn
    simp only [Option.some.injEq, Addr.mk.injEq, and_true] at he
    obtain ⟨rfl, rfl⟩ := he
    rw [Addr.add_lit]
    refine Lib.cell?_alloc_some _ ?_
    rw [hc]
    simpa [hjn] using hj
  case qc3 => intro u hu; obtain ⟨x, _, rfl⟩ := List.mem_map.1 hu; rfl
  case qc4 => unfold maxLen; omega
  case qc5 => omega
  case qc6 => simp
  intro v' w1 hown hgrow hnil
  have hown2 : w1.ownsRow w.heap.size 3 1 v' xs.length (xs.map (Value.int .i64)) := by simpa using hown
  have hown3 : RowI w1 w.heap.size v' xs := hown2
  obtain ⟨a9, cap, rfl, ho⟩ := hown3.rd
  have HO := hid hown3
  have HB := hid (((Below.refl _ w).alloc (Nat.le_refl _) _).grown hgrow (by simp) (by intro k hk; simp [Value.ownBlock] at hk; omega))
  clear hgrow ho hown hown2 hown3 hnil
  go_wp2
  go_ret
  exact ⟨a9, cap, rfl, HO.out, HB.out⟩


theorem M.min_step {xs : List Int} {k : Nat} {v : Int} (h : k < xs.length) (h1 : v ∈ xs.take k) (h2 : ∀ x ∈ xs.take k, v ≤ x) : min v xs[k] ∈ xs.take (k + 1) ∧ ∀ x ∈ xs.take (k + 1), min v xs[k] ≤ x := by
  rw [List.take_succ_eq_append_getElem h]
  constructor
  · by_cases e : v ≤ xs[k]
    · rw [show min v xs[k] = v by omega]; exact List.mem_append_left _ h1
    · rw [show min v xs[k] = xs[k] by omega]; exact List.mem_append_right _ (List.mem_singleton.2 rfl)
  · intro x hx
    rcases List.mem_append.1 hx with hx | hx
    · have := h2 x hx; omega
    · have := List.mem_singleton.1 hx; subst this; omega
set_option maxHeartbeats 1000000 in
theorem minI_any (a : Option Addr) (c : Nat) (xs : List Int) (w : World) (h0 : 0 < xs.length) (hm : xs.length ≤ maxLen) (hx : RdI w a xs) :
    Calls Tryd.prog 68 #[.slice a xs.length c] w fun e w' => ∃ v, e = .returned (.int .i64 v) ∧ v ∈ xs ∧ (∀ x ∈ xs, v ≤ x) ∧ w' = w := by
  unfold maxLen at hm
  obtain ⟨b, off, rfl, q0⟩ := hx 0 h0
  have HX := hid hx
  have H1 : Hid (xs[0] ∈ xs.take 1 ∧ ∀ x ∈ xs.take 1, xs[0] ≤ x) := hid (by
    cases xs with
    | nil => cases h0
    | cons z l => exact ⟨List.mem_cons_self .., fun x hx => by have := List.mem_singleton.1 hx; subst this; exact Int.le_refl _⟩)
  generalize xs[0] = z0 at *
  clear hx
  simp only [Nat.add_zero] at q0
  go_enter Tryd.func68, Tryd.ntmps68
  go_wp2
  go_loop [3, 4] (fun s i => ∃ (k : Nat) (v : Int), 1 ≤ k ∧ k ≤ xs.length ∧ i = .int .i64 k ∧ s = .int .i64 v ∧ v ∈ xs.take k ∧ ∀ x ∈ xs.take k, v ≤ x) (fun _ i => xs.length - (intOf i).toNat)
  case atStart => exact ⟨1, z0, Nat.le_refl _, h0, rfl, rfl, H1.out.1, H1.out.2⟩
  case round =>
    clear H1 q0
    obtain ⟨k, v, hk1, hk, rfl, rfl, hv1, hv2⟩ := hrel
    have HV1 := hid hv1
    have HV2 := hid hv2
    clear hv1 hv2
    by_cases hlt : k < xs.length
    · obtain ⟨b', off', he, ck⟩ := HX.out k hlt
      simp only [Option.some.injEq, Addr.mk.injEq, and_true] at he
      obtain ⟨rfl, rfl⟩ := he
      have HS := hid (M.min_step hlt HV1.out HV2.out)
      generalize xs[k] = z at *
      go_wp2
      go_round
      case rel => exact ⟨k + 1, min v z, by omega, by omega, by go_num, congrArg (Value.int .i64) (by split <;> omega), HS.out.1, HS.out.2⟩
      case measure => simp [intOf]; omega
    · have hke : k = xs.length := by omega
      subst hke
      have HE : Hid (v ∈ xs ∧ ∀ x ∈ xs, v ≤ x) := hid (by have h1 := HV1.out; have h2 := HV2.out; rw [List.take_length] at h1 h2; exact ⟨h1, h2⟩)
      go_wp2
      go_ret
      exact ⟨v, rfl, HE.out.1, HE.out.2, rfl⟩
end Go.Proofs.YthnklabdjaiplaaDoor
