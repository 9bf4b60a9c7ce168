/- The walk of the function that finds a number twice in a row or in a column. -/
import Derived.Test.YtlpdlnefgjmgmaaProg
import Derived.Test.YtlpdlnefgjmgmaaBase
import Derived.Test.YtlpdlnefgjmgmaaPure
import Derived.BigQuiet
import Derived.Deep.QuietTactic
namespace Go.Proofs.Ytlpdlnefgjmgmaa
open Go.RowKit

/-- A number before index k of row i is the one at k, or the same in column i. -/
def P.bad (T : List (List Int)) (i k : Nat) : Bool := (List.range k).any fun j => P.at T i j == P.at T i k || P.at T j i == P.at T k i
def P.repeats (T : List (List Int)) : Bool := (List.range T.length).any fun i => (List.range T.length).any fun k => P.bad T i k

/-- The number x is in row i before index k. -/
def P.inRow (T : List (List Int)) (i k x : Nat) : Bool := (List.range k).any fun j => P.at T i j == x
def P.inCol (T : List (List Int)) (i k x : Nat) : Bool := (List.range k).any fun j => P.at T j i == x

theorem P.bad_eq (T : List (List Int)) (i k : Nat) : P.bad T i k = (P.inRow T i k (P.at T i k) || P.inCol T i k (P.at T k i)) := by
  unfold P.bad P.inRow P.inCol
  rw [Bool.eq_iff_iff]
  simp only [List.any_eq_true, Bool.or_eq_true]
  constructor
  · rintro ⟨j, hj, h | h⟩
    · exact Or.inl ⟨j, hj, h⟩
    · exact Or.inr ⟨j, hj, h⟩
  · rintro (⟨j, hj, h⟩ | ⟨j, hj, h⟩)
    · exact ⟨j, hj, Or.inl h⟩
    · exact ⟨j, hj, Or.inr h⟩

theorem P.inRow_succ (T : List (List Int)) (i k x : Nat) : P.inRow T i (k + 1) x = if x = P.at T i k then true else P.inRow T i k x := by
  unfold P.inRow
  rw [List.range_succ, List.any_append]
  by_cases h : x = P.at T i k
  · simp [h]
  · have : (P.at T i k == x) = false := by simp; omega
    simp [h, this]

theorem P.inCol_succ (T : List (List Int)) (i k x : Nat) : P.inCol T i (k + 1) x = if x = P.at T k i then true else P.inCol T i k x := by
  unfold P.inCol
  rw [List.range_succ, List.any_append]
  by_cases h : x = P.at T k i
  · simp [h]
  · have : (P.at T k i == x) = false := by simp; omega
    simp [h, this]

/-- The first i rows and columns have no number twice. -/
def P.good (T : List (List Int)) (i k : Nat) : Prop := ∀ j, j < k → P.bad T i j = false

theorem P.repeats_true {T : List (List Int)} {i k : Nat} (hi : i < T.length) (hk : k < T.length) (h : P.bad T i k = true) : P.repeats T = true := by
  unfold P.repeats
  rw [List.any_eq_true]
  refine ⟨i, List.mem_range.2 hi, ?_⟩
  rw [List.any_eq_true]
  exact ⟨k, List.mem_range.2 hk, h⟩

theorem P.repeats_false {T : List (List Int)} (h : ∀ i, i < T.length → P.good T i T.length) : P.repeats T = false := by
  unfold P.repeats
  rw [List.any_eq_false]
  intro i hi
  rw [Bool.not_eq_true, List.any_eq_false]
  intro k hk
  rw [Bool.not_eq_true]
  exact h i (List.mem_range.1 hi) k (List.mem_range.1 hk)

theorem P.good_succ {T : List (List Int)} {i k : Nat} (h : P.good T i k) (hb : P.bad T i k = false) : P.good T i (k + 1) := fun j hj => by
  by_cases e : j = k
  · subst e; exact hb
  · exact h j (by omega)

theorem rowIs_drewN {w : World} {b : Nat} {t : TypeId} {n : Nat} {f : Nat → Value} (h : w.rowIs b t n f) (q : Nat) : (w.drewN q).rowIs b t n f := h.of_block rfl

theorem tenFalse (w : World) : (w.alloc (.cells #[.bool false, .bool false, .bool false, .bool false, .bool false, .bool false, .bool false, .bool false, .bool false, .bool false] 85)).rowIs w.heap.size 85 10 (fun _ => .bool false) :=
  World.rowIs_alloc w #[.bool false, .bool false, .bool false, .bool false, .bool false, .bool false, .bool false, .bool false, .bool false, .bool false] 85 (fun _ => .bool false) (fun i hi => by
    match i, hi with
    | 0, _ => rfl | 1, _ => rfl | 2, _ => rfl | 3, _ => rfl | 4, _ => rfl | 5, _ => rfl | 6, _ => rfl | 7, _ => rfl | 8, _ => rfl | 9, _ => rfl)

set_option maxHeartbeats 1000000 in
set_option maxRecDepth 100000 in
theorem repeats_any (a : Option Addr) (c : Nat) (T : List (List Int)) (w : World) (h10 : T.length ≤ 10) (hT : RdM w a T) (hq : Sq T) :
    Calls Try.prog 51 #[.slice a T.length c] w fun e w' => e = .returned (.bool (P.repeats T)) ∧ Below w.heap.size w w' := by
  have HT := hid hT; clear hT
  have HQ := hid hq; clear hq
  go_enter Try.func51, Try.ntmps51
  go_wp2
  go_step3
  go_wp2
  go_step3
  go_wp2
  go_loopg [3, 12] T.length (fun g ag i wr => ∃ k : Nat, k ≤ T.length ∧ g = T.length - k ∧ i = .int .i64 k ∧ ag = .bool false ∧ Below w.heap.size w wr ∧ ∀ j, j < k → P.good T j T.length)
  case atStart => exact ⟨0, Nat.zero_le _, rfl, rfl, rfl, Below.refl _ _, fun j hj => absurd hj (Nat.not_lt_zero _)⟩
  case round =>
    obtain ⟨i, hi, rfl, rfl, rfl, hbel, hgood⟩ := hrel
    have HB := hid hbel
    have HG := hid hgood
    clear hbel hgood
    by_cases hlt : i < T.length
    · go_wp2
      obtain ⟨wo, rfl⟩ : ∃ wo : World, wo = wr := ⟨_, rfl⟩
      go_loopg [3, 17] T.length (fun g2 ag x wi => ∃ k : Nat, k ≤ T.length ∧ g2 = T.length - k ∧ x = .int .i64 k ∧ ag = .bool false ∧ Below w.heap.size w wi ∧ P.good T i k ∧ wi.rowIs wo.heap.size 85 10 (fun j => .bool (P.inRow T i k j)) ∧ wi.rowIs (wo.heap.size + 1) 85 10 (fun j => .bool (P.inCol T i k j)))
      case atStart =>
        refine ⟨0, Nat.zero_le _, rfl, rfl, rfl, ((HB.out.alloc HB.out.size _).alloc (by have := HB.out.size; simp; omega) _), fun j hj => absurd hj (Nat.not_lt_zero _), ((tenFalse wo).alloc _).congr (fun _ _ => rfl), ?_⟩
        have h2 := tenFalse (wo.alloc (.cells #[.bool false, .bool false, .bool false, .bool false, .bool false, .bool false, .bool false, .bool false, .bool false, .bool false] 85))
        rw [show (wo.alloc (.cells #[.bool false, .bool false, .bool false, .bool false, .bool false, .bool false, .bool false, .bool false, .bool false, .bool false] 85)).heap.size = wo.heap.size + 1 from by simp] at h2
        exact h2.congr (fun _ _ => rfl)
      case round =>
        obtain ⟨k, hk, rfl, rfl, rfl, hb2, hg2, hR, hC⟩ := hrel
        have hS := HB.out.size
        by_cases hkl : k < T.length
        · obtain ⟨b, off, b1, off1, c1, rfl, hr1, hc1⟩ := (HT.out.stays hb2).row HQ.out hlt
          obtain ⟨b', off', b2, off2, c2, he, hr2, hc2⟩ := (HT.out.stays hb2).row HQ.out hkl
          simp only [Option.some.injEq, Addr.mk.injEq, and_true] at he
          obtain ⟨rfl, rfl⟩ := he
          have hx1 := hc1 k hkl
          have hy1 := hc2 i hlt
          clear hc1 hc2
          have hxl := HQ.out.at_lt hlt hkl
          have hyl := HQ.out.at_lt hkl hlt
          have hbe := P.bad_eq T i k
          have hrt := @P.repeats_true T i k hlt hkl
          have hsr := P.inRow_succ T i k
          have hsc := P.inCol_succ T i k
          have hRx := hR.cell (i := P.at T i k) (by omega)
          have hCy := hC.cell (i := P.at T k i) (by omega)
          have hRf := hR.frozen (P.at T i k)
          have hCf := hC.frozen (P.at T k i)
          generalize P.at T i k = x at *
          generalize P.at T k i = y at *
          have HB2 := hid hb2; clear hb2
          have HG2 := hid hg2; clear hg2
          have HR := hid hR; clear hR
          have HC := hid hC; clear hC
          have HE := hid hbe; clear hbe
          have HRT := hid hrt; clear hrt
          have HSR := hid hsr; clear hsr
          have HSC := hid hsc; clear hsc
          have e1 := HE.out
          by_cases h1 : P.inRow T i k x = true
          · rw [h1] at hRx
            have HF : Hid (P.repeats T = true) := hid (HRT.out (by rw [e1, h1]; rfl))
            clear h1 e1
            go_wp2
            go_quiet (fail)
            go_wp2
            try rw [Exit.noGoto_ret]
            go_ret
            exact ⟨ret_bool HF.out.symm, below_drewN HB2.out _⟩
          · by_cases h2 : P.inCol T i k y = true
            · rw [Bool.not_eq_true] at h1
              rw [h1] at hRx
              rw [h2] at hCy
              have HF : Hid (P.repeats T = true) := hid (HRT.out (by rw [e1, h2]; simp))
              clear h1 h2 e1
              go_wp2
              go_quiet (fail)
              go_wp2
              try rw [Exit.noGoto_ret]
              go_ret
              exact ⟨ret_bool HF.out.symm, below_drewN HB2.out _⟩
            · rw [Bool.not_eq_true] at h1 h2
              rw [h1] at hRx
              rw [h2] at hCy
              have HF : Hid (P.bad T i k = false) := hid (by rw [e1, h1, h2]; rfl)
              clear h1 h2 e1
              go_wp2
              go_quiet (fail)
              go_wp2
              go_roundg (T.length - (k + 1))
              case measure => omega
              case rel =>
                refine ⟨k + 1, by omega, rfl, by go_num, rfl, ?_, P.good_succ HG2.out HF.out, ?_, ?_⟩
                · exact ((below_drewN HB2.out _).setCell hS _).setCell (by show w.heap.size ≤ wo.heap.size + 1; omega) _
                · exact (((rowIs_drewN HR.out nq).set x (.bool true)).setOther (by show wo.heap.size ≠ wo.heap.size + 1; omega) _).congr (fun j _ => by rw [HSR.out]; split <;> rfl)
                · exact (((rowIs_drewN HC.out nq).setOther (by show wo.heap.size + 1 ≠ wo.heap.size; omega) _).set y (.bool true)).congr (fun j _ => by rw [HSC.out]; split <;> rfl)
        · have hk' : k = T.length := by omega
          subst hk'
          go_wp2
          go_roundg (T.length - (i + 1))
          case measure => omega
          case rel => exact ⟨i + 1, by omega, rfl, by go_num, rfl, hb2, fun j hj => by
            by_cases e : j = i
            · subst e; exact hg2
            · exact HG.out j (by omega)⟩
    · have hk' : i = T.length := by omega
      subst hk'
      have HE : Hid (P.repeats T = false) := hid (P.repeats_false HG.out)
      go_wp2
      try rw [Exit.noGoto_ret]
      go_ret
      exact ⟨ret_bool HE.out.symm, HB.out⟩

end Go.Proofs.Ytlpdlnefgjmgmaa
