/- The walks of the functions that check a table. -/
import Derived.Test.YtlpdlnefgjmgmaaProg
import Derived.Test.YtlpdlnefgjmgmaaBase
import Derived.Test.YtlpdlnefgjmgmaaPure
import Derived.Test.YtlpdlnefgjmgmaaRep
import Derived.BigQuiet
import Derived.Deep.QuietTactic
namespace Go.Proofs.Ytlpdlnefgjmgmaa
open Go.RowKit

set_option maxHeartbeats 400000 in
theorem outside_any (a : Option Addr) (c : Nat) (xs : List Int) (base : Int) (w : World) (hm : xs.length ≤ maxLen) (hx : RdI w a xs) :
    Calls Try.prog 45 #[.slice a xs.length c, .int .i64 base] w fun e w' => e = .returned (.bool (P.outside xs base)) ∧ w = w' := by
  unfold maxLen at hm
  go_enter Try.func45, Try.ntmps45
  go_wp2
  go_loop [9] (fun i => ∃ k : Nat, k ≤ xs.length ∧ i = .int .i64 k ∧ P.outside (xs.take k) base = false) (fun i => xs.length - (intOf i).toNat)
  case atStart => exact ⟨0, Nat.zero_le _, rfl, rfl⟩
  case round =>
    obtain ⟨k, hk, rfl, ho⟩ := hrel
    have HO := hid ho; clear ho
    by_cases hlt : k < xs.length
    · obtain ⟨b, off, rfl, hc⟩ := hx k hlt
      have hs := P.outside_take_succ xs base k hlt
      have ha := P.outside_of_at xs base k hlt
      generalize xs[k] = x at *
      have HS := hid hs; clear hs
      have HA := hid ha; clear ha
      by_cases h1 : x < 0
      · go_wp2
        go_ret
        exact ⟨ret_bool (HA.out (Or.inl h1)).symm, rfl⟩
      · by_cases h2 : base ≤ x
        · go_wp2
          go_ret
          exact ⟨ret_bool (HA.out (Or.inr h2)).symm, rfl⟩
        · go_wp2
          go_round
          case rel => exact ⟨k + 1, by omega, by go_num, by rw [HS.out, HO.out]; simp; omega⟩
          case measure => simp [intOf]; omega
    · have hk' : k = xs.length := by omega
      subst hk'
      rw [List.take_length] at HO
      have HE := HO; clear HO
      go_wp2
      go_ret
      exact ⟨ret_bool HE.out.symm, rfl⟩

theorem outside_n (a : Option Addr) (c n : Nat) (xs : List Int) (base : Int) (w : World) (hn : xs.length = n) (hm : n ≤ maxLen) (hx : RdI w a xs) :
    Calls Try.prog 45 #[.slice a n c, .int .i64 base] w fun e w' => e = .returned (.bool (P.outside xs base)) ∧ w = w' := by
  subst hn
  exact outside_any a c xs base w hm hx

/-- Check's answer. -/
def P.check (T : List (List Int)) : Int :=
  if T.length < 2 ∨ 10 < T.length then 3
  else if (T.any fun r => r.length != T.length) = true then 3
  else if (T.any fun r => P.outside r T.length) = true then 4
  else if P.repeats T = true then 6 else 0

theorem P.check_size {T : List (List Int)} (h : T.length < 2 ∨ 10 < T.length) : P.check T = 3 := by
  unfold P.check; rw [if_pos h]

theorem P.check_len {T : List (List Int)} (k : Nat) (hk : k < T.length) (h : T[k].length ≠ T.length) : P.check T = 3 := by
  unfold P.check
  split
  · rfl
  · rw [if_pos]
    rw [List.any_eq_true]
    exact ⟨T[k], List.getElem_mem hk, by simpa using h⟩

theorem P.any_false {α : Type} {p : α → Bool} {T : List α} (h : ∀ k (hk : k < T.length), p T[k] = false) : T.any p = false := by
  rw [List.any_eq_false]
  intro x hx
  obtain ⟨k, hk, rfl⟩ := List.getElem_of_mem hx
  rw [h k hk]; simp

theorem P.check_out {T : List (List Int)} (h2 : ¬ (T.length < 2 ∨ 10 < T.length)) (hl : ∀ k (hk : k < T.length), T[k].length = T.length) (k : Nat) (hk : k < T.length) (h : P.outside T[k] T.length = true) : P.check T = 4 := by
  unfold P.check
  rw [if_neg h2, if_neg (by rw [P.any_false (fun k hk => by simpa using hl k hk)]; simp), if_pos]
  rw [List.any_eq_true]
  exact ⟨T[k], List.getElem_mem hk, h⟩

theorem P.check_last {T : List (List Int)} (h2 : ¬ (T.length < 2 ∨ 10 < T.length)) (hl : ∀ k (hk : k < T.length), T[k].length = T.length) (ho : ∀ k (hk : k < T.length), P.outside T[k] T.length = false) :
    P.check T = if P.repeats T = true then 6 else 0 := by
  unfold P.check
  rw [if_neg h2, if_neg (by rw [P.any_false (fun k hk => by simpa using hl k hk)]; simp), if_neg (by rw [P.any_false ho]; simp)]

theorem P.outside_false {l : List Int} {n : Int} (h : P.outside l n = false) : ∀ k (hk : k < l.length), 0 ≤ l[k] ∧ l[k] < n := fun k hk => by
  unfold P.outside at h
  rw [List.any_eq_false] at h
  have := h l[k] (List.getElem_mem hk)
  simp at this
  omega

theorem P.sq_of {T : List (List Int)} (hl : ∀ k (hk : k < T.length), T[k].length = T.length) (ho : ∀ k (hk : k < T.length), P.outside T[k] T.length = false) : Sq T :=
  ⟨hl, fun i hi => P.outside_false (ho i hi)⟩

set_option maxHeartbeats 1000000 in
theorem check_any (a : Option Addr) (c : Nat) (T : List (List Int)) (w : World) (hT : RdM w a T) :
    Calls Try.prog 41 #[.slice a T.length c] w fun e w' => e = .returned (.int .i64 (P.check T)) ∧ Below w.heap.size w w' := by
  by_cases h1 : T.length < 2
  · have hr := P.check_size (Or.inl h1 : T.length < 2 ∨ 10 < T.length)
    have HR := hid hr; clear hr hT
    go_enter Try.func41, Try.ntmps41
    go_wp2
    go_ret
    exact ⟨ret_int HR.out.symm, Below.refl _ _⟩
  by_cases h2 : 10 < T.length
  · have hr := P.check_size (Or.inr h2 : T.length < 2 ∨ 10 < T.length)
    have HR := hid hr; clear hr hT
    go_enter Try.func41, Try.ntmps41
    go_wp2
    go_ret
    exact ⟨ret_int HR.out.symm, Below.refl _ _⟩
  have hno : ¬ (T.length < 2 ∨ 10 < T.length) := by omega
  have HNO := hid hno; clear hno
  have HT := hid hT; clear hT
  go_enter Try.func41, Try.ntmps41
  go_wp2
  go_loop [18] (fun i => ∃ k : Nat, k ≤ T.length ∧ i = .int .i64 k ∧ ∀ j (hj : j < T.length), j < k → T[j].length = T.length) (fun i => T.length - (intOf i).toNat)
  case atStart => exact ⟨0, Nat.zero_le _, rfl, fun j _ hj => absurd hj (Nat.not_lt_zero _)⟩
  case round =>
    obtain ⟨k, hk, rfl, hl⟩ := hrel
    have HL := hid hl; clear hl
    by_cases hlt : k < T.length
    · obtain ⟨b, off, r, c', rfl, hc, _⟩ := HT.out k hlt
      have hcl := P.check_len k hlt
      have hln := HL.out
      by_cases he : T[k].length = T.length
      · rw [he] at hc
        have HE := hid he; clear he hcl hln
        have ht : ((T.length : Int) != (T.length : Int)) = false := by simp
        go_wp2
        go_round
        case rel => exact ⟨k + 1, by omega, by go_num, fun j hj hjk => by
          by_cases e : j = k
          · subst e; exact HE.out
          · exact HL.out j hj (by omega)⟩
        case measure => simp [intOf]; omega
      · have HC := hid (hcl he)
        clear hcl hln
        generalize T[k].length = L at *
        have ht : ((L : Int) != (T.length : Int)) = true := by simp; omega
        clear he
        go_wp2
        go_ret
        exact ⟨ret_int HC.out.symm, Below.refl _ _⟩
    · have HL2 : Hid (∀ j (hj : j < T.length), T[j].length = T.length) := hid (fun j hj => HL.out j hj (by omega))
      clear HL
      go_wp2
      go_loop [29] (fun i => ∃ k : Nat, k ≤ T.length ∧ i = .int .i64 k ∧ ∀ j (hj : j < T.length), j < k → P.outside T[j] T.length = false) (fun i => T.length - (intOf i).toNat)
      case atStart => exact ⟨0, Nat.zero_le _, rfl, fun j _ hj => absurd hj (Nat.not_lt_zero _)⟩
      case round =>
        obtain ⟨k, hk, rfl, ho⟩ := hrel
        have HO := hid ho; clear ho
        by_cases hlt : k < T.length
        · obtain ⟨b, off, r, c', rfl, hc, hr⟩ := HT.out k hlt
          rw [HL2.out k hlt] at hc
          have hcall := outside_n r c' T.length T[k] (T.length : Int) w (HL2.out k hlt) (by unfold maxLen; omega) hr
          have hco := P.check_out HNO.out HL2.out k hlt
          cases hB : P.outside T[k] T.length
          · rw [hB] at hcall
            have HBf := hid hB
            have HC := hid hcall
            clear hB hcall hco hr
            go_wp2_with (go_at_call 45; refine HC.out.mono ?_; rintro e w' ⟨rfl, rfl⟩)
            go_round
            case rel => exact ⟨k + 1, by omega, by go_num, fun j hj hjk => by
              by_cases e : j = k
              · subst e; exact HBf.out
              · exact HO.out j hj (by omega)⟩
            case measure => simp [intOf]; omega
          · rw [hB] at hcall
            have HCO := hid (hco hB)
            have HC := hid hcall
            clear hB hcall hco hr
            go_wp2_with (go_at_call 45; refine HC.out.mono ?_; rintro e w' ⟨rfl, rfl⟩)
            go_ret
            exact ⟨ret_int HCO.out.symm, Below.refl _ _⟩
        · have HO2 : Hid (∀ j (hj : j < T.length), P.outside T[j] T.length = false) := hid (fun j hj => HO.out j hj (by omega))
          have HSQ := hid (P.sq_of HL2.out HO2.out)
          have hcall := repeats_any a c T w (by omega) HT.out HSQ.out
          have hlast := P.check_last HNO.out HL2.out HO2.out
          clear HO
          cases hB : P.repeats T
          · rw [hB] at hcall hlast
            have HC := hid hcall
            have HLA := hid hlast
            clear hB hcall hlast
            go_wp2_with (go_at_call 51; refine HC.out.mono ?_; rintro e w' ⟨rfl, hb⟩)
            go_ret
            exact ⟨ret_int (by rw [HLA.out]; rfl), hb⟩
          · rw [hB] at hcall hlast
            have HC := hid hcall
            have HLA := hid hlast
            clear hB hcall hlast
            go_wp2_with (go_at_call 51; refine HC.out.mono ?_; rintro e w' ⟨rfl, hb⟩)
            go_ret
            exact ⟨ret_int (by rw [HLA.out]; rfl), hb⟩

/-- A table. -/
structure Tab (T : List (List Int)) : Prop where
  lo : 2 ≤ T.length
  hi : T.length ≤ 10
  sq : Sq T
  no : P.repeats T = false

theorem tab_of_check {T : List (List Int)} (h : P.check T = 0) : Tab T := by
  unfold P.check at h
  split at h
  · omega
  rename_i h1
  split at h
  · omega
  rename_i h2
  split at h
  · omega
  rename_i h3
  split at h
  · omega
  rename_i h4
  rw [Bool.not_eq_true, List.any_eq_false] at h2 h3
  have hl : ∀ k (hk : k < T.length), T[k].length = T.length := fun k hk => by simpa using h2 T[k] (List.getElem_mem hk)
  exact ⟨by omega, by omega, P.sq_of hl (fun k hk => by simpa using h3 T[k] (List.getElem_mem hk)), by simpa using h4⟩

end Go.Proofs.Ytlpdlnefgjmgmaa
