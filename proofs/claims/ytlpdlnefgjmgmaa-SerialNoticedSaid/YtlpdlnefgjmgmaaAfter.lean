/- The walks of the functions that compute a state. -/
import Derived.Test.YtlpdlnefgjmgmaaProg
import Derived.Test.YtlpdlnefgjmgmaaBase
import Derived.Test.YtlpdlnefgjmgmaaPure
import Derived.BigQuiet
import Derived.Deep.QuietTactic
namespace Go.Proofs.Ytlpdlnefgjmgmaa
open Go.RowKit

set_option maxHeartbeats 400000 in
theorem after1_any (B : Nat) (a : Option Addr) (c : Nat) (T : List (List Int)) (s d : Nat) (w : World) (hbox : w.cell? ⟨B, 0, none⟩ = some (.slice a T.length c)) (hT : RdM w a T) (hq : Sq T) (hs : s < T.length) (hd : d < T.length) :
    Calls Try.prog 47 #[.int .i64 s, .int .i64 d, .pointer (some ⟨B, 0, none⟩)] w fun e w' => e = .returned (.int .i64 (P.at T s d : Nat)) ∧ w = w' := by
  obtain ⟨b, off, b', off', c', rfl, hrow, hcell⟩ := hT.row hq hs
  have hc := hcell d hd
  clear hcell hT hq
  go_enter Try.func47, Try.ntmps47
  go_wp2
  go_ret
  exact ⟨rfl, rfl⟩

set_option maxHeartbeats 400000 in
theorem sum_any (B : Nat) (a ad : Option Addr) (c cd : Nat) (T : List (List Int)) (xs : List Int) (w : World) (hm : xs.length ≤ maxLen) (hbox : w.cell? ⟨B, 0, none⟩ = some (.slice a T.length c)) (hT : RdM w a T) (hq : Sq T) (h0 : 0 < T.length)
    (hx : RdI w ad xs) (hd : Dg T.length xs) :
    Calls Try.prog 46 #[.slice ad xs.length cd, .func (.func 47) #[] #[.pointer (some ⟨B, 0, none⟩)]] w fun e w' => e = .returned (.int .i64 (P.after T xs : Nat)) ∧ w = w' := by
  unfold maxLen at hm
  go_enter Try.func46, Try.ntmps46
  go_wp2
  go_loop [5, 10] (fun t i => ∃ k : Nat, k ≤ xs.length ∧ i = .int .i64 k ∧ t = .int .i64 (P.after T (xs.take k) : Nat)) (fun _ i => xs.length - (intOf i).toNat)
  case atStart => exact ⟨0, Nat.zero_le _, rfl, rfl⟩
  case round =>
    obtain ⟨k, hk, rfl, rfl⟩ := hrel
    by_cases hlt : k < xs.length
    · obtain ⟨b, off, rfl, hc⟩ := hx k hlt
      have hs := P.after_take T xs k hlt
      have hb := hq.after_lt h0 _ (hd.take k)
      have hdk := hd k hlt
      generalize P.after T (xs.take k) = s at *
      generalize xs[k] = x at *
      obtain ⟨d, rfl⟩ := Int.eq_ofNat_of_zero_le hdk.1
      have hd' : d < T.length := by omega
      rw [Int.toNat_natCast] at hs
      have HS := hid hs; clear hs
      have HT := hid hT; clear hT hdk
      go_wp2_with (go_at_call 47; refine (after1_any B a c T s d _ hbox HT.out hq hb hd').mono ?_; rintro e w' ⟨rfl, rfl⟩)
      go_round
      case rel => exact ⟨k + 1, by omega, by go_num, by rw [HS.out]⟩
      case measure => simp [intOf]; omega
    · have hk' : k = xs.length := by omega
      subst hk'
      rw [List.take_length]
      go_wp2
      go_ret
      exact ⟨rfl, rfl⟩

set_option maxHeartbeats 400000 in
theorem after_any (a ad : Option Addr) (c cd : Nat) (T : List (List Int)) (xs : List Int) (w : World) (hm : xs.length ≤ maxLen) (hT : RdM w a T) (hq : Sq T) (h0 : 0 < T.length)
    (hx : RdI w ad xs) (hd : Dg T.length xs) :
    Calls Try.prog 28 #[.slice a T.length c, .slice ad xs.length cd] w fun e w' => e = .returned (.int .i64 (P.after T xs : Nat)) ∧ Below w.heap.size w w' := by
  have hb1 : Below w.heap.size w (w.alloc (.cells #[.slice a T.length c] 25)) := (Below.refl _ _).alloc (Nat.le_refl _) _
  have hT1 := hT.stays hb1
  have hx1 := hx.stays hb1
  have hbox : (w.alloc (.cells #[.slice a T.length c] 25)).cell? ⟨w.heap.size, 0, none⟩ = some (.slice a T.length c) := by
    rw [World.cell?_alloc_at _ _ _ _ rfl]; rfl
  have hmf : ∀ (fn : Fn) (first cap : Array Value) (w : World), (Instr.makeFunc fn first cap).run Try.prog w = .ok (.func fn first cap) w := fun _ _ _ _ => rfl
  have HT := hid hT1
  have HX := hid hx1
  have HB := hid hb1
  clear hT1 hx1 hb1 hT hx
  go_enter Try.func28, Try.ntmps28
  go_wp2_with (go_at_call 46; refine (sum_any _ a ad c cd T xs _ hm hbox HT.out hq h0 HX.out hd).mono ?_; rintro e w' ⟨rfl, rfl⟩)
  go_ret
  exact ⟨rfl, HB.out⟩

/-- Where 0 is in a row. -/
def P.zeroAt (T : List (List Int)) (s : Nat) : Nat → Nat → Int
  | 0, _ => -1
  | m + 1, k => if P.at T s k = 0 then (k : Int) else P.zeroAt T s m (k + 1)

set_option maxHeartbeats 400000 in
theorem index_any (b off c : Nat) (T : List (List Int)) (s : Nat) (w : World) (hn : T.length ≤ 10) (hc : ∀ k, k < T.length → w.cell? ⟨b, off + k, none⟩ = some (.int .i64 (P.at T s k))) :
    Calls Try.prog 52 #[.slice (some ⟨b, off, none⟩) T.length c, .int .i64 0] w fun e w' => e = .returned (.int .i64 (P.zeroAt T s T.length 0)) ∧ w = w' := by
  have HC0 := hid hc; clear hc
  go_enter Try.func52, Try.ntmps52
  go_wp2
  go_loop [8] (fun i => ∃ k : Nat, k ≤ T.length ∧ i = .int .i64 k ∧ P.zeroAt T s (T.length - k) k = P.zeroAt T s T.length 0) (fun i => T.length - (intOf i).toNat)
  case atStart => exact ⟨0, Nat.zero_le _, rfl, rfl⟩
  case round =>
    obtain ⟨k, hk, rfl, hz⟩ := hrel
    have HZ := hid hz; clear hz
    by_cases hlt : k < T.length
    · have hck := HC0.out k hlt
      have hz1 : P.zeroAt T s (T.length - k) k = if P.at T s k = 0 then (k : Int) else P.zeroAt T s (T.length - (k + 1)) (k + 1) := by
        rw [show T.length - k = T.length - (k + 1) + 1 from by omega]; rfl
      have HZ1 := hid hz1; clear hz1
      generalize P.at T s k = x at hck HZ1
      by_cases hx : x = 0
      · have ht : ((0 : Int) == (x : Int)) = true := by simp; omega
        have HX := hid hx; clear hx
        go_wp2
        go_ret
        exact ⟨ret_int (by rw [← HZ.out, HZ1.out, if_pos HX.out]), rfl⟩
      · have ht : ((0 : Int) == (x : Int)) = false := by simp; omega
        go_wp2
        go_round
        case rel => exact ⟨k + 1, by omega, by go_num, by rw [← HZ.out, HZ1.out, if_neg hx]⟩
        case measure => simp [intOf]; omega
    · have hk' : k = T.length := by omega
      subst hk'
      have HE : Hid (P.zeroAt T s T.length 0 = -1) := hid (by rw [← HZ.out, Nat.sub_self]; rfl)
      go_wp2
      go_ret
      exact ⟨ret_int HE.out.symm, rfl⟩

theorem P.zeroAt_eq (T : List (List Int)) (s : Nat) : ∀ (m k j : Nat), k ≤ j → j < k + m → P.at T s j = 0 → (∀ i, k ≤ i → i < j → P.at T s i ≠ 0) → P.zeroAt T s m k = j := by
  intro m
  induction m with
  | zero => intro k j h1 h2; omega
  | succ m ih =>
    intro k j h1 h2 h3 h4
    unfold P.zeroAt
    by_cases hk : k = j
    · subst hk; rw [if_pos h3]
    · rw [if_neg (h4 k (Nat.le_refl _) (by omega))]
      exact ih (k + 1) j (by omega) (by omega) h3 (fun i hi hi' => h4 i (by omega) hi')

set_option maxHeartbeats 400000 in
theorem checkDigit_any (a ad : Option Addr) (c cd : Nat) (T : List (List Int)) (xs : List Int) (w : World) (hm : xs.length ≤ maxLen) (hT : RdM w a T) (hq : Sq T) (h0 : 0 < T.length) (hn : T.length ≤ 10)
    (hx : RdI w ad xs) (hd : Dg T.length xs) :
    Calls Try.prog 42 #[.slice a T.length c, .slice ad xs.length cd] w fun e w' => e = .returned (.int .i64 (P.zeroAt T (P.after T xs) T.length 0)) ∧ Below w.heap.size w w' := by
  obtain ⟨b, off, rfl⟩ := hT.base h0
  have hs := hq.after_lt h0 xs hd
  have ca := after_any (some ⟨b, off, none⟩) ad c cd T xs w hm hT hq h0 hx hd
  have hrow := fun w' (hb : Below w.heap.size w w') => (hT.stays hb).row hq hs
  generalize P.after T xs = s at *
  clear hx hd hT
  have HR := hid hrow; clear hrow
  have HA := hid ca; clear ca
  go_enter Try.func42, Try.ntmps42
  go_wp2_with fail
  refine HA.out.mono ?_
  rintro e w' ⟨rfl, hb⟩
  obtain ⟨b2, off2, b', off', c', he, hrow, hcell⟩ := HR.out w' hb
  simp only [Option.some.injEq, Addr.mk.injEq, and_true] at he
  obtain ⟨rfl, rfl⟩ := he
  have HB := hid hb; clear hb
  have HC := hid hcell; clear hcell
  go_wp2_with (go_at_call 52; refine (index_any b' off' c' T s _ hn HC.out).mono ?_; rintro e w' ⟨rfl, rfl⟩)
  go_ret
  exact ⟨rfl, HB.out⟩

end Go.Proofs.Ytlpdlnefgjmgmaa
