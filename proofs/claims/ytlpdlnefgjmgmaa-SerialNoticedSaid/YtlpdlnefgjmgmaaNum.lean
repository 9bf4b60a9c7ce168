/- The walks of Number and Code. -/
import Derived.Test.YtlpdlnefgjmgmaaFixb
namespace Go.Proofs.Ytlpdlnefgjmgmaa
open Go.RowKit

/-- The number that digits are in a base. -/
def P.numOf (b : Nat) (l : List Int) : Nat := l.foldl (fun n d => n * b + d.toNat) 0

theorem P.numOf_take (b : Nat) (l : List Int) (k : Nat) (h : k < l.length) : P.numOf b (l.take (k + 1)) = P.numOf b (l.take k) * b + l[k].toNat := by
  unfold P.numOf
  rw [List.take_succ_eq_append_getElem h, List.foldl_append]
  rfl

theorem P.numOf_lt (b : Nat) (l : List Int) (hd : Dg b l) : ∀ k, k ≤ l.length → P.numOf b (l.take k) < b ^ k := by
  intro k
  induction k with
  | zero => intro _; simp [P.numOf]
  | succ k ih =>
    intro hk
    rw [P.numOf_take b l k (by omega)]
    have h1 := ih (by omega)
    have h2 := hd k (by omega)
    have h3 : (P.numOf b (l.take k) + 1) * b ≤ b ^ k * b := Nat.mul_le_mul_right b h1
    rw [Nat.add_mul, Nat.one_mul] at h3
    rw [Nat.pow_succ]
    omega

theorem pow_bound {b k : Nat} (hb : b ≤ 10) (hk : k ≤ 12) : b ^ k ≤ 1000000000000 :=
  Nat.le_trans (Nat.pow_le_pow_left hb k) (Nat.le_trans (Nat.pow_le_pow_right (by omega) hk) (by decide))

set_option maxHeartbeats 400000 in
theorem number1_any (B b n d : Nat) (w : World) (hbox : w.cell? ⟨B, 0, none⟩ = some (.int .i64 b)) (hn : n * b ≤ 10000000000000) (hd : d ≤ 10) :
    Calls Try.prog 44 #[.int .i64 n, .int .i64 d, .pointer (some ⟨B, 0, none⟩)] w fun e w' => e = .returned (.int .i64 ((n * b + d : Nat) : Int)) ∧ w = w' := by
  have h1 : (n : Int) * (b : Int) ≤ 10000000000000 := by rw [← Int.natCast_mul]; omega
  have h2 : (0 : Int) ≤ (n : Int) * (b : Int) := Int.mul_nonneg (by omega) (by omega)
  go_enter Try.func44, Try.ntmps44
  go_wp2
  go_ret
  exact ⟨ret_int (by simp), rfl⟩

set_option maxHeartbeats 400000 in
theorem sum64_any (B b : Nat) (ad : Option Addr) (cd n : Nat) (xs : List Int) (w : World) (hn : xs.length = n) (hm : n ≤ 11) (hb : b ≤ 10) (hbox : w.cell? ⟨B, 0, none⟩ = some (.int .i64 b))
    (hx : RdI w ad xs) (hd : Dg b xs) :
    Calls Try.prog 43 #[.slice ad n cd, .func (.func 44) #[] #[.pointer (some ⟨B, 0, none⟩)]] w fun e w' => e = .returned (.int .i64 (P.numOf b xs : Nat)) ∧ w = w' := by
  subst hn
  have hlt : ∀ k, k ≤ xs.length → P.numOf b (xs.take k) * b ≤ 10000000000000 := fun k hk => by
    have h1 := P.numOf_lt b xs hd k hk
    have h2 := pow_bound hb (show k ≤ 12 by omega)
    have h3 : P.numOf b (xs.take k) * b ≤ 1000000000000 * 10 := Nat.mul_le_mul (by omega) hb
    omega
  have HLT := hid hlt; clear hlt
  have HX := hid hx; clear hx
  go_enter Try.func43, Try.ntmps43
  go_wp2
  go_loop [5, 10] (fun t i => ∃ k : Nat, k ≤ xs.length ∧ i = .int .i64 k ∧ t = .int .i64 (P.numOf b (xs.take k) : Nat)) (fun _ i => xs.length - (intOf i).toNat)
  case atStart => exact ⟨0, Nat.zero_le _, rfl, rfl⟩
  case round =>
    obtain ⟨k, hk, rfl, rfl⟩ := hrel
    by_cases hlt : k < xs.length
    · obtain ⟨b', off, rfl, hc⟩ := HX.out k hlt
      have hs := P.numOf_take b xs k hlt
      have hbd := HLT.out k hk
      have hdk := hd k hlt
      generalize P.numOf b (xs.take k) = s at *
      generalize xs[k] = x at *
      obtain ⟨d, rfl⟩ := Int.eq_ofNat_of_zero_le hdk.1
      have hd' : d < b := by omega
      rw [Int.toNat_natCast] at hs
      have HS := hid hs; clear hs
      clear hdk hd
      have c1 := number1_any B b s d w hbox hbd (by omega)
      have H1 := hid c1; clear c1
      go_wp2_with (go_at_call 44; refine H1.out.mono ?_; rintro e w' ⟨rfl, rfl⟩)
      go_round
      case rel => exact ⟨k + 1, by omega, by go_num, by rw [HS.out, Int.natCast_add, Int.natCast_mul]⟩
      case measure => simp [intOf]; omega
    · have hk' : k = xs.length := by omega
      subst hk'
      rw [List.take_length]
      go_wp2
      go_ret
      exact ⟨rfl, rfl⟩

def P.number (T : List (List Int)) (l : List Int) : Int × Int := if P.right T l ≠ 0 then (0, P.right T l) else ((P.numOf T.length (l.take (l.length - 1)) : Nat), 0)

theorem right_ok {T : List (List Int)} {l : List Int} (h : P.right T l = 0) : Tab T ∧ 2 ≤ l.length ∧ l.length ≤ 12 ∧ Dg T.length l ∧ P.after T l = 0 := by
  unfold P.right at h
  split at h
  · rename_i h0; exact absurd h h0
  · rename_i h0
    obtain ⟨a, b, c, d⟩ := digits_ok (by simpa using h0)
    split at h
    · omega
    · rename_i h1
      exact ⟨a, by omega, c, d, by omega⟩

set_option maxHeartbeats 1000000 in
theorem number_any (a ac : Option Addr) (c cc : Nat) (T : List (List Int)) (l : List Int) (w : World) (hm : l.length ≤ maxLen) (hcap : l.length ≤ cc) (hT : RdM w a T) (hx : RdI w ac l) :
    Calls Try.prog 20 #[.slice a T.length c, .slice ac l.length cc] w
      fun e w' => e = .returned (.tuple #[.int .i64 (P.number T l).1, .int .i64 (P.number T l).2]) ∧ Below w.heap.size w w' := by
  have hcall := right_any a ac c cc T l w hm hT hx
  have hmf : ∀ (fn : Fn) (first cap : Array Value) (w : World), (Instr.makeFunc fn first cap).run Try.prog w = .ok (.func fn first cap) w := fun _ _ _ _ => rfl
  unfold P.number
  by_cases h0 : P.right T l = 0
  · obtain ⟨ht, hl2, hl12, hd, _⟩ := right_ok h0
    have hlo := ht.lo
    have hhi := ht.hi
    rw [h0] at hcall
    rw [if_neg (by simp [h0])]
    obtain ⟨b, off, rfl, _⟩ := hx 0 (by omega)
    have hrt : ∀ w', Below w.heap.size w w' → RdI w' (some ⟨b, off, none⟩) (l.take (l.length - 1)) := fun w' hb k hk => by
      have hk1 : k < l.length - 1 := by simpa using hk
      obtain ⟨b', off', he, hc⟩ := hx.stays hb k (by omega)
      exact ⟨b', off', he, by rw [List.getElem_take]; exact hc⟩
    have hcall2 : ∀ w', Below w.heap.size w w' → ∀ B, w'.cell? ⟨B, 0, none⟩ = some (.int .i64 (T.length : Nat)) → Calls Try.prog 43 #[.slice (some ⟨b, off, none⟩) (l.length - 1) cc, .func (.func 44) #[] #[.pointer (some ⟨B, 0, none⟩)]] w' fun e w'' => e = .returned (.int .i64 (P.numOf T.length (l.take (l.length - 1)) : Nat)) ∧ w' = w'' :=
      fun w' hb B hB => sum64_any B T.length _ cc _ _ w' (by simp) (by omega) hhi hB (hrt w' hb) (hd.take _)
    generalize P.numOf T.length (l.take (l.length - 1)) = num at *
    have HC := hid hcall; clear hcall
    have HC2 := hid hcall2; clear hcall2
    unfold maxLen at hm
    clear hrt ht hd hT hx h0
    go_enter Try.func20, Try.ntmps20
    go_wp2_with fail
    refine HC.out.mono ?_
    rintro e w1 ⟨rfl, hb⟩
    have hB1 : (w1.alloc (.cells #[.int .i64 (T.length : Nat)] 2)).cell? ⟨w1.heap.size, 0, none⟩ = some (.int .i64 (T.length : Nat)) := by
      rw [World.cell?_alloc_at _ _ _ _ rfl]; rfl
    have HC3 := hid (HC2.out _ (hb.alloc hb.size _) _ hB1)
    have HB := hid (hb.alloc hb.size (.cells #[.int .i64 (T.length : Nat)] 2)); clear hb hB1
    go_wp2_with (go_at_call 43; refine HC3.out.mono ?_; rintro e w2 ⟨rfl, rfl⟩)
    go_ret2
    exact ⟨rfl, HB.out⟩
  · rw [if_pos h0]
    generalize P.right T l = e0 at *
    have ht : (e0 != 0) = true := by simpa using h0
    have HC := hid hcall; clear hcall h0 hT hx hm
    go_enter Try.func20, Try.ntmps20
    go_wp2_with (go_at_call 13; refine HC.out.mono ?_; rintro e w' ⟨rfl, hb⟩)
    go_ret2
    exact ⟨rfl, hb⟩

end Go.Proofs.Ytlpdlnefgjmgmaa
