/- Package tuschelaw03: the walks of numbers and large. -/
import Derived.Test.YtapndndbibgjoaaIREver
namespace Go.Proofs.Ytapndndbibgjoaa
open Go.RowKit

set_option maxHeartbeats 1000000 in
theorem numbers_eq (a b : Option Addr) (ca cb : Nat) (xs : List Int) (w : World) (hm : xs.length ≤ maxLen) (ha : RdI w a xs) (hb : RdI w b xs) :
    Calls Try.prog 23 #[.slice a xs.length ca, .slice b xs.length cb] w fun e w' => e = .returned (.bool true) ∧ ∃ n, w' = w.drewN n := by
  unfold maxLen at hm
  have HA := hid ha
  have HB := hid hb
  clear ha hb
  have hne : ((xs.length : Int) != (xs.length : Int)) = false := by simp
  go_enter Try.func23, Try.ntmps23
  go_wp2
  go_loopw [5] (fun i wr => ∃ k : Nat, k ≤ xs.length ∧ i = .int .i64 k ∧ ∃ n, wr = w.drewN n) (fun i _ => xs.length - (intOf i).toNat)
  case atStart => exact ⟨0, Nat.zero_le _, rfl, 0, rfl⟩
  case round =>
    obtain ⟨k, hk, rfl, q, rfl⟩ := hrel
    by_cases hlt : k < xs.length
    · obtain ⟨b1, o1, rfl, c1⟩ := HA.out k hlt
      obtain ⟨b2, o2, rfl, c2⟩ := HB.out k hlt
      generalize xs[k] = x at *
      have hx : (x != x) = false := by simp
      have h1 : (0 : Int) ≤ (k : Int) ∧ (k : Int) < (xs.length : Int) := by omega
      go_wp2
      go_quiet (fail)
      go_wp2
      go_roundw
      case rel => exact ⟨k + 1, by omega, by go_num, _, rfl⟩
      case measure => simp [intOf]; omega
    · go_wp2
      go_ret
      exact ⟨rfl, q, rfl⟩

theorem numbers_eqn (a b : Option Addr) (n m ca cb : Nat) (xs ys : List Int) (w : World) (h : xs = ys) (hn : n = xs.length) (hn2 : m = xs.length) (hm : xs.length ≤ maxLen) (ha : RdI w a xs) (hb : RdI w b ys) :
    Calls Try.prog 23 #[.slice a n ca, .slice b m cb] w fun e w' => e = .returned (.bool true) ∧ ∃ n, w' = w.drewN n := by
  subst h hn hn2
  exact numbers_eq a b ca cb xs w hm ha hb


/-- A bool is returned. -/
def K.IsBool (e : Ending) : Prop := ∃ v, e = .returned (.bool v)

set_option maxHeartbeats 1000000 in
set_option maxRecDepth 100000 in
theorem large_any (n : Int) (a : Option Addr) (c : Nat) (T : List (List Int)) (w : World) (hm : T.length ≤ maxLen) (hT : RdM w a T) :
    Calls Try.prog 15 #[K.pal n a T.length c] w fun e w' => K.IsBool e ∧ Below w.heap.size w w' := by
  have hb0 : Below w.heap.size w (w.alloc (.cells #[.int .i64 n, .slice a T.length c] 24)) := (Below.refl _ _).alloc (Nat.le_refl _) _
  have k1 : (w.alloc (.cells #[.int .i64 n, .slice a T.length c] 24)).cell? ⟨w.heap.size, 1, none⟩ = some (.slice a T.length c) := by rw [World.cell?_alloc_at _ _ _ _ rfl]; rfl
  have HB0 := hid hb0
  have HT := hid (hT.stays hb0)
  clear hb0 hT
  unfold maxLen at hm
  unfold K.pal
  by_cases h20 : 20 < T.length
  · go_enter Try.func15, Try.ntmps15
    go_wp2
    go_ret
    exact ⟨⟨true, rfl⟩, HB0.out⟩
  · go_enter Try.func15, Try.ntmps15
    go_wp2
    generalize w.alloc (.cells #[.int .i64 n, .slice a T.length c] 24) = w1 at *
    go_loop [3] (fun i => ∃ k : Nat, k ≤ T.length ∧ i = .int .i64 k) (fun i => T.length - (intOf i).toNat)
    case atStart => exact ⟨0, Nat.zero_le _, rfl⟩
    case round =>
      obtain ⟨k, hk, rfl⟩ := hrel
      by_cases hlt : k < T.length
      · obtain ⟨b, off, r, cr, rfl, hc, -⟩ := HT.out k hlt
        have hix : (0 : Int) ≤ (k : Int) ∧ (k : Int) < (T.length : Int) := by omega
        generalize T[k].length = L at *
        by_cases hL : 20 < L
        · go_wp2
          go_ret
          exact ⟨⟨true, rfl⟩, HB0.out⟩
        · go_wp2
          go_round
          case rel => exact ⟨k + 1, by omega, by go_num⟩
          case measure => simp [intOf]; omega
      · have hke : k = T.length := by omega
        subst hke
        go_wp2
        go_ret
        exact ⟨⟨false, rfl⟩, HB0.out⟩
end Go.Proofs.Ytapndndbibgjoaa
