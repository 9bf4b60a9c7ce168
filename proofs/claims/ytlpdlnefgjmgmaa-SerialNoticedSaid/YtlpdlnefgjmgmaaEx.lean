/- The chapter's examples: each call at the example's arguments. -/
import Derived.Test.YtlpdlnefgjmgmaaLine
import Derived.Test.YtlpdlnefgjmgmaaCode
import Derived.Test.YtlpdlnefgjmgmaaCmp
import Derived.Test.YtlpdlnefgjmgmaaText
namespace Go.Proofs.Ytlpdlnefgjmgmaa
open Go.RowKit

/-- The example's table. -/
def TT : List (List Int) := [[0, 1, 2, 3, 4], [2, 3, 4, 0, 1], [4, 0, 1, 2, 3], [1, 2, 3, 4, 0], [3, 4, 0, 1, 2]]

theorem RdI.lit (w : World) (e : TypeId) (xs : List Int) : RdI (w.alloc (.cells (xs.map (Value.int .i64)).toArray e)) (some ⟨w.heap.size, 0, none⟩) xs := fun k hk => by
  refine ⟨w.heap.size, 0, rfl, ?_⟩
  rw [World.cell?_alloc_at _ _ _ _ rfl]
  simp [hk]

theorem below_alloc (w : World) (o : Obj) : Below w.heap.size w (w.alloc o) := (Below.refl _ _).alloc (Nat.le_refl _) _

theorem RdI.cons {w : World} {a : Option Addr} {xs : List Int} (h : RdI w a xs) : RdI w a xs := h

theorem RdM.nil (w : World) (a : Option Addr) : RdM w a [] := fun _ hk => absurd hk (Nat.not_lt_zero _)

/-- A block of slices reads as rows, where each of them does. -/
theorem RdM.lit {w : World} {a : Option Addr} {b : Nat} {T : List (List Int)} (ha : a = some ⟨b, 0, none⟩) (R : Nat → Option Addr) (C : Nat → Nat)
    (hc : ∀ k (h : k < T.length), w.cell? ⟨b, k, none⟩ = some (.slice (R k) T[k].length (C k))) (hr : ∀ k (h : k < T.length), RdI w (R k) T[k]) : RdM w a T := fun k hk =>
  ⟨b, 0, R k, C k, ha, by rw [Nat.zero_add]; exact hc k hk, hr k hk⟩

set_option maxHeartbeats 1000000 in
theorem list_any (v : Value) (w : World) : Calls Try.prog 31 #[v] w fun e w' => e = .returned v ∧ w = w' := by
  go_enter Try.func31, Try.ntmps31
  go_wp2
  go_ret
  exact ⟨rfl, rfl⟩

/-- The blocks that T makes. -/
theorem T_rd (w w1 w2 w3 w4 w5 : World) (h1 : w1 = w.alloc (.cells #[.int .i64 0, .int .i64 1, .int .i64 2, .int .i64 3, .int .i64 4] 3)) (h2 : w2 = w1.alloc (.cells #[.int .i64 2, .int .i64 3, .int .i64 4, .int .i64 0, .int .i64 1] 3)) (h3 : w3 = w2.alloc (.cells #[.int .i64 4, .int .i64 0, .int .i64 1, .int .i64 2, .int .i64 3] 3)) (h4 : w4 = w3.alloc (.cells #[.int .i64 1, .int .i64 2, .int .i64 3, .int .i64 4, .int .i64 0] 3)) (h5 : w5 = w4.alloc (.cells #[.int .i64 3, .int .i64 4, .int .i64 0, .int .i64 1, .int .i64 2] 3)) :
    RdM (w5.alloc (.cells #[.slice (some ⟨w.heap.size, 0, none⟩) 5 5, .slice (some ⟨w.heap.size + 1, 0, none⟩) 5 5, .slice (some ⟨w.heap.size + 1 + 1, 0, none⟩) 5 5, .slice (some ⟨w.heap.size + 1 + 1 + 1, 0, none⟩) 5 5, .slice (some ⟨w.heap.size + 1 + 1 + 1 + 1, 0, none⟩) 5 5] 35)) (some ⟨w.heap.size + 1 + 1 + 1 + 1 + 1, 0, none⟩) TT := by
  have s1 : w1.heap.size = w.heap.size + 1 := by rw [h1]; simp
  have b1 : Below w.heap.size w w1 := by rw [h1]; exact below_alloc _ _
  have r1 : RdI w1 (some ⟨w.heap.size, 0, none⟩) [0, 1, 2, 3, 4] := by rw [h1]; exact RdI.lit w 3 [0, 1, 2, 3, 4]
  have s2 : w2.heap.size = w1.heap.size + 1 := by rw [h2]; simp
  have b2 : Below w1.heap.size w1 w2 := by rw [h2]; exact below_alloc _ _
  have r2 : RdI w2 (some ⟨w1.heap.size, 0, none⟩) [2, 3, 4, 0, 1] := by rw [h2]; exact RdI.lit w1 3 [2, 3, 4, 0, 1]
  have s3 : w3.heap.size = w2.heap.size + 1 := by rw [h3]; simp
  have b3 : Below w2.heap.size w2 w3 := by rw [h3]; exact below_alloc _ _
  have r3 : RdI w3 (some ⟨w2.heap.size, 0, none⟩) [4, 0, 1, 2, 3] := by rw [h3]; exact RdI.lit w2 3 [4, 0, 1, 2, 3]
  have s4 : w4.heap.size = w3.heap.size + 1 := by rw [h4]; simp
  have b4 : Below w3.heap.size w3 w4 := by rw [h4]; exact below_alloc _ _
  have r4 : RdI w4 (some ⟨w3.heap.size, 0, none⟩) [1, 2, 3, 4, 0] := by rw [h4]; exact RdI.lit w3 3 [1, 2, 3, 4, 0]
  have s5 : w5.heap.size = w4.heap.size + 1 := by rw [h5]; simp
  have b5 : Below w4.heap.size w4 w5 := by rw [h5]; exact below_alloc _ _
  have r5 : RdI w5 (some ⟨w4.heap.size, 0, none⟩) [3, 4, 0, 1, 2] := by rw [h5]; exact RdI.lit w4 3 [3, 4, 0, 1, 2]
  generalize hW : w5.alloc (.cells #[.slice (some ⟨w.heap.size, 0, none⟩) 5 5, .slice (some ⟨w.heap.size + 1, 0, none⟩) 5 5, .slice (some ⟨w.heap.size + 1 + 1, 0, none⟩) 5 5, .slice (some ⟨w.heap.size + 1 + 1 + 1, 0, none⟩) 5 5, .slice (some ⟨w.heap.size + 1 + 1 + 1 + 1, 0, none⟩) 5 5] 35) = W
  have b6 : Below w5.heap.size w5 W := by rw [← hW]; exact below_alloc _ _
  have top : ∀ k, W.cell? ⟨w5.heap.size, k, none⟩ = (#[Value.slice (some ⟨w.heap.size, 0, none⟩) 5 5, .slice (some ⟨w.heap.size + 1, 0, none⟩) 5 5, .slice (some ⟨w.heap.size + 1 + 1, 0, none⟩) 5 5, .slice (some ⟨w.heap.size + 1 + 1 + 1, 0, none⟩) 5 5, .slice (some ⟨w.heap.size + 1 + 1 + 1 + 1, 0, none⟩) 5 5] : Array Value)[k]? := fun k => by
    rw [← hW, World.cell?_alloc_at _ _ _ _ rfl]
  have q1 := ((((r1.stays b2).stays b3).stays b4).stays b5).stays b6
  have q2 := (((r2.stays b3).stays b4).stays b5).stays b6
  have q3 := ((r3.stays b4).stays b5).stays b6
  have q4 := (r4.stays b5).stays b6
  have q5 := r5.stays b6
  simp only [s4, s3, s2, s1] at q2 q3 q4 q5
  rw [s5, s4, s3, s2, s1] at top
  refine RdM.lit (b := w.heap.size + 1 + 1 + 1 + 1 + 1) rfl (fun k => some ⟨w.heap.size + k, 0, none⟩) (fun _ => 5) (fun k hk => ?_) (fun k hk => ?_)
  · rw [top k]
    match k, hk with
    | 0, _ => rfl | 1, _ => rfl | 2, _ => rfl | 3, _ => rfl | 4, _ => rfl
  · match k, hk with
    | 0, _ => exact q1
    | 1, _ => exact q2
    | 2, _ => exact q3
    | 3, _ => exact q4
    | 4, _ => exact q5

set_option maxHeartbeats 1000000 in
theorem T_any (w : World) : Calls Try.prog 30 #[] w fun e w' => ∃ a, e = .returned (.slice a 5 5) ∧ RdM w' a TT ∧ Below w.heap.size w w' := by
  go_enter Try.func30, Try.ntmps30
  go_wp2
  go_ret
  refine ⟨_, rfl, ?_, (((((below_alloc w _).alloc (by simp) _).alloc (by simp; omega) _).alloc (by simp; omega) _).alloc (by simp; omega) _).alloc (by simp; omega) _⟩
  exact T_rd w _ _ _ _ _ rfl rfl rfl rfl rfl

end Go.Proofs.Ytlpdlnefgjmgmaa
