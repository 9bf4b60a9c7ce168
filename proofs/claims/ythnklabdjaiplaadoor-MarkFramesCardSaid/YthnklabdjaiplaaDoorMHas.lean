/- Package mark: and, has. -/
import Derived.Test.YthnklabdjaiplaaDoorMWith
namespace Go.Proofs.YthnklabdjaiplaaDoor
open Go.RowKit

theorem M.hasN : ∀ a, a < 16 → ∀ k, k < 4 → (((a / 2 ^ k &&& 1 : Nat) : Int) == ((1 : Nat) : Int)) = Nat.testBit a k := by decide
theorem M.hasB {a k : Nat} (ha : a < 16) (hk : k < 4) : (bits .and .i64 ((a : Int) / 2 ^ k) 1 == 1) = a.testBit k := by
  have e : ((a : Int) / 2 ^ k) = ((a / 2 ^ k : Nat) : Int) := by rw [Int.natCast_ediv, Int.natCast_pow]; rfl
  rw [e]
  have h1 : a / 2 ^ k < 16 := Nat.lt_of_le_of_lt (Nat.div_le_self _ _) ha
  have := M.band (a / 2 ^ k) 1 h1 (by omega)
  rw [show ((1 : Nat) : Int) = 1 from rfl] at this
  rw [this]
  exact M.hasN a ha k hk

set_option maxHeartbeats 1000000 in
theorem has_any (s : Nat → Nat) (p : Nat) (x : Int) (w : World) (hp : p < 8) (hx : 0 ≤ x ∧ x < 4) (hs : ∀ j, s j < 16) :
    Calls Tryd.prog 81 #[M.av s, .int .i64 (p : Nat), .int .i64 x] w fun e w' => e = .returned (.bool ((s p).testBit x.toNat)) ∧ Below w.heap.size w w' := by
  have hrow := M.row8 w s
  have HB0 := hid ((Below.refl w.heap.size w).alloc (Nat.le_refl _) (.cells #[.int .i64 (s 0 : Nat), .int .i64 (s 1 : Nat), .int .i64 (s 2 : Nat), .int .i64 (s 3 : Nat), .int .i64 (s 4 : Nat), .int .i64 (s 5 : Nat), .int .i64 (s 6 : Nat), .int .i64 (s 7 : Nat)] 79))
  have t1 : (w.alloc (.cells #[.int .i64 (s 0 : Nat), .int .i64 (s 1 : Nat), .int .i64 (s 2 : Nat), .int .i64 (s 3 : Nat), .int .i64 (s 4 : Nat), .int .i64 (s 5 : Nat), .int .i64 (s 6 : Nat), .int .i64 (s 7 : Nat)] 79)).cell? ⟨w.heap.size, p, none⟩ = some (.int .i64 ((s p : Nat) : Int)) := hrow.cell hp
  obtain ⟨k, hk⟩ : ∃ k : Nat, x = (k : Int) := ⟨x.toNat, by omega⟩
  subst hk
  have hk4 : k < 4 := by omega
  have hsp := hs p
  have HN := hid (M.hasB hsp hk4)
  unfold M.av
  generalize hW : w.alloc (.cells #[.int .i64 (s 0 : Nat), .int .i64 (s 1 : Nat), .int .i64 (s 2 : Nat), .int .i64 (s 3 : Nat), .int .i64 (s 4 : Nat), .int .i64 (s 5 : Nat), .int .i64 (s 6 : Nat), .int .i64 (s 7 : Nat)] 79) = W at *
  generalize s p = sp at *
  clear hrow hs
  go_enter Tryd.func81, Tryd.ntmps81
  go_wp2_with fail
  go_ret
  refine ⟨?_, HB0.out⟩
  rw [Int.toNat_natCast, ← HN.out]
  rfl

theorem M.ix8 (t : Nat → Nat) {k : Nat} (hk : k < 8) (w : World) : (Instr.index 79 (.agg #[.int .i64 (t 0 : Nat), .int .i64 (t 1 : Nat), .int .i64 (t 2 : Nat), .int .i64 (t 3 : Nat), .int .i64 (t 4 : Nat), .int .i64 (t 5 : Nat), .int .i64 (t 6 : Nat), .int .i64 (t 7 : Nat)]) (.int .i64 (k : Int))).run Tryd.prog w = .ok (.int .i64 (t k : Nat)) w := by
  rcases M.alt8 hk with rfl | rfl | rfl | rfl | rfl | rfl | rfl | rfl <;> kernel_rfl

/-- What both have. -/
def M.both (s t : Nat → Nat) (k : Nat) (j : Nat) : Nat := if j < k then s j &&& t j else s j

set_option maxHeartbeats 1000000 in
set_option maxRecDepth 20000 in
theorem and_any (s t : Nat → Nat) (w : World) (hs : ∀ j, s j < 16) (ht : ∀ j, t j < 16) :
    Calls Tryd.prog 78 #[M.av s, M.av t] w fun e w' => e = .returned (M.av (fun j => s j &&& t j)) ∧ Below w.heap.size w w' := by
  obtain ⟨W1, hW1⟩ : ∃ W1, w.alloc (.cells #[.int .i64 (s 0 : Nat), .int .i64 (s 1 : Nat), .int .i64 (s 2 : Nat), .int .i64 (s 3 : Nat), .int .i64 (s 4 : Nat), .int .i64 (s 5 : Nat), .int .i64 (s 6 : Nat), .int .i64 (s 7 : Nat)] 79) = W1 := ⟨_, rfl⟩
  obtain ⟨W2, hW2⟩ : ∃ W2, W1.alloc (.cells #[.int .i64 (t 0 : Nat), .int .i64 (t 1 : Nat), .int .i64 (t 2 : Nat), .int .i64 (t 3 : Nat), .int .i64 (t 4 : Nat), .int .i64 (t 5 : Nat), .int .i64 (t 6 : Nat), .int .i64 (t 7 : Nat)] 79) = W2 := ⟨_, rfl⟩
  obtain ⟨W3, hW3⟩ : ∃ W3, W2.alloc (.cells #[.int .i64 0, .int .i64 0, .int .i64 0, .int .i64 0, .int .i64 0, .int .i64 0, .int .i64 0, .int .i64 0] 79) = W3 := ⟨_, rfl⟩
  have r1 : W1.rowIs w.heap.size 79 8 (M.ac s) := hW1 ▸ M.row8 w s
  have r2 : W2.rowIs W1.heap.size 79 8 (M.ac t) := hW2 ▸ M.row8 W1 t
  have r3 : W3.rowIs W2.heap.size 79 8 (M.ac fun _ => 0) := hW3 ▸ M.row8 W2 (fun _ => 0)
  have r1' : W3.rowIs w.heap.size 79 8 (M.ac s) := by rw [← hW3, ← hW2]; exact (r1.alloc _).alloc _
  have r2' : W3.rowIs W1.heap.size 79 8 (M.ac t) := by rw [← hW3]; exact r2.alloc _
  have hB1 : Below w.heap.size w W1 := by rw [← hW1]; exact (Below.refl _ _).alloc (Nat.le_refl _) _
  have hB2 : Below w.heap.size w W2 := by rw [← hW2]; exact hB1.alloc hB1.size _
  have hB3 : Below w.heap.size w W3 := by rw [← hW3]; exact hB2.alloc hB2.size _
  have s1 : w.heap.size < W1.heap.size := by rw [← hW1]; simp
  have s2 : W1.heap.size < W2.heap.size := by rw [← hW2]; simp
  have HB3 := hid hB3
  have HS1 := hid s1
  have HS2 := hid s2
  have HR1 := hid r1'
  have HR2 := hid r2'
  have HR3 := hid r3
  obtain ⟨c0, c1, c2, c3, c4, c5, c6, c7⟩ := M.c8 r2'
  clear r1 r2 r3 r1' r2' hB1 hB2 hB3 s1 s2
  unfold M.av
  go_enter Tryd.func78, Tryd.ntmps78
  go_wp2
  go_loopw [8] (fun i wr => ∃ k : Nat, k ≤ 8 ∧ i = .int .i64 k ∧ wr.rowIs w.heap.size 79 8 (M.ac (M.both s t k)) ∧ wr.rowIs W2.heap.size 79 8 (M.ac fun _ => 0) ∧ Below w.heap.size w wr) (fun i _ => 8 - (intOf i).toNat)
  case atStart => exact ⟨0, Nat.zero_le _, rfl, HR1.out.congr (fun j _ => by simp [M.ac, M.both]), HR3.out, HB3.out⟩
  case round =>
    clear c0 c1 c2 c3 c4 c5 c6 c7
    obtain ⟨k, hk, rfl, hr1, hr3, hb⟩ := hrel
    have HQ1 := hid hr1
    have HQ3 := hid hr3
    have HB := hid hb
    by_cases hlt : k < 8
    · have t1 : wr.cell? ⟨w.heap.size, k, none⟩ = some (.int .i64 ((M.both s t k k : Nat) : Int)) := hr1.cell hlt
      have t2 := hr1.frozen k
      rw [show M.both s t k k = s k from if_neg (by omega)] at t1
      have hor := M.band (s k) (t k) (hs k) (ht k)
      have HN : Hid (∀ (v : Value), v = .int .i64 ((s k &&& t k : Nat) : Int) → (wr.setCell ⟨w.heap.size, k, none⟩ v).rowIs w.heap.size 79 8 (M.ac (M.both s t (k + 1)))) := hid (fun v hv => (HQ1.out.set k v).congr (fun j _ => by
        rw [hv]; unfold M.ac M.both; by_cases e : j = k
        · rw [if_pos e, e, if_pos (by omega)]
        · rw [if_neg e]
          by_cases h2 : j < k
          · rw [if_pos h2, if_pos (by omega)]
          · rw [if_neg h2, if_neg (by omega)]))
      clear hr1 hr3 hb hs ht
      have HN2 := hid (HN.out _ rfl)
      have HO2 := hid (HQ3.out.setOther (a := ⟨w.heap.size, k, none⟩) (by show W2.heap.size ≠ w.heap.size; have := HS1.out; have := HS2.out; omega) (.int .i64 ((s k &&& t k : Nat) : Int)))
      have HB2 := hid (HB.out.setCell (p := ⟨w.heap.size, k, none⟩) (Nat.le_refl _) (.int .i64 ((s k &&& t k : Nat) : Int)))
      clear HN HQ1 HQ3 HB HR1 HR2 HR3
      have hix := fun w => M.ix8 t hlt w
      have hix2 : (0 : Int) ≤ (k : Int) ∧ (k : Int) < 8 := by omega
      go_wp2
      go_roundw
      case rel => exact ⟨k + 1, by omega, by go_num, HN2.out, HO2.out, HB2.out⟩
      case measure => simp [intOf]; omega
    · have hke : k = 8 := by omega
      subst hke
      obtain ⟨e0, e1, e2, e3, e4, e5, e6, e7⟩ := M.c8 hr1
      obtain ⟨f0, f1, f2, f3, f4, f5, f6, f7⟩ := M.f8 hr3
      obtain ⟨d0, d1, d2, d3, d4, d5, d6, d7⟩ := M.c8 hr3
      clear hr1 hr3 hb hs ht
      have HU : Hid (∀ j, j < 8 → M.both s t 8 j = s j &&& t j) := hid (fun j hj => if_pos hj)
      generalize M.both s t 8 = u at *
      go_wp2
      have HP := hid (M.put8_row HQ3.out u)
      have HPB := hid (M.put8_below HB.out (show w.heap.size ≤ W2.heap.size by have := HS1.out; have := HS2.out; omega) u)
      exact bodyPost_ret (M.res8 rfl _ rfl HP.out) rfl ⟨congrArg Ending.returned (M.av_congr HU.out), HPB.out⟩
end Go.Proofs.YthnklabdjaiplaaDoor
