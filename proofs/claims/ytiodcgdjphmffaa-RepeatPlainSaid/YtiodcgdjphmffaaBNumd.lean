/- Package repeat: numbered, Plain. -/
import Derived.Test.YtiodcgdjphmffaaBPer
import Derived.Laws.IdiomStrings
import Derived.Deep.OwnRows
import Derived.Lib.RabinKarpLaws
namespace Go.Proofs.Ytiodcgdjphmffaa
open Go.RowKit

theorem B.num_len (x n : Nat) : (B.num x n).length = n := by unfold B.num; simp
theorem B.num_at (x n i : Nat) (h : i < n) : ((B.num x n)[i]'(by rw [B.num_len]; exact h)).toNat = 97 + x / 2 ^ (n - 1 - i) % 2 := by
  unfold B.num
  rw [List.getElem_map, List.getElem_range]
  have : x / 2 ^ (n - 1 - i) % 2 < 2 := Nat.mod_lt _ (by decide)
  show (97 + x / 2 ^ (n - 1 - i) % 2) % 256 = _
  omega
theorem B.and_one (m : Nat) (h : m < 9223372036854775808) : bits BinOp.and IntKind.i64 (m : Int) 1 = ((m % 2 : Nat) : Int) :=
  Go.Proofs.and_one m h
/-- The bytes so far. -/
def B.numTo (x n k i : Nat) : Int := if i < k then ((97 + x / 2 ^ (n - 1 - i) % 2 : Nat) : Int) else 0

/-- A string made of a row of bytes. -/
theorem B.str_of (w : World) (g n : Nat) (t src dst e : TypeId) (l : List UInt8) (P : Program) (hs : P.underlying src = some (.slice e)) (he : P.underlying e = some (.int .u8)) (hd : P.underlying dst = some .string) (f : Nat → Value) (hr : w.rowIs g t n f) (hl : l.length = n) (hf : ∀ i (h : i < l.length), f i = .int .u8 (l[i].toNat : Int)) :
    (convert src dst (.slice (some ⟨g, 0, none⟩) n n)).run P w = .ok (.string ⟨l.toArray⟩) w := by
  subst hl
  refine run_convert_bytes_back w src dst e ⟨g, 0, none⟩ l.length l hs he hd (fun j hj => ?_)
  rw [Addr.add_lit, Nat.zero_add, hr.cell hj, hf j hj]

set_option maxHeartbeats 1000000 in
set_option maxRecDepth 100000 in
theorem numbered_any (x n : Nat) (w : World) (hn1 : 1 ≤ n) (hn : n ≤ 24) (hx : x < 16777216) :
    Calls Try.prog 57 #[.int .i64 x, .int .i64 n] w fun e w' => e = .returned (.string ⟨(B.num x n).toArray⟩) ∧ Below w.heap.size w w' := by
  have hmk := run_make_row' (P := Try.prog) 48 5 (.int .u8 0) 1 Try.underlying48 (by kernel_rfl) rfl .i64 .i64 n (by omega) (by omega)
  have HR0 := hid ((World.rowIs_made w (.int .u8 0) n 5).congr (g := fun i => .int .u8 (B.numTo x n 0 i)) (fun i _ => by simp [B.numTo]))
  have HB0 := hid ((Below.refl _ w).alloc (Nat.le_refl _) (.cells (madeCells #[.int .u8 0] n) 5))
  have HN := hid (B.num_at x n)
  have HNL := hid (B.num_len x n)
  go_enter Try.func57, Try.ntmps57
  go_wp2
  clear hmk
  generalize hws : w.alloc (.cells (madeCells #[.int .u8 0] n) 5) = ws at *
  go_loopw [12] (fun y wr => ∃ j : Nat, j ≤ n ∧ y = .int .i64 j ∧ wr.rowIs w.heap.size 5 n (fun i => .int .u8 (B.numTo x n j i)) ∧ Below w.heap.size w wr) (fun y _ => n - (intOf y).toNat)
  case atStart => exact ⟨0, Nat.zero_le _, rfl, HR0.out, HB0.out⟩
  case round =>
    obtain ⟨j, hj, rfl, hrow, hbel⟩ := hrel
    have HB := hid hbel; clear hbel
    have HROW := hid hrow
    by_cases hlt : j < n
    · have hfz := hrow.frozen j
      have hcl := hrow.cell hlt
      have hbit : x / 2 ^ (n - 1 - j) % 2 < 2 := Nat.mod_lt _ (by decide)
      have hd1 : (0 : Int) ≤ (n : Int) - 1 - (j : Int) := by omega
      have HBIT : Hid ((97 + bits BinOp.and IntKind.i64 ((x : Int) / 2 ^ (n - 1 - j)) 1) % 256 = ((97 + x / 2 ^ (n - 1 - j) % 2 : Nat) : Int)) := hid (by
        have h1 : (x : Int) / 2 ^ (n - 1 - j) = ((x / 2 ^ (n - 1 - j) : Nat) : Int) := by simp
        have h2 : x / 2 ^ (n - 1 - j) ≤ x := Nat.div_le_self _ _
        rw [h1, B.and_one _ (by omega)]
        omega)
      have HST : Hid (∀ i, i < n → (if i = j then Value.int .u8 (((97 + x / 2 ^ (n - 1 - j) % 2 : Nat) : Int)) else Value.int .u8 (B.numTo x n j i)) = Value.int .u8 (B.numTo x n (j + 1) i)) := hid (fun i hi => by
        unfold B.numTo
        by_cases e : i = j
        · subst e; rw [if_pos rfl, if_pos (by omega)]
        · rw [if_neg e]
          by_cases h : i < j
          · rw [if_pos h, if_pos (by omega)]
          · rw [if_neg h, if_neg (by omega)])
      clear hrow HR0 HB0
      go_wp2
      go_roundw
      case rel =>
        rw [HBIT.out]
        exact ⟨j + 1, by omega, by go_num, (HROW.out.set j _).congr HST.out, HB.out.setCell (p := ⟨w.heap.size, j, none⟩) (Nat.le_refl _) _⟩
      case measure => simp [intOf]; omega
    · have hje : j = n := by omega
      subst hje
      have hcv := B.str_of wr w.heap.size j 5 48 9 5 (B.num x j) Try.prog Try.underlying48 Try.underlying5 Try.underlying9 _ hrow (B.num_len x j) (fun i h => by
        have h' : i < j := by rw [B.num_len] at h; exact h
        rw [HN.out i h']
        unfold B.numTo
        rw [if_pos h'])
      clear hrow HR0 HB0
      go_wp2
      go_ret
      exact ⟨rfl, HB.out⟩
end Go.Proofs.Ytiodcgdjphmffaa
