/- Package rack: what braces read as; sets as numbers. No program is named here. -/
import Derived.Test.YtmbfpekcfeeifaaBase
namespace Go.Proofs.Ytmbfpekcfeeifaa
open Go.RowKit

theorem below_drewN {B : Nat} {w a : World} (h : Below B w a) (n : Nat) : Below B w (a.drewN n) := h.trans ⟨rfl, rfl, rfl, Nat.le_refl _, fun _ _ => rfl⟩

/-- A brace: its row, its column, its kind. -/
abbrev Br := Int × Int × Int
/-- The slice with this address reads as these braces. -/
def RdB (w : World) (a : Option Addr) (bs : List Br) : Prop :=
  ∀ k (h : k < bs.length), ∃ b off, a = some ⟨b, off, none⟩ ∧ w.cell? ⟨b, off + k * 3, none⟩ = some (.int .i64 bs[k].1) ∧ w.cell? ⟨b, off + k * 3 + 1, none⟩ = some (.int .i64 bs[k].2.1) ∧ w.cell? ⟨b, off + k * 3 + 2, none⟩ = some (.int .i64 bs[k].2.2)
theorem RdB.stays {w w' : World} {a : Option Addr} {bs : List Br} (h : RdB w a bs) (hb : Below w.heap.size w w') : RdB w' a bs := fun k hk => by
  obtain ⟨b, off, ha, h1, h2, h3⟩ := h k hk
  exact ⟨b, off, ha, cell_stays hb (Nat.le_refl _) h1, cell_stays hb (Nat.le_refl _) h2, cell_stays hb (Nat.le_refl _) h3⟩
/-- A rack, as a value. -/
def K.rk (m n : Int) (a : Option Addr) (len c : Nat) : Value := .agg #[.int .i64 m, .int .i64 n, .slice a len c]

/-- The places of a brace, as a set: rows first. -/
def K.two (m : Nat) (b : Br) : Nat := 2 ^ b.1.toNat ||| 2 ^ (m + b.2.1.toNat)
def K.meet (m : Nat) (s : Nat) (b : Br) : Nat := if s &&& K.two m b = 0 then s else s ||| K.two m b
def K.pass (m : Nat) (bs : List Br) (s : Nat) : Nat := bs.foldl (K.meet m) s
def K.metAt (m : Nat) (bs : List Br) : Nat → Nat
  | 0 => 1
  | i + 1 => K.pass m bs (K.metAt m bs i)
/-- Rods make one piece. -/
def K.joined (m n : Nat) (bs : List Br) : Bool := K.metAt m bs (m + n) == 2 ^ (m + n) - 1

/-- A valid brace of m rows and n columns. -/
def K.InB (m n : Nat) (b : Br) : Prop := 0 ≤ b.1 ∧ b.1 < m ∧ 0 ≤ b.2.1 ∧ b.2.1 < n

theorem K.two_lt {m n : Nat} {b : Br} (h : K.InB m n b) : K.two m b < 2 ^ (m + n) := by
  obtain ⟨h1, h2, h3, h4⟩ := h
  exact Nat.or_lt_two_pow (Nat.pow_lt_pow_right (by decide) (by omega)) (Nat.pow_lt_pow_right (by decide) (by omega))
theorem K.meet_lt {m n s : Nat} {b : Br} (h : K.InB m n b) (hs : s < 2 ^ (m + n)) : K.meet m s b < 2 ^ (m + n) := by
  unfold K.meet
  split
  · exact hs
  · exact Nat.or_lt_two_pow hs (K.two_lt h)
theorem K.pass_lt {m n : Nat} : ∀ {bs : List Br} {s : Nat}, (∀ b ∈ bs, K.InB m n b) → s < 2 ^ (m + n) → K.pass m bs s < 2 ^ (m + n)
  | [], _, _, hs => hs
  | b :: bs, _, h, hs => K.pass_lt (bs := bs) (fun b hb => h b (List.mem_cons_of_mem _ hb)) (K.meet_lt (h b (List.mem_cons_self ..)) hs)
theorem K.metAt_lt {m n : Nat} {bs : List Br} (h : ∀ b ∈ bs, K.InB m n b) (h1 : 1 ≤ m + n) : ∀ i, K.metAt m bs i < 2 ^ (m + n)
  | 0 => Nat.one_lt_two_pow (by omega)
  | i + 1 => K.pass_lt h (K.metAt_lt h h1 i)
theorem K.pass_take {m : Nat} {bs : List Br} {s k : Nat} (h : k < bs.length) : K.pass m (bs.take (k + 1)) s = K.meet m (K.pass m (bs.take k) s) bs[k] := by
  unfold K.pass
  rw [List.take_succ_eq_append_getElem h, List.foldl_append]
  rfl

theorem bv_of (n a : Nat) : (BitVec.ofInt n (a : Int)).toNat = a % 2 ^ n := by
  rw [BitVec.toNat_ofInt]; omega
theorem or_i64 {a b : Nat} (ha : a < 4096) (hb : b < 4096) : bits .or .i64 (a : Int) (b : Int) = ((a ||| b : Nat) : Int) := by
  have h := Nat.or_lt_two_pow (n := 12) ha hb
  have e : bits .or .i64 (a : Int) (b : Int) = IntKind.i64.wrap ((BitVec.ofInt 64 (a : Int) ||| BitVec.ofInt 64 (b : Int)).toNat : Int) := rfl
  rw [e, BitVec.toNat_or, bv_of, bv_of, Nat.mod_eq_of_lt (show a < 2 ^ 64 by omega), Nat.mod_eq_of_lt (show b < 2 ^ 64 by omega)]
  exact IntWalk.i64_in _ (by omega)
theorem and_i64 {a b : Nat} (ha : a < 4096) (hb : b < 4096) : bits .and .i64 (a : Int) (b : Int) = ((a &&& b : Nat) : Int) := by
  have h : a &&& b ≤ a := Nat.and_le_left
  have e : bits .and .i64 (a : Int) (b : Int) = IntKind.i64.wrap ((BitVec.ofInt 64 (a : Int) &&& BitVec.ofInt 64 (b : Int)).toNat : Int) := rfl
  rw [e, BitVec.toNat_and, bv_of, bv_of, Nat.mod_eq_of_lt (show a < 2 ^ 64 by omega), Nat.mod_eq_of_lt (show b < 2 ^ 64 by omega)]
  exact IntWalk.i64_in _ (by omega)
theorem pow_i64 {p : Nat} (h : p ≤ 12) : IntKind.i64.wrap ((2 : Int) ^ p) = ((2 ^ p : Nat) : Int) := by
  have h1 : 2 ^ p ≤ 2 ^ 12 := Nat.pow_le_pow_right (by decide) h
  have e : (2 : Int) ^ p = ((2 ^ p : Nat) : Int) := by simp
  rw [e]
  generalize 2 ^ p = x at *
  exact IntWalk.i64_in _ (by omega)
end Go.Proofs.Ytmbfpekcfeeifaa
