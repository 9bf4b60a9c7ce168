/- Package repeat: what its functions compute, as plain functions on lists of bytes and on byte arrays. -/
import Derived.Test.YtiodcgdjphmffaaBase
import Derived.Lib.Strings
import Derived.Lib.MinMaxS
import Derived.Lib.IndexMore
namespace Go.Proofs.Ytiodcgdjphmffaa
open Go.RowKit

namespace B
def fig (c : UInt8) : Bool := 97 ≤ c.toNat && c.toNat ≤ 122
def chk (s : ByteArray) : Int := if s.size = 0 then 1 else if 24 < s.size then 19 else if s.data.toList.all fig then 0 else 9
/-- Is this number a period? -/
def per (l : List UInt8) (p : Nat) : Bool := (l.drop p).isPrefixOf l
def pers (l : List UInt8) : List Nat := ((List.range l.length).map (· + 1)).filter (per l)
/-- The length of the root. -/
def rt (l : List UInt8) : Nat := ((pers l).find? (fun p => l.length % p == 0)).getD l.length
/-- What a length covers, place by place. -/
def covTo (l : List UInt8) (k n : Nat) : Nat := (List.range n).foldl (fun c a => if a ≤ c && (l.take k).isPrefixOf (l.drop a) then a + k else c) 0
def cov (l : List UInt8) (k : Nat) : Bool := covTo l k l.length == l.length
def covs (l : List UInt8) : List Nat := ((List.range l.length).map (· + 1)).filter (cov l)
/-- The border of a and b with this number. -/
def num (x n : Nat) : List UInt8 := (List.range n).map fun i => UInt8.ofNat (97 + x / 2 ^ (n - 1 - i) % 2)
def same (a b : List UInt8) : Bool := (List.range a.length).all fun p => p == 0 || per a p == per b p
/-- The first of so many borders that has these periods, or the last one. -/
def plain (l : List UInt8) : List UInt8 := num (((List.range (2 ^ l.length)).find? (fun x => same (num x l.length) l)).getD (2 ^ l.length - 1)) l.length
/-- A border that is turned. -/
def turn (s : ByteArray) (t : Nat) : ByteArray := s.extract t s.size ++ s.extract 0 t
def firstTo (s : ByteArray) (n : Nat) : ByteArray := (List.range n).foldl (fun f t => Lib.minS f (turn s t)) s
def first (s : ByteArray) : ByteArray := firstTo s s.size
def keptTo (n k m : Nat) : Nat := (List.range m).foldl (fun a t => a + k ^ Nat.gcd n t) 0
def rings (n k : Nat) : Nat := keptTo n k n / n
end B

theorem B.all_take (p : UInt8 → Bool) (s : ByteArray) (k : Nat) (h : k < s.size) : (s.data.toList.take (k + 1)).all p = ((s.data.toList.take k).all p && p s[k]) := by
  rw [List.take_succ_eq_append_getElem (by simpa using h), List.all_append]; simp; rfl

theorem B.len (s : ByteArray) : s.data.toList.length = s.size := (Lib.size_eq s).symm

theorem B.ext {a b : ByteArray} (h : a.data.toList = b.data.toList) : a = b := by
  rw [← Lib.mk_data a, ← Lib.mk_data b, h]

theorem B.size_extract (s : ByteArray) (a b : Nat) : (s.extract a b).size = min b s.size - a := by
  rw [Lib.size_eq, Lib.extract_data, List.length_take, List.length_drop, B.len]
  omega

theorem B.drop_data (s : ByteArray) (p : Nat) : (s.extract p s.size).data.toList = s.data.toList.drop p := by
  rw [Lib.extract_data, List.take_of_length_le (by rw [List.length_drop, B.len]; exact Nat.le_refl _)]

theorem B.take_data (s : ByteArray) (p : Nat) : (s.extract 0 p).data.toList = s.data.toList.take p := by
  rw [Lib.extract_data]; simp

theorem B.append_data (s t : ByteArray) : (s ++ t).data.toList = s.data.toList ++ t.data.toList := by
  simp [ByteArray.data_append]

theorem B.size_append (s t : ByteArray) : (s ++ t).size = s.size + t.size := by
  rw [Lib.size_eq, B.append_data, List.length_append, B.len, B.len]

theorem B.turn_data (s : ByteArray) (t : Nat) : (B.turn s t).data.toList = s.data.toList.drop t ++ s.data.toList.take t := by
  unfold B.turn; rw [B.append_data, B.drop_data, B.take_data]

theorem B.turn_size (s : ByteArray) (t : Nat) (h : t ≤ s.size) : (B.turn s t).size = s.size := by
  rw [Lib.size_eq, B.turn_data, List.length_append, List.length_drop, List.length_take, B.len]; omega

theorem B.minS_size {a b : ByteArray} {n : Nat} (h : a.size = n) (k : b.size = n) : (Lib.minS a b).size = n := by
  unfold Lib.minS; split <;> assumption

theorem B.firstTo_succ (s : ByteArray) (n : Nat) : B.firstTo s (n + 1) = Lib.minS (B.firstTo s n) (B.turn s n) := by
  unfold B.firstTo; rw [List.range_succ, List.foldl_append]; rfl

theorem B.firstTo_size (s : ByteArray) : ∀ n, n ≤ s.size → (B.firstTo s n).size = s.size := by
  intro n
  induction n with
  | zero => intro _; rfl
  | succ n ih => intro h; rw [B.firstTo_succ]; exact B.minS_size (ih (by omega)) (B.turn_size s n (by omega))

theorem B.keptTo_succ (n k m : Nat) : B.keptTo n k (m + 1) = B.keptTo n k m + k ^ Nat.gcd n m := by
  unfold B.keptTo; rw [List.range_succ, List.foldl_append]; rfl

theorem B.covTo_succ (l : List UInt8) (k n : Nat) : B.covTo l k (n + 1) = if n ≤ B.covTo l k n && (l.take k).isPrefixOf (l.drop n) then n + k else B.covTo l k n := by
  unfold B.covTo; rw [List.range_succ, List.foldl_append]; rfl

theorem B.covTo_le (l : List UInt8) (k : Nat) : ∀ n, n ≤ l.length → k ≤ l.length → B.covTo l k n ≤ l.length := by
  intro n
  induction n with
  | zero => intro _ _; exact Nat.zero_le _
  | succ n ih =>
    intro h hk
    rw [B.covTo_succ]
    split
    · rename_i hc
      simp only [Bool.and_eq_true, decide_eq_true_eq, List.isPrefixOf_iff_prefix] at hc
      have := hc.2.length_le
      rw [List.length_take, List.length_drop] at this
      omega
    · exact ih (by omega) hk

theorem B.pow_le {k : Nat} (hk : k ≤ 9) : ∀ n, k ^ n ≤ 9 ^ n := fun n => Nat.pow_le_pow_left hk n

end Go.Proofs.Ytiodcgdjphmffaa
