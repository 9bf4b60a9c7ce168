/- All borders of three kinds up to 8 figures, by numbers: what is looked at. -/
import Derived.Test.YtiodcgdjphmffaaBFineP
import Derived.Test.YtiodcgdjphmffaaBKinds
namespace Go.Proofs.Ytiodcgdjphmffaa
open Go.RowKit Go.Maps
namespace B
def memN (x : Nat) : List Nat → Bool
  | [] => false
  | y :: t => (Nat.beq x y).or (memN x t)
def kdN : List Nat → List Nat → Nat
  | [], A => A.length
  | x :: t, A => bif memN x A then kdN t A else kdN t (x :: A)
/-- The border with this number. -/
def digs : Nat → Nat → List Nat
  | 0, _ => []
  | k + 1, x => (x % 3) :: digs k (x / 3)
def allc (n p q g : Nat) (s : List Nat) : Bool :=
  (bif Nat.ble (p + q) (n + g) then perN s g else true).and (Nat.ble (kdN s []) (mx g (p + q - n)))
def allx (n : Nat) (s : List Nat) : Bool :=
  allTo n fun p => bif perN s (p + 1) then (allTo n fun q => bif perN s (q + 1) then allc n (p + 1) (q + 1) (Nat.gcd (p + 1) (q + 1)) s else true) else true
def allN (n : Nat) : Bool := allTo (3 ^ n) fun x => allx n (digs n x)
def widk (n : Nat) : Bool := allTo n fun p => allTo n fun q => Nat.beq (kdN (widN n (p + 1) (q + 1)) []) (mx (Nat.gcd (p + 1) (q + 1)) (p + 1 + (q + 1) - n))
end B
set_option maxRecDepth 100000
theorem B.alls : ((((((B.allN 1).and (B.allN 2)).and (B.allN 3)).and (B.allN 4)).and (B.allN 5)).and (B.allN 6)).and (B.allN 7) = true := by kernel_rfl
theorem B.all8 : B.allN 8 = true := by kernel_rfl
theorem B.widks : B.allTo 8 (fun n => B.widk (n + 1)) = true := by kernel_rfl
end Go.Proofs.Ytiodcgdjphmffaa
