/- Plain arithmetic of ids: masks, joined fields, kinds, parts. Imports nothing of the program. -/
import Derived.WalkKit
import Derived.Laws.BitsAllLaws
namespace Go.Proofs.Ytjnhalomkmdcgaa
open Go.RowKit

theorem and30 (a : Int) (h0 : 0 ≤ a) (h1 : a < 18446744073709551616) : bits .and .u64 a 1073741823 = a % 1073741824 := by
  rw [u64_and a 1073741823 h0 h1 (by omega) (by omega)]
  have : (1073741823 : Int).toNat = 2 ^ 30 - 1 := by decide
  rw [this, Nat.and_two_pow_sub_one_eq_mod]
  omega
theorem and2 (a : Int) (h0 : 0 ≤ a) (h1 : a < 18446744073709551616) : bits .and .u64 a 3 = a % 4 := by
  rw [u64_and a 3 h0 h1 (by omega) (by omega)]
  have : (3 : Int).toNat = 2 ^ 2 - 1 := by decide
  rw [this, Nat.and_two_pow_sub_one_eq_mod]
  omega
theorem or_nat (n a b : Nat) (hb : b < 2 ^ n) : (2 ^ n * a) ||| b = 2 ^ n * a + b := (Nat.two_pow_add_eq_or_of_lt hb a).symm
theorem orJoin (a b d : Int) (a0 : 0 ≤ a) (a1 : a ≤ 3) (b0 : 0 ≤ b) (b1 : b < 1073741824) (d0 : 0 ≤ d) (d1 : d < 1073741824) :
    bits .or .u64 (bits .or .u64 (bits .or .u64 (a * 4611686018427387904) (b * 4294967296)) 0) d = a * 4611686018427387904 + b * 4294967296 + d := by
  have e1 : bits .or .u64 (a * 4611686018427387904) (b * 4294967296) = a * 4611686018427387904 + b * 4294967296 := by
    rw [u64_or _ _ (by omega) (by omega) (by omega) (by omega)]
    have h := or_nat 62 a.toNat (b * 4294967296).toNat (by omega)
    have e : (a * 4611686018427387904).toNat = 2 ^ 62 * a.toNat := by omega
    rw [e, h]; omega
  rw [e1]
  have e2 : bits .or .u64 (a * 4611686018427387904 + b * 4294967296) 0 = a * 4611686018427387904 + b * 4294967296 := by
    rw [u64_or _ _ (by omega) (by omega) (by omega) (by omega)]
    simp; omega
  rw [e2, u64_or _ _ (by omega) (by omega) (by omega) (by omega)]
  have h := or_nat 32 (a * 1073741824 + b).toNat d.toNat (by omega)
  have e : (a * 4611686018427387904 + b * 4294967296).toNat = 2 ^ 32 * (a * 1073741824 + b).toNat := by omega
  rw [e, h]; omega

/-- the fields of an id -/
def fH (x : Int) : Int := x / 4611686018427387904
def fA (x : Int) : Int := x / 4294967296 % 1073741824
def fS (x : Int) : Int := x / 1073741824 % 4
def fB (x : Int) : Int := x % 1073741824
def inR (lo hi n : Int) : Bool := decide (lo ≤ n ∧ n ≤ hi)
def isHd (x n : Int) : Bool := decide (fH x = n ∧ fS x = 0)
def isEnt (x : Int) : Bool := isHd x 0 && inR 0 7 (fA x) && inR 1 1048578 (fB x)
def isCom (x : Int) : Bool := isHd x 1 && inR 0 0 (fA x) && inR 1 24 (fB x)
def isPai (x : Int) : Bool := isHd x 2 && (inR 1 1048578 (fA x) && inR 1 1048578 (fB x))
def isPat (x : Int) : Bool := isHd x 2 && (inR 0 1048578 (fA x) && inR 0 1048578 (fB x)) && !(inR 1 1048578 (fA x) && inR 1 1048578 (fB x))
def kindOf (x : Int) : Int := if isEnt x then 1 else if isCom x then 2 else if isPai x then 3 else if isPat x then 4 else 0
def mk (h a b : Int) : Int := h * 4611686018427387904 + a * 4294967296 + b
end Go.Proofs.Ytjnhalomkmdcgaa
