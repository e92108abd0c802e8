/- Contracts of ident.Parts, ident.covers, ident.Takes. -/
import Derived.Test.YtjnhalomkmdcgaaIdD
import Derived.Test.YtjnhalomkmdcgaaIdE
import Derived.WalkSmall
import Derived.Sort.AtCall
namespace Go.Proofs.Ytjnhalomkmdcgaa
open Go.RowKit

def p1 (x : Int) : Int := if kindOf x = 1 ∨ kindOf x = 2 then fB x else if kindOf x = 3 ∨ kindOf x = 4 then fA x else 0
def p2 (x : Int) : Int := if kindOf x = 1 ∨ kindOf x = 2 then fA x else if kindOf x = 3 ∨ kindOf x = 4 then fB x else 0
def cov1 (a b : Int) : Bool := a == 0 || a == b
def coversB (p x : Int) : Bool := cov1 (fA p) (fA x) && cov1 (fB p) (fB x)
def takesB (p x : Int) : Bool := if kindOf p = 0 then false else if kindOf p = 4 then (kindOf x == 3 && coversB p x) else p == x

theorem kind_cases (x : Int) : kindOf x = 0 ∨ kindOf x = 1 ∨ kindOf x = 2 ∨ kindOf x = 3 ∨ kindOf x = 4 := by
  unfold kindOf
  cases isEnt x <;> cases isCom x <;> cases isPai x <;> cases isPat x <;> decide

theorem below_drewN' {B : Nat} {a w : World} (h : Below B a w) (n : Nat) : Below B a (w.drewN n) := ⟨h.os, h.tape, h.output, h.size, h.block⟩

end Go.Proofs.Ytjnhalomkmdcgaa
