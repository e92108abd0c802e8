/- Contracts of ident.Entity, ident.Component, ident.Pair. -/
import Derived.Test.YtjnhalomkmdcgaaIdB
namespace Go.Proofs.Ytjnhalomkmdcgaa
open Go.RowKit

def entB (i g : Int) : Bool := inR 1 1048578 i && inR 0 7 g
def entV (i g : Int) : Int := if entB i g then mk 0 g i else 0
def entE (i g : Int) : Int := if entB i g then 0 else 2
def comV (n : Int) : Int := if inR 1 24 n then mk 1 0 n else 0
def comE (n : Int) : Int := if inR 1 24 n then 0 else 2
def paiB (r t : Int) : Bool := inR 0 1048578 r && inR 0 1048578 t
def paiV (r t : Int) : Int := if paiB r t then mk 2 r t else 0
def paiE (r t : Int) : Int := if paiB r t then 0 else 2

theorem inR_le {lo hi n : Int} (h : inR lo hi n = true) : lo ≤ n ∧ n ≤ hi := by simpa [inR] using h

theorem below1 {w w' : World} {a : Obj} (h : Below (w.alloc a).heap.size (w.alloc a) w') : Below w.heap.size w w' :=
  ((Below.refl _ _).alloc (Nat.le_refl _) _).trans (h.mono (by simp))
theorem below2 {w w' : World} {a b : Obj} (h : Below ((w.alloc a).alloc b).heap.size ((w.alloc a).alloc b) w') : Below w.heap.size w w' :=
  below1 (below1 h)

end Go.Proofs.Ytjnhalomkmdcgaa
