/- cmp.Less, isNaN, slices.BinarySearch, has. -/
import Derived.Test.YtjnhalomkmdcgaaTyA
namespace Go.Proofs.Ytjnhalomkmdcgaa
open Go.RowKit

theorem nan101 (x : Int) (w : World) : Calls Try.prog 84 #[.int .u64 x] w fun e w' => e = .returned (.bool false) ∧ w' = w := by
  go_enter Try.func84, Try.ntmps84
  go_wp2
  go_ret
  exact ⟨rfl, rfl⟩
/-- A row rises (it may stand still). -/
def Ris (l : List Int) : Prop := ∀ i j, i ≤ j → j < l.length → iG l i ≤ iG l j
/-- Where a number stands, or would stand, in a row. -/
def Pos (l : List Int) (x : Int) (i : Nat) : Prop := i ≤ l.length ∧ (∀ j, j < i → iG l j < x) ∧ (∀ j, i ≤ j → j < l.length → x ≤ iG l j)
def fndB (l : List Int) (x : Int) (i : Nat) : Bool := decide (i < l.length) && decide (iG l i = x)
def Found (l : List Int) (x : Int) (w : World) (e : Ending) (w' : World) : Prop := ∃ i : Nat, e = .returned (.tuple #[.int .i64 i, .bool (fndB l x i)]) ∧ Pos l x i ∧ Below w.heap.size w w'
theorem found_of {l : List Int} {x : Int} {w w' : World} {e : Ending} (i : Nat) (hp : Pos l x i) (he : e = .returned (.tuple #[.int .i64 i, .bool (fndB l x i)])) (hb : Below w.heap.size w w') : Found l x w e w' := ⟨i, he, hp, hb⟩

end Go.Proofs.Ytjnhalomkmdcgaa
