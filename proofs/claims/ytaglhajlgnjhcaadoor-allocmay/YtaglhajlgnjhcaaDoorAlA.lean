/- Contracts of alloc's small functions: isMost, usable, hasSlot, and what mayBe asks of a slot. -/
import Derived.Test.YtaglhajlgnjhcaaDoorProg
import Derived.Test.YtaglhajlgnjhcaaDoorMod
import Derived.WalkKit
import Derived.WalkSpells
import Derived.Deep.QuietTactic
import Derived.BigQuiet
import Derived.Laws.StructEq
namespace Go.Proofs.YtaglhajlgnjhcaaDoor
open Go.RowKit

def mostB (m : Int) : Bool := decide (1 ≤ m) && decide (m ≤ 1048576)

theorem isMost_any (m : Int) (w : World) : Calls Tryd.prog 39 #[.int .i64 m] w fun e w' => e = .returned (.bool (mostB m)) ∧ w' = w := by
  have E : Hid (mostB m = (decide (1 ≤ m) && decide (m ≤ 1048576))) := rfl
  by_cases h1 : 1 ≤ m
  · by_cases h2 : m ≤ 1048576
    all_goals
      go_enter Tryd.func39, Tryd.ntmps39
      go_wp2
      go_ret
      exact ⟨by rw [E.out]; simp [h1, h2], rfl⟩
  · go_enter Tryd.func39, Tryd.ntmps39
    go_wp2
    go_ret
    exact ⟨by rw [E.out, decide_eq_false (show ¬ 1 ≤ m by omega)]; rfl, rfl⟩

theorem usable_any (g : Int) (a : Bool) (w : World) : Calls Tryd.prog 53 #[.agg #[.int .i64 g, .bool a]] w fun e w' => e = .returned (.bool (usB g a)) ∧ Below w.heap.size w w' := by
  have E : Hid (usB g a = (!a && decide (g < 7))) := rfl
  cases a
  · by_cases h2 : g < 7
    all_goals
      go_enter Tryd.func53, Tryd.ntmps53
      go_wp2
      go_ret
      exact ⟨by rw [E.out]; simp [h2], (Below.refl _ _).alloc (Nat.le_refl _) _⟩
  · go_enter Tryd.func53, Tryd.ntmps53
    go_wp2
    go_ret
    exact ⟨by rw [E.out]; simp, (Below.refl _ _).alloc (Nat.le_refl _) _⟩

def hasB (n : Nat) (i : Int) : Bool := decide (1 ≤ i) && decide (i ≤ (n : Int))
theorem hasSlot_any (m : Int) (p : Option Addr) (n c : Nat) (q : Option Addr) (k d : Nat) (i : Int) (w : World) :
    Calls Tryd.prog 44 #[.agg #[.int .i64 m, .slice p n c, .slice q k d], .int .i64 i] w fun e w' => e = .returned (.bool (hasB n i)) ∧ Below w.heap.size w w' := by
  have E : Hid (hasB n i = (decide (1 ≤ i) && decide (i ≤ (n : Int)))) := rfl
  by_cases h1 : 1 ≤ i
  · by_cases h2 : i ≤ (n : Int)
    all_goals
      go_enter Tryd.func44, Tryd.ntmps44
      go_wp2
      go_ret
      exact ⟨by rw [E.out]; simp [h1, h2], (Below.refl _ _).alloc (Nat.le_refl _) _⟩
  · go_enter Tryd.func44, Tryd.ntmps44
    go_wp2
    go_ret
    exact ⟨by rw [E.out, decide_eq_false (show ¬ 1 ≤ i by omega)]; rfl, (Below.refl _ _).alloc (Nat.le_refl _) _⟩
end Go.Proofs.YtaglhajlgnjhcaaDoor
