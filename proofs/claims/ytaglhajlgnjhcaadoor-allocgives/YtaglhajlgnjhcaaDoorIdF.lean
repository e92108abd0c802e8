/- Contracts of ident.Parts, ident.covers, ident.Takes. -/
import Derived.Test.YtaglhajlgnjhcaaDoorIdD
import Derived.Test.YtaglhajlgnjhcaaDoorIdE
import Derived.WalkSmall
import Derived.Sort.AtCall
namespace Go.Proofs.YtaglhajlgnjhcaaDoor
open Go.RowKit

def p1 (x : Int) : Int := if kindOf x = 1 ∨ kindOf x = 2 then fB x else if kindOf x = 3 ∨ kindOf x = 4 then fA x else 0
def p2 (x : Int) : Int := if kindOf x = 1 ∨ kindOf x = 2 then fA x else if kindOf x = 3 ∨ kindOf x = 4 then fB x else 0
def cov1 (a b : Int) : Bool := a == 0 || a == b
def coversB (p x : Int) : Bool := cov1 (fA p) (fA x) && cov1 (fB p) (fB x)
def takesB (p x : Int) : Bool := if kindOf p = 0 then false else if kindOf p = 4 then (kindOf x == 3 && coversB p x) else p == x

theorem kind_cases (x : Int) : kindOf x = 0 ∨ kindOf x = 1 ∨ kindOf x = 2 ∨ kindOf x = 3 ∨ kindOf x = 4 := by
  unfold kindOf
  cases isEnt x <;> cases isCom x <;> cases isPai x <;> cases isPat x <;> decide

theorem below_drewN' {B : Nat} {a w : World} (h : Below B a w) (n : Nat) : Below B a (w.drewN n) := ⟨h.os, h.tape, h.output, h.size, h.block⟩

set_option maxHeartbeats 1000000 in
theorem parts_any (x : Int) (w : World) (h0 : 0 ≤ x) (h1 : x < 18446744073709551616) :
    Calls Tryd.prog 52 #[.int .u64 x] w fun e w' => e = .returned (.tuple #[.int .i64 (p1 x), .int .i64 (p2 x)]) ∧ Below w.heap.size w w' := by
  have E1 : Hid (p1 x = if kindOf x = 1 ∨ kindOf x = 2 then fB x else if kindOf x = 3 ∨ kindOf x = 4 then fA x else 0) := rfl
  have E2 : Hid (p2 x = if kindOf x = 1 ∨ kindOf x = 2 then fA x else if kindOf x = 3 ∨ kindOf x = 4 then fB x else 0) := rfl
  rcases kind_cases x with k | k | k | k | k
  · go_enter Tryd.func52, Tryd.ntmps52
    go_wp2_with (first | (go_at_call 65; refine (split_any _ _ h0 h1).mono ?_; rintro e w1 ⟨rfl, hb1⟩) | (go_at_call 63; refine (kind_any _ _ h0 h1).mono ?_; rintro e w2 ⟨rfl, hb2⟩))
    go_ret2
    exact ⟨by rw [E1.out, E2.out, k]; rfl, hb1.trans ((below1 hb2).mono hb1.size)⟩
  all_goals
    go_enter Tryd.func52, Tryd.ntmps52
    go_wp2_with (first | (go_at_call 65; refine (split_any _ _ h0 h1).mono ?_; rintro e w1 ⟨rfl, hb1⟩) | (go_at_call 63; refine (kind_any _ _ h0 h1).mono ?_; rintro e w2 ⟨rfl, hb2⟩))
    have hB : Below w.heap.size w w2 := hb1.trans ((below1 hb2).mono hb1.size)
    have hc : w2.cell? ⟨w1.heap.size, 1, none⟩ = some (.int .i64 (fA x)) := by rw [hb2.cell (by simp)]; simp [go_sem]
    have hd : w2.cell? ⟨w1.heap.size, 3, none⟩ = some (.int .i64 (fB x)) := by rw [hb2.cell (by simp)]; simp [go_sem]
    clear hb1 hb2
    go_quiet (fail)
    go_wp2
    go_ret2
    exact ⟨by rw [E1.out, E2.out, k]; rfl, below_drewN' hB _⟩
end Go.Proofs.YtaglhajlgnjhcaaDoor
