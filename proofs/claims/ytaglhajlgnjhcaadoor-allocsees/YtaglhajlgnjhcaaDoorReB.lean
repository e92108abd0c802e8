/- The document's answer: Right. -/
import Derived.Test.YtaglhajlgnjhcaaDoorReA
namespace Go.Proofs.YtaglhajlgnjhcaaDoor
open Go.RowKit

/-- What Right asks of the slot at place k. -/
def rOk (l : List (Int × Bool)) (f : List Int) (k : Nat) : Bool := slotOk (k : Int) (sG l k) (sA l k) && decide (tmN f ((k : Int) + 1) f.length = if usB (sG l k) (sA l k) then 1 else 0)
def rAll (l : List (Int × Bool)) (f : List Int) : Bool := (List.range l.length).all (rOk l f)
def rightB (m : Int) (l : List (Int × Bool)) (f : List Int) : Bool := szB m l.length && (decide (((livN l l.length).length : Int) - 2 ≤ m) && (rAll l f && decide (f.length = usN l l.length)))
theorem rAll_true {l : List (Int × Bool)} {f : List Int} (h : ∀ j, j < l.length → rOk l f j = true) : rAll l f = true := by
  unfold rAll; rw [List.all_eq_true]; intro j hj; exact h j (by simpa using hj)
theorem rAll_false {l : List (Int × Bool)} {f : List Int} (j : Nat) (hj : j < l.length) (h : rOk l f j = false) : rAll l f = false := by
  rw [Bool.eq_false_iff]; intro h'; unfold rAll at h'; rw [List.all_eq_true] at h'
  have := h' j (by simpa using hj); rw [h] at this; cases this
theorem rAll_at {l : List (Int × Bool)} {f : List Int} (h : rAll l f = true) (j : Nat) (hj : j < l.length) : rOk l f j = true := by
  unfold rAll at h; rw [List.all_eq_true] at h; exact h j (by simpa using hj)

set_option maxRecDepth 20000 in
set_option maxHeartbeats 1000000 in
theorem right_size (m : Int) (c d : Nat) (w : World) (p : Option Addr) (n k : Nat) (q : Option Addr) (hn : n ≤ 8796093022208) (hs : szB m n = false) :
    Calls Tryd.prog 12 #[.agg #[.int .i64 m, .slice p n c, .slice q k d]] w fun e w' => e = .returned (.bool false) ∧ Below w.heap.size w w' := by
  have h : m < 1 ∨ (1 ≤ m ∧ 1048576 < m) ∨ (1 ≤ m ∧ m ≤ 1048576 ∧ n < 2) ∨ (1 ≤ m ∧ m ≤ 1048576 ∧ 2 ≤ n ∧ m + 2 < (n : Int)) := by
    unfold szB mostB at hs
    simp at hs
    omega
  clear hs
  rcases h with h | ⟨h1, h2⟩ | ⟨h1, h2, h3⟩ | ⟨h1, h2, h3, h4⟩
  · go_enter Tryd.func12, Tryd.ntmps12
    go_wp2
    go_quiet (fail)
    go_wp2
    go_ret
    exact ⟨rfl, below_drewN' ((Below.refl _ _).alloc (Nat.le_refl _) _) _⟩
  · go_enter Tryd.func12, Tryd.ntmps12
    go_wp2
    go_quiet (fail)
    go_wp2
    go_ret
    exact ⟨rfl, below_drewN' ((Below.refl _ _).alloc (Nat.le_refl _) _) _⟩
  · have h3' : (n : Int) < 2 := by omega
    have d3 : decide ((n : Int) < 2) = true := decide_eq_true h3'
    clear h3
    go_enter Tryd.func12, Tryd.ntmps12
    go_wp2
    go_quiet (fail)
    go_wp2
    go_ret
    exact ⟨rfl, below_drewN' ((Below.refl _ _).alloc (Nat.le_refl _) _) _⟩
  · have hw : IntKind.i64.wrap (m + 2) = m + 2 := (by rw [IntKind.wrap_i64]; omega)
    have h3' : ¬ (n : Int) < 2 := by omega
    have d3 : decide ((n : Int) < 2) = false := decide_eq_false h3'
    have d4 : decide (m + 2 < (n : Int)) = true := decide_eq_true h4
    clear h3
    go_enter Tryd.func12, Tryd.ntmps12
    go_wp2
    go_quiet (fail)
    go_wp2
    go_ret
    exact ⟨rfl, below_drewN' ((Below.refl _ _).alloc (Nat.le_refl _) _) _⟩
end Go.Proofs.YtaglhajlgnjhcaaDoor
