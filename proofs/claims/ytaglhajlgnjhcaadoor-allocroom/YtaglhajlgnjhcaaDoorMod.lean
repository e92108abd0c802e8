/- Plain mathematics of allocators: slots, what may be, and how rows of them lie in memory. -/
import Derived.WalkKit
import Derived.Below
namespace Go.Proofs.YtaglhajlgnjhcaaDoor
open Go.RowKit

/-- Generation and life of the k-th slot of a row. -/
def sG (l : List (Int × Bool)) (k : Nat) : Int := (l.getD k (0, false)).1
def sA (l : List (Int × Bool)) (k : Nat) : Bool := (l.getD k (0, false)).2
def iG (l : List Int) (k : Nat) : Int := l.getD k 0

def usB (g : Int) (a : Bool) : Bool := !a && decide (g < 7)
def slotOk (p : Int) (g : Int) (a : Bool) : Bool := decide (0 ≤ g) && decide (g ≤ 7) && (decide (2 ≤ p) || (decide (g = 0) && a))
def usN (l : List (Int × Bool)) : Nat → Nat
  | 0 => 0
  | k + 1 => usN l k + if usB (sG l k) (sA l k) then 1 else 0
def okS (l : List (Int × Bool)) : Bool := (List.range l.length).all fun j => slotOk (j : Int) (sG l j) (sA l j)

theorem usN_le (l : List (Int × Bool)) (k : Nat) : usN l k ≤ k := by
  induction k with
  | zero => simp [usN]
  | succ k ih => unfold usN; split <;> omega
theorem okS_true {l : List (Int × Bool)} (h : ∀ j, j < l.length → slotOk (j : Int) (sG l j) (sA l j) = true) : okS l = true := by
  unfold okS; rw [List.all_eq_true]; intro j hj; exact h j (by simpa using hj)
theorem okS_false {l : List (Int × Bool)} (j : Nat) (hj : j < l.length) (h : slotOk (j : Int) (sG l j) (sA l j) = false) : okS l = false := by
  rw [Bool.eq_false_iff]; intro h'; unfold okS at h'; rw [List.all_eq_true] at h'
  have := h' j (by simpa using hj); rw [h] at this; cases this
theorem okS_at {l : List (Int × Bool)} (h : okS l = true) (j : Nat) (hj : j < l.length) : slotOk (j : Int) (sG l j) (sA l j) = true := by
  unfold okS at h; rw [List.all_eq_true] at h; exact h j (by simpa using hj)

/-- The slice that begins at p holds the slots l, in a block below N. -/
def SRow (N : Nat) (w : World) (p : Option Addr) (l : List (Int × Bool)) : Prop :=
  0 < l.length → ∃ b off, p = some ⟨b, off, none⟩ ∧ b < N ∧ ∀ k, k < l.length → w.cell? ⟨b, off + k * 2, none⟩ = some (.int .i64 (sG l k)) ∧ w.cell? ⟨b, off + k * 2 + 1, none⟩ = some (.bool (sA l k))
/-- The slice that begins at p holds the numbers l, of the kind q, in a block below N. -/
def IRow (q : IntKind) (N : Nat) (w : World) (p : Option Addr) (l : List Int) : Prop :=
  0 < l.length → ∃ b off, p = some ⟨b, off, none⟩ ∧ b < N ∧ ∀ k, k < l.length → w.cell? ⟨b, off + k, none⟩ = some (.int q (iG l k))

theorem SRow.below {N M : Nat} {w w' : World} {p : Option Addr} {l : List (Int × Bool)} (h : SRow N w p l) (hb : Below M w w') (hm : N ≤ M) : SRow N w' p l := by
  intro h0
  obtain ⟨b, off, rfl, hN, hc⟩ := h h0
  exact ⟨b, off, rfl, hN, fun k hk => ⟨(hb.cell (p := ⟨b, off + k * 2, none⟩) (by simp; omega)).trans (hc k hk).1, (hb.cell (p := ⟨b, off + k * 2 + 1, none⟩) (by simp; omega)).trans (hc k hk).2⟩⟩
theorem IRow.below {q : IntKind} {N M : Nat} {w w' : World} {p : Option Addr} {l : List Int} (h : IRow q N w p l) (hb : Below M w w') (hm : N ≤ M) : IRow q N w' p l := by
  intro h0
  obtain ⟨b, off, rfl, hN, hc⟩ := h h0
  exact ⟨b, off, rfl, hN, fun k hk => (hb.cell (p := ⟨b, off + k, none⟩) (by simp; omega)).trans (hc k hk)⟩
theorem SRow.mono {N M : Nat} {w : World} {p : Option Addr} {l : List (Int × Bool)} (h : SRow N w p l) (hm : N ≤ M) : SRow M w p l := by
  intro h0
  obtain ⟨b, off, rfl, hN, hc⟩ := h h0
  exact ⟨b, off, rfl, by omega, hc⟩
theorem IRow.mono {q : IntKind} {N M : Nat} {w : World} {p : Option Addr} {l : List Int} (h : IRow q N w p l) (hm : N ≤ M) : IRow q M w p l := by
  intro h0
  obtain ⟨b, off, rfl, hN, hc⟩ := h h0
  exact ⟨b, off, rfl, by omega, hc⟩
theorem SRow.nil {N : Nat} {w : World} {p : Option Addr} : SRow N w p [] := fun h => by simp at h
theorem IRow.nil {q : IntKind} {N : Nat} {w : World} {p : Option Addr} : IRow q N w p [] := fun h => by simp at h

/-- The program's own variable 'fresh' reads as its text lays it. -/
structure Fr (w : World) : Prop where
  lt : 0 < w.heap.size
  c0 : w.cell? ⟨0, 0, none⟩ = some (.int .i64 0)
  c1 : w.cell? ⟨0, 1, none⟩ = some (.bool true)
theorem Fr.below {M : Nat} {w w' : World} (h : Fr w) (hb : Below M w w') (hM : 0 < M) : Fr w' :=
  ⟨Nat.lt_of_lt_of_le h.lt hb.size, (hb.cell (p := ⟨0, 0, none⟩) hM).trans h.c0, (hb.cell (p := ⟨0, 1, none⟩) hM).trans h.c1⟩
theorem Fr.alloc {w : World} (h : Fr w) (o : Obj) : Fr (w.alloc o) := h.below ((Below.refl w.heap.size _).alloc (Nat.le_refl _) _) h.lt
end Go.Proofs.YtaglhajlgnjhcaaDoor
