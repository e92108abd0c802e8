/- Rows of numbers in memory; which rows of ids may be types. -/
import Derived.WalkKit
import Derived.Below

import Derived.Test.YtjnhalomkmdcgaaRfA
namespace Go.Proofs.Ytjnhalomkmdcgaa
open Go.RowKit

theorem hidOg {p : Prop} (h : p) : Hid p := h
theorem ret_bool {a b : Bool} (h : a = b) : Ending.returned (.bool a) = .returned (.bool b) := by rw [h]
theorem ret_int {k : IntKind} {a b : Int} (h : a = b) : Ending.returned (.int k a) = .returned (.int k b) := by rw [h]

/-- The k-th number of a row. -/
def iG (l : List Int) (k : Nat) : Int := l.getD k 0
/-- The slice that begins at p holds the numbers l, of the kind q, in a block below N. -/
def IRow (q : IntKind) (N : Nat) (w : World) (p : Option Addr) (l : List Int) : Prop :=
  0 < l.length → ∃ b off, p = some ⟨b, off, none⟩ ∧ b < N ∧ ∀ k, k < l.length → w.cell? ⟨b, off + k, none⟩ = some (.int q (iG l k))
theorem IRow.below {q : IntKind} {N M : Nat} {w w' : World} {p : Option Addr} {l : List Int} (h : IRow q N w p l) (hb : Below M w w') (hm : N ≤ M) : IRow q N w' p l := by
  intro h0
  obtain ⟨b, off, rfl, hN, hc⟩ := h h0
  exact ⟨b, off, rfl, hN, fun k hk => (hb.cell (p := ⟨b, off + k, none⟩) (by simp; omega)).trans (hc k hk)⟩
theorem IRow.mono {q : IntKind} {N M : Nat} {w : World} {p : Option Addr} {l : List Int} (h : IRow q N w p l) (hm : N ≤ M) : IRow q M w p l := by
  intro h0
  obtain ⟨b, off, rfl, hN, hc⟩ := h h0
  exact ⟨b, off, rfl, by omega, hc⟩
theorem IRow.nil {q : IntKind} {N : Nat} {w : World} {p : Option Addr} : IRow q N w p [] := fun h => by simp at h
theorem IRow.to {q : IntKind} {w w' : World} {p : Option Addr} {l : List Int} (h : IRow q w.heap.size w p l) (hb : Below w.heap.size w w') : IRow q w'.heap.size w' p l :=
  (h.below hb (Nat.le_refl _)).mono hb.size

/-- All of a row are numbers of 64 bits. -/
def U64 (l : List Int) : Prop := ∀ x ∈ l, 0 ≤ x ∧ x < 18446744073709551616
theorem iG_mem {l : List Int} {k : Nat} (h : k < l.length) : iG l k ∈ l := by
  have e : iG l k = l[k] := by simp [iG, h]
  rw [e]; exact List.getElem_mem h
theorem U64.at {l : List Int} (h : U64 l) {k : Nat} (hk : k < l.length) : 0 ≤ iG l k ∧ iG l k < 18446744073709551616 := h _ (iG_mem hk)

def paiK (x : Int) : Bool := decide (kindOf x = 3)
def canB (x : Int) : Bool := decide (kindOf x = 2) || paiK x
def okAt (l : List Int) (j : Nat) : Bool := !decide (j = 12) && canB (iG l j) && (decide (j = 0) || decide (iG l (j - 1) < iG l j))
def mayT (l : List Int) : Bool := (List.range l.length).all (okAt l)
theorem mayT_true {l : List Int} (h : ∀ j, j < l.length → okAt l j = true) : mayT l = true := by
  unfold mayT; rw [List.all_eq_true]; intro j hj; exact h j (by simpa using hj)
theorem mayT_false {l : List Int} (j : Nat) (hj : j < l.length) (h : okAt l j = false) : mayT l = false := by
  rw [Bool.eq_false_iff]; intro h'; unfold mayT at h'; rw [List.all_eq_true] at h'
  have := h' j (by simpa using hj); rw [h] at this; cases this
theorem mayT_at {l : List Int} (h : mayT l = true) (j : Nat) (hj : j < l.length) : okAt l j = true := by
  unfold mayT at h; rw [List.all_eq_true] at h; exact h j (by simpa using hj)
end Go.Proofs.Ytjnhalomkmdcgaa
