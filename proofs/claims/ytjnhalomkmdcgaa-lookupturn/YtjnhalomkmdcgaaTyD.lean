/- put, drop. -/
import Derived.Test.YtjnhalomkmdcgaaTyC
import Derived.Deep.RegionHeld3
namespace Go.Proofs.Ytjnhalomkmdcgaa
open Go.RowKit

theorem cat3 (p1 p2 p3 : Option Addr) (a b c : List Int) (x y z : Nat) : catN [(p1, a, x), (p2, b, y), (p3, c, z)] 3 = a ++ b ++ c := by simp [catN, rL]
theorem cat2 (p1 p2 : Option Addr) (a b : List Int) (x y : Nat) : catN [(p1, a, x), (p2, b, y)] 2 = a ++ b := by simp [catN, rL]

/-- A row in memory, with room for at least itself. -/
structure Row (w : World) (p : Option Addr) (l : List Int) (c : Nat) : Prop where
  i : IRow .u64 w.heap.size w p l
  r : l.length ≤ c
  n : l.length ≤ 1099511627776
  a : (p = none ∧ l = [] ∧ c = 0) ∨ ∃ b off, p = some ⟨b, off, none⟩
theorem Row.to {w w' : World} {p : Option Addr} {l : List Int} {c : Nat} (h : Row w p l c) (hb : Below w.heap.size w w') : Row w' p l c := ⟨h.i.to hb, h.r, h.n, h.a⟩
theorem Row.nil (w : World) : Row w none [] 0 := ⟨IRow.nil, by simp, by simp, .inl ⟨rfl, rfl, rfl⟩⟩

theorem iG_take {l : List Int} {i k : Nat} (h : k < i) : iG (l.take i) k = iG l k := by
  unfold iG; rw [List.getD_eq_getElem?_getD, List.getD_eq_getElem?_getD, List.getElem?_take_of_lt h]
theorem iG_drop (l : List Int) (i k : Nat) : iG (l.drop i) k = iG l (i + k) := by
  unfold iG; rw [List.getD_eq_getElem?_getD, List.getD_eq_getElem?_getD, List.getElem?_drop]
theorem IRow.take {q : IntKind} {N : Nat} {w : World} {p : Option Addr} {l : List Int} (h : IRow q N w p l) (i : Nat) : IRow q N w p (l.take i) := by
  intro h0
  have hl : (l.take i).length ≤ l.length := by simp; omega
  obtain ⟨b, off, rfl, hN, hc⟩ := h (by omega)
  refine ⟨b, off, rfl, hN, fun k hk => ?_⟩
  rw [iG_take (by simp at hk; omega)]
  exact hc k (by omega)
theorem IRow.drop {q : IntKind} {N : Nat} {w : World} {b off : Nat} {l : List Int} (h : IRow q N w (some ⟨b, off, none⟩) l) (i : Nat) : IRow q N w (some ⟨b, off + i, none⟩) (l.drop i) := by
  intro h0
  have hl : (l.drop i).length = l.length - i := by simp
  obtain ⟨b', off', e, hN, hc⟩ := h (by omega)
  cases e
  refine ⟨b, off + i, rfl, hN, fun k hk => ?_⟩
  rw [iG_drop, ← hc (i + k) (by omega), Nat.add_assoc]

theorem jrow_new {w : World} {R : List RR} {t : TypeId} (o : List Value) (ho : o = R.map fun r => Value.slice r.1 r.2.1.length r.2.2) (h : ∀ k, k < R.length → IRow .u64 w.heap.size w (rP R k) (rL R k)) :
    JRow (w.alloc (.cells o.toArray t)).drew.heap.size (w.alloc (.cells o.toArray t)).drew w.heap.size R := by
  intro k hk
  have hb : Below w.heap.size w (w.alloc (.cells o.toArray t)).drew := ((Below.refl w.heap.size w).alloc (Nat.le_refl _) _).drew
  refine ⟨?_, (h k hk).to hb⟩
  subst ho
  have hh : (w.alloc (.cells (R.map fun r => Value.slice r.1 r.2.1.length r.2.2).toArray t)).drew.heap[w.heap.size]? = some (.cells (R.map fun r => Value.slice r.1 r.2.1.length r.2.2).toArray t) := heap_alloc_new w _
  simp only [World.cell?]
  rw [hh]
  simp [rP, rL, rC, hk]

def putL (l : List Int) (i : Nat) (ids : List Int) : List Int := l.take i ++ ids ++ l.drop i
def dropL (l : List Int) (i : Nat) : List Int := l.take i ++ l.drop (i + 1)

/-- What comes is a row of the call's own. -/
def Own (l : List Int) (w : World) (e : Ending) (w' : World) : Prop := ∃ G, e = .returned (.slice (some ⟨G, 0, none⟩) l.length l.length) ∧ w.heap.size ≤ G ∧ w'.heap[G]? = some (.cells (cellsI .u64 l).toArray 41 (0, 0)) ∧ Below w.heap.size w w'

end Go.Proofs.Ytjnhalomkmdcgaa
