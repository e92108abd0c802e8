/- Two copies made in one statement: what lies where. -/
import Derived.Test.YtkbikngkhaeakaaBx
import Derived.Sort.Row
import Derived.Deep.CutRange
namespace Go.Proofs.Ytkbikngkhaeakaa
open Go.RowKit Go.Sort

theorem heap_at {W : World} {o : Obj} {n : Nat} (h : n = W.heap.size) : (W.alloc o).heap[n]? = some o := by rw [h]; exact heap_alloc_new W o
theorem atW {W w1 : World} {n : Nat} {o : Obj} (hb : Below W.heap.size W w1) (h : W.heap[n]? = some o) : w1.heap[n]? = some o := (hb.block n (Array.getElem?_eq_some_iff.1 h).1).trans h
theorem heap_alloc_old {w : World} {o : Obj} {k : Nat} (h : k < w.heap.size) : (w.alloc o).heap[k]? = w.heap[k]? := Below.heap_alloc w o k h
theorem cells3 {W : World} {b : Nat} {x y z : Value} {t : TypeId} (h : W.heap[b]? = some (.cells #[x, y, z] t (0, 0))) : W.cell? ⟨b, 0, none⟩ = some x ∧ W.cell? ⟨b, 1, none⟩ = some y ∧ W.cell? ⟨b, 2, none⟩ = some z ∧ (∀ i, W.frozen? ⟨b, i, none⟩ = false) ∧ b < W.heap.size :=
  ⟨by simp [World.cell?, h], by simp [World.cell?, h], by simp [World.cell?, h], fun i => by simp [World.frozen?, h], (Array.getElem?_eq_some_iff.1 h).1⟩
theorem set3_same {W : World} {B : Nat} {x y z x' y' z' : Value} {t : TypeId} (h : W.heap[B]? = some (.cells #[x, y, z] t (0, 0))) : (((W.setCell ⟨B, 0, none⟩ x').setCell ⟨B, 1, none⟩ y').setCell ⟨B, 2, none⟩ z').heap[B]? = some (.cells #[x', y', z'] t (0, 0)) := set3_heap h _ _ _
theorem set3_other {W : World} {B k : Nat} {x' y' z' : Value} (h : B ≠ k) : (((W.setCell ⟨B, 0, none⟩ x').setCell ⟨B, 1, none⟩ y').setCell ⟨B, 2, none⟩ z').heap[k]? = W.heap[k]? := by
  simp [setCell_eq, mapBlock, Array.getElem?_modify, h]
theorem below_set3 {B R : Nat} {w W : World} (h : Below B w W) (hR : B ≤ R) (x y z : Value) : Below B w (((W.setCell ⟨R, 0, none⟩ x).setCell ⟨R, 1, none⟩ y).setCell ⟨R, 2, none⟩ z) :=
  ((h.setCell (p := ⟨R, 0, none⟩) hR _).setCell (p := ⟨R, 1, none⟩) hR _).setCell (p := ⟨R, 2, none⟩) hR _
theorem bd0 {w1 w2 : World} (hb : Below w1.drew.heap.size w1.drew w2) : Below w1.heap.size w1 w2 := (Below.refl _ _).drew.trans hb
theorem be1 {w1 w2 : World} {o : Obj} (hb : Below (w1.alloc o).heap.size (w1.alloc o) w2) : Below w1.heap.size w1 w2 := (bal w1 o).trans (hb.mono (bal w1 o).size)
theorem be2 {w1 w2 : World} {o o' : Obj} (hb : Below ((w1.alloc o).alloc o').heap.size ((w1.alloc o).alloc o') w2) : Below w1.heap.size w1 w2 := be1 (be1 hb)
theorem bd1 {w1 w2 : World} {o : Obj} (hb : Below (w1.alloc o).drew.heap.size (w1.alloc o).drew w2) : Below w1.heap.size w1 w2 := be1 (bd0 hb)
theorem bd2 {w1 w2 : World} {o o' : Obj} (hb : Below ((w1.alloc o).alloc o').drew.heap.size ((w1.alloc o).alloc o').drew w2) : Below w1.heap.size w1 w2 := be2 (bd0 hb)
theorem ze1 {w1 w2 : World} {o : Obj} (hb : Below (w1.alloc o).heap.size (w1.alloc o) w2) : w2.heap[w1.heap.size]? = some o := atW hb (heap_at (W := w1) rfl)
theorem ze2 {w1 w2 : World} {o o' : Obj} (hb : Below ((w1.alloc o).alloc o').heap.size ((w1.alloc o).alloc o') w2) : w2.heap[w1.heap.size]? = some o ∧ w2.heap[w1.heap.size + 1]? = some o' :=
  ⟨atW hb ((heap_alloc_old (w := w1.alloc o) (by simp)).trans (heap_at (W := w1) rfl)), atW hb (heap_at (W := w1.alloc o) (by simp))⟩
theorem zz1 {w1 w2 : World} {o : Obj} (hb : Below (w1.alloc o).drew.heap.size (w1.alloc o).drew w2) : w2.heap[w1.heap.size]? = some o := ze1 (bd0 hb)
theorem zz2 {w1 w2 : World} {o o' : Obj} (hb : Below ((w1.alloc o).alloc o').drew.heap.size ((w1.alloc o).alloc o').drew w2) : w2.heap[w1.heap.size]? = some o ∧ w2.heap[w1.heap.size + 1]? = some o' := ze2 (bd0 hb)
/-- Two boxes at the world's edge. -/
structure Tw (w W : World) (x y z x' y' z' : Value) : Prop where
  a : W.heap[w.heap.size]? = some (.cells #[x, y, z] 24 (0, 0))
  r : W.heap[w.heap.size + 1]? = some (.cells #[x', y', z'] 24 (0, 0))
  b : Below w.heap.size w W
theorem Tw.start (w : World) (x y z x' y' z' : Value) : Tw w ((w.alloc (.cells #[x, y, z] 24)).alloc (.cells #[x', y', z'] 24)) x y z x' y' z' :=
  ⟨(heap_alloc_old (by simp)).trans (heap_alloc_new w _), by have := heap_alloc_new (w.alloc (.cells #[x, y, z] 24)) (.cells #[x', y', z'] 24); rw [World.size_alloc] at this; exact this, ((Below.refl _ _).alloc (Nat.le_refl _) _).alloc (by simp) _⟩
theorem Tw.below {w W W' : World} {x y z x' y' z' : Value} (h : Tw w W x y z x' y' z') (hb : Below W.heap.size W W') : Tw w W' x y z x' y' z' :=
  ⟨atW hb h.a, atW hb h.r, h.b.trans (hb.mono h.b.size)⟩
theorem Tw.alloc {w W : World} {x y z x' y' z' : Value} (h : Tw w W x y z x' y' z') (o : Obj) : Tw w (W.alloc o) x y z x' y' z' := h.below ((Below.refl _ _).alloc (Nat.le_refl _) _)
theorem Tw.s6 {w W : World} {x y z x' y' z' : Value} (h : Tw w W x y z x' y' z') : W.cell? ⟨w.heap.size, 0, none⟩ = some x ∧ W.cell? ⟨w.heap.size, 1, none⟩ = some y ∧ W.cell? ⟨w.heap.size, 2, none⟩ = some z ∧ W.cell? ⟨w.heap.size + 1, 0, none⟩ = some x' ∧ W.cell? ⟨w.heap.size + 1, 1, none⟩ = some y' ∧ W.cell? ⟨w.heap.size + 1, 2, none⟩ = some z' := by
  obtain ⟨a0, a1, a2, _, _⟩ := cells3 h.a
  obtain ⟨b0, b1, b2, _, _⟩ := cells3 h.r
  exact ⟨a0, a1, a2, b0, b1, b2⟩
theorem Tw.drew {w W : World} {x y z x' y' z' : Value} (h : Tw w W x y z x' y' z') : Tw w W.drew x y z x' y' z' := h.below (Below.refl _ _).drew
theorem Tw.set3 {w W : World} {x y z x' y' z' : Value} (h : Tw w W x y z x' y' z') {A : Nat} {u v t : Value} (hA : w.heap.size + 1 < A) : Tw w (((W.setCell ⟨A, 0, none⟩ u).setCell ⟨A, 1, none⟩ v).setCell ⟨A, 2, none⟩ t) x y z x' y' z' :=
  ⟨(set3_other (by omega)).trans h.a, (set3_other (by omega)).trans h.r, below_set3 h.b (by omega) u v t⟩
/-- A row that a call has made, in a block from F on and below N. -/
structure OF (F N : Nat) (W : World) (q : Option Addr) (L : List Int) (c : Nat) : Prop where
  o : OwnR F W q L c
  nl : ∀ a, q = some a → a.block < N
  nw : N ≤ W.heap.size
theorem OF.below {F N : Nat} {W W' : World} {q : Option Addr} {L : List Int} {c : Nat} (h : OF F N W q L c) (hb : Below W.heap.size W W') : OF F N W' q L c := ⟨h.o.to hb, h.nl, Nat.le_trans h.nw hb.size⟩
theorem OF.alloc {F N : Nat} {W : World} {q : Option Addr} {L : List Int} {c : Nat} (h : OF F N W q L c) (o : Obj) : OF F N (W.alloc o) q L c := h.below (bal _ _)
theorem OF.drew {F N : Nat} {W : World} {q : Option Addr} {L : List Int} {c : Nat} (h : OF F N W q L c) : OF F N W.drew q L c := h.below (Below.refl _ _).drew
theorem OF.set3 {F N : Nat} {W : World} {q : Option Addr} {L : List Int} {c : Nat} (h : OF F N W q L c) {R : Nat} {x y z : Value} (hR : R < F ∨ N ≤ R) : OF F N (((W.setCell ⟨R, 0, none⟩ x).setCell ⟨R, 1, none⟩ y).setCell ⟨R, 2, none⟩ z) q L c := by
  have h1 : ∀ x, q = some x → x.block ≠ R := fun x hx => by
    have := h.o.fr x hx; have := h.nl x hx; omega
  exact ⟨((h.o.setCell (a := ⟨R, 0, none⟩) h1 _).setCell (a := ⟨R, 1, none⟩) h1 _).setCell (a := ⟨R, 2, none⟩) h1 _, h.nl, by rw [set3_size]; exact h.nw⟩
theorem OF.of {F : Nat} {W : World} {q : Option Addr} {L : List Int} {c : Nat} (h : OwnR F W q L c) : OF F W.heap.size W q L c := ⟨h, h.lt, Nat.le_refl _⟩
section
variable {w1 W : World} {o o' : Obj} {q : Option Addr} {L : List Int} {c : Nat}
theorem oe0x (h : OwnR w1.heap.size W q L c) : ∃ F, F = w1.heap.size ∧ OF F W.heap.size W q L c := ⟨_, rfl, OF.of h⟩
theorem oe1x (h : OwnR (w1.alloc o).heap.size W q L c) : ∃ F, F = w1.heap.size + 1 ∧ OF F W.heap.size W q L c := ⟨_, rfl, OF.of (by rw [World.size_alloc] at h; exact h)⟩
theorem oe2x (h : OwnR ((w1.alloc o).alloc o').heap.size W q L c) : ∃ F, F = w1.heap.size + 2 ∧ OF F W.heap.size W q L c := ⟨_, rfl, OF.of (by rw [World.size_alloc, World.size_alloc] at h; exact h)⟩
theorem od0x (h : OwnR w1.drew.heap.size W q L c) : ∃ F, F = w1.heap.size ∧ OF F W.heap.size W q L c := ⟨_, rfl, OF.of h⟩
theorem od1x (h : OwnR (w1.alloc o).drew.heap.size W q L c) : ∃ F, F = w1.heap.size + 1 ∧ OF F W.heap.size W q L c := oe1x h
theorem od2x (h : OwnR ((w1.alloc o).alloc o').drew.heap.size W q L c) : ∃ F, F = w1.heap.size + 2 ∧ OF F W.heap.size W q L c := oe2x h
end
theorem size_drew (w : World) : w.drew.heap.size = w.heap.size := rfl
theorem BC.of {K F N : Nat} {wd rs : Int} {q : Option Addr} {L : List Int} {c : Nat} {W : World} (hb : W.heap[K]? = some (.cells #[.int .i64 wd, .int .i64 rs, .slice q L.length c] 24 (0, 0))) (h : OF F N W q L c) : BC K wd rs q L c W := ⟨hb, h.o.row, h.o.cm⟩
end Go.Proofs.Ytkbikngkhaeakaa
