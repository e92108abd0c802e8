/- again: the last index of Free is taken, by one generation more. -/
import Derived.Test.YtaglhajlgnjhcaaDoorAlM
import Derived.Deep.RegionHeld3
import Derived.Deep.Cut
import Derived.Deep.CutRange
import Derived.Deep.DeepCutAuto
namespace Go.Proofs.YtaglhajlgnjhcaaDoor
open Go.RowKit

/-- The boxed argument x y z lies at w's end in W, a zero allocator for the result behind it. -/
structure BxA (w W : World) (x y z : Value) : Prop where
  a : W.heap[w.heap.size]? = some (.cells #[x, y, z] 25 (0, 0))
  r : W.heap[w.heap.size + 1]? = some (.cells #[.int .i64 0, .slice none 0 0, .slice none 0 0] 25 (0, 0))
  b : Below w.heap.size w W
  z : w.heap.size + 2 ≤ W.heap.size
theorem heap_alloc_old {w : World} {o : Obj} {k : Nat} (h : k < w.heap.size) : (w.alloc o).heap[k]? = w.heap[k]? := Below.heap_alloc w o k h
theorem BxA.start (w : World) (x y z : Value) : BxA w ((w.alloc (.cells #[x, y, z] 25)).alloc (.cells #[.int .i64 0, .slice none 0 0, .slice none 0 0] 25)).drew x y z :=
  ⟨(heap_alloc_old (by simp)).trans (heap_alloc_new w _), by have := heap_alloc_new (w.alloc (.cells #[x, y, z] 25)) (.cells #[.int .i64 0, .slice none 0 0, .slice none 0 0] 25); rw [World.size_alloc] at this; exact this, (((Below.refl _ _).alloc (Nat.le_refl _) _).alloc (by simp) _).drew, by simp [World.drew]⟩
theorem BxA.below {w W W' : World} {x y z : Value} (h : BxA w W x y z) (hb : Below W.heap.size W W') : BxA w W' x y z :=
  ⟨(hb.block _ (by have := h.z; omega)).trans h.a, (hb.block _ (by have := h.z; omega)).trans h.r, h.b.trans (hb.mono h.b.size), Nat.le_trans h.z hb.size⟩
theorem BxA.alloc {w W : World} {x y z : Value} (h : BxA w W x y z) (o : Obj) : BxA w (W.alloc o) x y z := h.below ((Below.refl _ _).alloc (Nat.le_refl _) _)
theorem cells3 {W : World} {b : Nat} {x y z : Value} {t : TypeId} (h : W.heap[b]? = some (.cells #[x, y, z] t (0, 0))) : W.cell? ⟨b, 0, none⟩ = some x ∧ W.cell? ⟨b, 1, none⟩ = some y ∧ W.cell? ⟨b, 2, none⟩ = some z ∧ (∀ i, W.frozen? ⟨b, i, none⟩ = false) ∧ b < W.heap.size :=
  ⟨by simp [World.cell?, h], by simp [World.cell?, h], by simp [World.cell?, h], fun i => by simp [World.frozen?, h], (Array.getElem?_eq_some_iff.1 h).1⟩
/-- Behind the first statement: the copy's box B, its slots' block G, its Free's block H. -/
structure Nx (w W : World) (m : Int) (l : List (Int × Bool)) (f : List Int) (x y z : Value) (B G H : Nat) : Prop where
  bx : BxA w W x y z
  hB : W.heap[B]? = some (.cells #[.int .i64 m, .slice (some ⟨G, 0, none⟩) l.length l.length, .slice (some ⟨H, 0, none⟩) f.length f.length] 25 (0, 0))
  hG : W.heap[G]? = some (.cells (cellsS l).toArray 61 (0, 0))
  hH : W.heap[H]? = some (.cells (cellsI .i64 f).toArray 3 (0, 0))
  lB : w.heap.size + 2 ≤ B
  lG : w.heap.size + 2 ≤ G
  lH : w.heap.size + 2 ≤ H
theorem zbox {W w1 : World} {o : Obj} (hb : Below (W.alloc o).heap.size (W.alloc o) w1) : w1.heap[W.heap.size]? = some o :=
  (hb.block W.heap.size (by simp)).trans (heap_alloc_new W o)

theorem zboxd {w w1 : World} {a b o : Obj} (hb : Below ((((w.alloc a).alloc b).alloc o).drew).heap.size (((w.alloc a).alloc b).alloc o).drew w1) : w1.heap[w.heap.size + 1 + 1]? = some o := by
  have e : w.heap.size + 1 + 1 = ((w.alloc a).alloc b).heap.size := by simp
  rw [e, hb.block _ (by simp [World.drew])]
  exact heap_alloc_new _ o
theorem zboxe {w w1 : World} {a b o : Obj} (hb : Below ((((w.alloc a).alloc b).drew).alloc o).heap.size ((((w.alloc a).alloc b).drew).alloc o) w1) : w1.heap[w.heap.size + 1 + 1]? = some o := zboxd hb
theorem set3far {W : World} {B b i : Nat} {x y z v : Value} (hne : B ≠ b) (h : W.cell? ⟨b, i, none⟩ = some v) : (((W.setCell ⟨B, 0, none⟩ x).setCell ⟨B, 1, none⟩ y).setCell ⟨B, 2, none⟩ z).cell? ⟨b, i, none⟩ = some v := by
  rw [World.cell?_setCell_far _ _ _ _ hne, World.cell?_setCell_far _ _ _ _ hne, World.cell?_setCell_far _ _ _ _ hne]; exact h

theorem set3_heap {W : World} {B : Nat} {x y z x' y' z' : Value} {t : TypeId} (h : W.heap[B]? = some (.cells #[x, y, z] t (0, 0))) : (((W.setCell ⟨B, 0, none⟩ x').setCell ⟨B, 1, none⟩ y').setCell ⟨B, 2, none⟩ z').heap[B]? = some (.cells #[x', y', z'] t (0, 0)) := by
  have h1 := heap_setCell_same W B 0 _ t x' h
  have h2 := heap_setCell_same _ B 1 _ t y' h1
  have h3 := heap_setCell_same _ B 2 _ t z' h2
  simpa using h3
theorem set3_other {W : World} {B k : Nat} {x' y' z' : Value} (h : B ≠ k) : (((W.setCell ⟨B, 0, none⟩ x').setCell ⟨B, 1, none⟩ y').setCell ⟨B, 2, none⟩ z').heap[k]? = W.heap[k]? := by
  rw [heap_setCell_other _ ⟨B, 2, none⟩ k _ (by simpa using Ne.symm h), heap_setCell_other _ ⟨B, 1, none⟩ k _ (by simpa using Ne.symm h), heap_setCell_other _ ⟨B, 0, none⟩ k _ (by simpa using Ne.symm h)]
theorem BxA.set3 {w W : World} {x y z : Value} (h : BxA w W x y z) {B : Nat} (hB : w.heap.size + 2 ≤ B) (x' y' z' : Value) : BxA w (((W.setCell ⟨B, 0, none⟩ x').setCell ⟨B, 1, none⟩ y').setCell ⟨B, 2, none⟩ z') x y z :=
  ⟨(set3_other (by omega)).trans h.a, (set3_other (by omega)).trans h.r, ((h.b.setCell (p := ⟨B, 0, none⟩) (by simp; omega) _).setCell (p := ⟨B, 1, none⟩) (by simp; omega) _).setCell (p := ⟨B, 2, none⟩) (by simp; omega) _, by simpa using h.z⟩
theorem cellG {W : World} {G : Nat} {l : List (Int × Bool)} {t : TypeId} (h : W.heap[G]? = some (.cells (cellsS l).toArray t (0, 0))) (j : Nat) (hj : j < l.length) : W.cell? ⟨G, j * 2, none⟩ = some (.int .i64 (sG l j)) ∧ W.cell? ⟨G, j * 2 + 1, none⟩ = some (.bool (sA l j)) ∧ (∀ i, W.frozen? ⟨G, i, none⟩ = false) ∧ G < W.heap.size :=
  ⟨by simpa [World.cell?, h] using (cellsS_even l j hj).1, by simpa [World.cell?, h] using (cellsS_even l j hj).2, fun i => by simp [World.frozen?, h], (Array.getElem?_eq_some_iff.1 h).1⟩
theorem cellH {W : World} {H : Nat} {f : List Int} {q : IntKind} {t : TypeId} (h : W.heap[H]? = some (.cells (cellsI q f).toArray t (0, 0))) (j : Nat) (hj : j < f.length) : W.cell? ⟨H, j, none⟩ = some (.int q (iG f j)) ∧ (∀ i, W.frozen? ⟨H, i, none⟩ = false) ∧ H < W.heap.size :=
  ⟨by simp [World.cell?, h, cellsI, iG, hj], fun i => by simp [World.frozen?, h], (Array.getElem?_eq_some_iff.1 h).1⟩
theorem Nx.neBG {w W : World} {m : Int} {l : List (Int × Bool)} {f : List Int} {x y z : Value} {B G H : Nat} (h : Nx w W m l f x y z B G H) : B ≠ G := fun e => by have h1 := h.hB; have h2 := h.hG; rw [e, h2] at h1; simp at h1
theorem Nx.neBH {w W : World} {m : Int} {l : List (Int × Bool)} {f : List Int} {x y z : Value} {B G H : Nat} (h : Nx w W m l f x y z B G H) : B ≠ H := fun e => by have h1 := h.hB; have h2 := h.hH; rw [e, h2] at h1; simp at h1
theorem Nx.neGH {w W : World} {m : Int} {l : List (Int × Bool)} {f : List Int} {x y z : Value} {B G H : Nat} (h : Nx w W m l f x y z B G H) : G ≠ H := fun e => by have h1 := h.hG; have h2 := h.hH; rw [e, h2] at h1; simp at h1
theorem Nx.late {w w2 : World} {m : Int} {l : List (Int × Bool)} {f : List Int} {x y z : Value} {G H : Nat} (K : BxA w w2 x y z) (hG : w2.heap[G]? = some (.cells (cellsS l).toArray 61 (0, 0))) (hH : w2.heap[H]? = some (.cells (cellsI .i64 f).toArray 3 (0, 0))) (lG : w.heap.size + 2 ≤ G) (lH : w.heap.size + 2 ≤ H) :
    Nx w (w2.alloc (.cells #[.int .i64 m, .slice (some ⟨G, 0, none⟩) l.length l.length, .slice (some ⟨H, 0, none⟩) f.length f.length] 25)) m l f x y z w2.heap.size G H :=
  ⟨K.alloc _, heap_alloc_new _ _, (heap_alloc_old (Array.getElem?_eq_some_iff.1 hG).1).trans hG, (heap_alloc_old (Array.getElem?_eq_some_iff.1 hH).1).trans hH, K.z, lG, lH⟩
theorem Nx.early {w w2 : World} {m : Int} {l : List (Int × Bool)} {f : List Int} {x y z u v t : Value} {B G H : Nat} (K : BxA w w2 x y z) (hB : w2.heap[B]? = some (.cells #[u, v, t] 25 (0, 0))) (hG : w2.heap[G]? = some (.cells (cellsS l).toArray 61 (0, 0))) (hH : w2.heap[H]? = some (.cells (cellsI .i64 f).toArray 3 (0, 0))) (lB : w.heap.size + 2 ≤ B) (lG : w.heap.size + 2 ≤ G) (lH : w.heap.size + 2 ≤ H) :
    Nx w (((w2.setCell ⟨B, 0, none⟩ (.int .i64 m)).setCell ⟨B, 1, none⟩ (.slice (some ⟨G, 0, none⟩) l.length l.length)).setCell ⟨B, 2, none⟩ (.slice (some ⟨H, 0, none⟩) f.length f.length)) m l f x y z B G H :=
  ⟨K.set3 lB _ _ _, set3_heap hB, (set3_other (fun e => by subst e; rw [hB] at hG; simp at hG)).trans hG, (set3_other (fun e => by subst e; rw [hB] at hH; simp at hH)).trans hH, lB, lG, lH⟩

theorem cellsS_set (l : List (Int × Bool)) (j : Nat) (g : Int) (a : Bool) : ((cellsS l).set (j * 2) (.int .i64 g)).set (j * 2 + 1) (.bool a) = cellsS (l.set j (g, a)) := by
  induction l generalizing j with
  | nil => rfl
  | cons s l ih =>
    cases j with
    | zero => rfl
    | succ j =>
      have e : (j + 1) * 2 = j * 2 + 1 + 1 := by omega
      rw [e]
      simp only [cellsS, List.set_cons_succ]
      rw [← ih j]
/-- A new allocator that lies in w': its slots' block G, its Free's block H, both laid since w. -/
structure AOwn (w w' : World) (G : Nat) (l : List (Int × Bool)) (H : Nat) (f : List Int) : Prop where
  g : w'.heap[G]? = some (.cells (cellsS l).toArray 61 (0, 0))
  h : ∃ r, w'.heap[H]? = some (.cells (cellsI .i64 (f ++ r)).toArray 3 (0, 0))
  lg : w.heap.size ≤ G
  lh : w.heap.size ≤ H
  b : Below w.heap.size w w'
theorem srow_heap {W : World} {G : Nat} {l : List (Int × Bool)} {t : TypeId} (h : W.heap[G]? = some (.cells (cellsS l).toArray t (0, 0))) : SRow W.heap.size W (some ⟨G, 0, none⟩) l := fun _ =>
  ⟨G, 0, rfl, (Array.getElem?_eq_some_iff.1 h).1, fun k hk => by have := cellG h k hk; rw [Nat.zero_add]; exact ⟨this.1, this.2.1⟩⟩
theorem iG_append {f r : List Int} {k : Nat} (h : k < f.length) : iG (f ++ r) k = iG f k := by simp [iG, h, List.getElem?_append_left h]
theorem irow_heap {W : World} {H : Nat} {f r : List Int} {q : IntKind} {t : TypeId} (h : W.heap[H]? = some (.cells (cellsI q (f ++ r)).toArray t (0, 0))) : IRow q W.heap.size W (some ⟨H, 0, none⟩) f := fun _ =>
  ⟨H, 0, rfl, (Array.getElem?_eq_some_iff.1 h).1, fun k hk => by have := cellH h k (by simp; omega); rw [Nat.zero_add, this.1, iG_append hk]⟩
theorem AOwn.in {w w' : World} {G H : Nat} {l : List (Int × Bool)} {f : List Int} (h : AOwn w w' G l H f) (hF : Fr w) (h1 : l.length ≤ 8796093022208) (h2 : f.length ≤ 8796093022208) : AIn w' (some ⟨G, 0, none⟩) l (some ⟨H, 0, none⟩) f := by
  obtain ⟨r, hr⟩ := h.h
  exact ⟨hF.below h.b hF.lt, srow_heap h.g, irow_heap hr, h1, h2⟩
/-- Behind the writes: as Nx, with one index less, and the box X of the slot. -/
structure Ny (w W : World) (m : Int) (l : List (Int × Bool)) (f : List Int) (k : Nat) (g : Int) (x y z : Value) (B G H X : Nat) : Prop where
  bx : BxA w W x y z
  hB : W.heap[B]? = some (.cells #[.int .i64 m, .slice (some ⟨G, 0, none⟩) l.length l.length, .slice (some ⟨H, 0, none⟩) k k] 25 (0, 0))
  hG : W.heap[G]? = some (.cells (cellsS l).toArray 61 (0, 0))
  hH : W.heap[H]? = some (.cells (cellsI .i64 f).toArray 3 (0, 0))
  hX : W.heap[X]? = some (.cells #[.int .i64 g, .bool true] 61 (0, 0))
  lB : w.heap.size + 2 ≤ B
  lG : w.heap.size + 2 ≤ G
  lH : w.heap.size + 2 ≤ H
  lX : w.heap.size + 2 ≤ X
theorem Ny.below {w W W' : World} {m : Int} {l : List (Int × Bool)} {f : List Int} {k : Nat} {g : Int} {x y z : Value} {B G H X : Nat} (h : Ny w W m l f k g x y z B G H X) (hb : Below W.heap.size W W') : Ny w W' m l f k g x y z B G H X :=
  ⟨h.bx.below hb, (hb.block _ (Array.getElem?_eq_some_iff.1 h.hB).1).trans h.hB, (hb.block _ (Array.getElem?_eq_some_iff.1 h.hG).1).trans h.hG, (hb.block _ (Array.getElem?_eq_some_iff.1 h.hH).1).trans h.hH, (hb.block _ (Array.getElem?_eq_some_iff.1 h.hX).1).trans h.hX, h.lB, h.lG, h.lH, h.lX⟩
theorem Nx.step {w W : World} {m : Int} {l : List (Int × Bool)} {f : List Int} {x y z : Value} {B G H : Nat} (h : Nx w W m l f x y z B G H) (k j : Nat) (g : Int) :
    Ny w ((((W.setCell ⟨B, 2, none⟩ (.slice (some ⟨H, 0, none⟩) k k)).setCell ⟨G, j * 2, none⟩ (.int .i64 g)).setCell ⟨G, j * 2 + 1, none⟩ (.bool true)).alloc (.cells #[.int .i64 g, .bool true] 61)) m (l.set j (g, true)) f k g x y z B G H W.heap.size := by
  have n1 := h.neBG
  have n2 := h.neBH
  have n3 := h.neGH
  have lB := h.lB
  have lG := h.lG
  have lH := h.lH
  have hO : ∀ i, i ≠ B → i ≠ G → (((W.setCell ⟨B, 2, none⟩ (.slice (some ⟨H, 0, none⟩) k k)).setCell ⟨G, j * 2, none⟩ (.int .i64 g)).setCell ⟨G, j * 2 + 1, none⟩ (.bool true)).heap[i]? = W.heap[i]? := fun i h1 h2 => by
    rw [heap_setCell_other _ _ _ _ (by simpa using h2), heap_setCell_other _ _ _ _ (by simpa using h2), heap_setCell_other _ _ _ _ (by simpa using h1)]
  have hs : (((W.setCell ⟨B, 2, none⟩ (.slice (some ⟨H, 0, none⟩) k k)).setCell ⟨G, j * 2, none⟩ (.int .i64 g)).setCell ⟨G, j * 2 + 1, none⟩ (.bool true)).heap.size = W.heap.size := by simp
  have hb : Below w.heap.size w (((W.setCell ⟨B, 2, none⟩ (.slice (some ⟨H, 0, none⟩) k k)).setCell ⟨G, j * 2, none⟩ (.int .i64 g)).setCell ⟨G, j * 2 + 1, none⟩ (.bool true)) :=
    ((h.bx.b.setCell (p := ⟨B, 2, none⟩) (by simp; omega) _).setCell (p := ⟨G, j * 2, none⟩) (by simp; omega) _).setCell (p := ⟨G, j * 2 + 1, none⟩) (by simp; omega) _
  have hB' : (((W.setCell ⟨B, 2, none⟩ (.slice (some ⟨H, 0, none⟩) k k)).setCell ⟨G, j * 2, none⟩ (.int .i64 g)).setCell ⟨G, j * 2 + 1, none⟩ (.bool true)).heap[B]? = some (.cells #[.int .i64 m, .slice (some ⟨G, 0, none⟩) (l.set j (g, true)).length (l.set j (g, true)).length, .slice (some ⟨H, 0, none⟩) k k] 25 (0, 0)) := by
    rw [heap_setCell_other _ _ _ _ (by simpa using n1), heap_setCell_other _ _ _ _ (by simpa using n1), heap_setCell_same W B 2 _ 25 _ h.hB]; simp
  have hG' : (((W.setCell ⟨B, 2, none⟩ (.slice (some ⟨H, 0, none⟩) k k)).setCell ⟨G, j * 2, none⟩ (.int .i64 g)).setCell ⟨G, j * 2 + 1, none⟩ (.bool true)).heap[G]? = some (.cells (cellsS (l.set j (g, true))).toArray 61 (0, 0)) := by
    have h0 : (W.setCell ⟨B, 2, none⟩ (.slice (some ⟨H, 0, none⟩) k k)).heap[G]? = some (.cells (cellsS l).toArray 61 (0, 0)) := (heap_setCell_other _ _ _ _ (by simpa using Ne.symm n1)).trans h.hG
    have h1 := heap_setCell_same _ G (j * 2) _ 61 (.int .i64 g) h0
    rw [heap_setCell_same _ G (j * 2 + 1) _ 61 (.bool true) h1, ← cellsS_set]; simp
  have z := h.bx.z
  have ltB := (Array.getElem?_eq_some_iff.1 hB').1
  have ltG := (Array.getElem?_eq_some_iff.1 hG').1
  have hH' := (hO H (Ne.symm n2) (Ne.symm n3)).trans h.hH
  have ltH := (Array.getElem?_eq_some_iff.1 hH').1
  refine ⟨BxA.alloc ⟨(hO _ (by omega) (by omega)).trans h.bx.a, (hO _ (by omega) (by omega)).trans h.bx.r, hb, by rw [hs]; exact z⟩ _, (heap_alloc_old ltB).trans hB', (heap_alloc_old ltG).trans hG', (heap_alloc_old ltH).trans hH', ?_, lB, lG, lH, z⟩
  have := heap_alloc_new (((W.setCell ⟨B, 2, none⟩ (.slice (some ⟨H, 0, none⟩) k k)).setCell ⟨G, j * 2, none⟩ (.int .i64 g)).setCell ⟨G, j * 2 + 1, none⟩ (.bool true)) (.cells #[.int .i64 g, .bool true] 61)
  rw [hs] at this
  exact this

end Go.Proofs.YtaglhajlgnjhcaaDoor
