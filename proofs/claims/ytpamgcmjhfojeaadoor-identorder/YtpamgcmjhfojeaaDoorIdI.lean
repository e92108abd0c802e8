/- What ident.guess reads off a text, rune by rune, and the memory that its loop keeps. -/
import Derived.Test.YtpamgcmjhfojeaaDoorIdH
import Derived.Lib.OthersKept
import Derived.Laws.RangeAny
import Derived.Lib.RuneCount
import Derived.WalkMore
import Derived.WalkSmall
namespace Go.Proofs.YtpamgcmjhfojeaaDoor
open Go.RowKit Go.Maps

/-- One step of reading: does it stop, and the state behind it (kind, place, two numbers). -/
def gstep (pos : Nat) (r : Int) (k p a b : Int) : Bool × Int × Int × Int × Int :=
  if pos = 0 then (decide (letK r = 0), letK r, p, a, b)
  else if 48 ≤ r ∧ r ≤ 57 then
    if p = 0 then (decide (1048578 < 10 * a + (r - 48)), k, p, 10 * a + (r - 48), b)
    else (decide (1048578 < 10 * b + (r - 48)), k, p, a, 10 * b + (r - 48))
  else if p = 0 ∧ (r = 46 ∨ r = 58) then (false, k, 1, a, b)
  else (decide (r ≠ 42), k, p, a, b)

/-- A relation is closed under reading: at the text's end, at a step that stops, at a step that goes on. -/
def Closed (s : ByteArray) (R : Nat → Int → Int → Int → Int → Int × Int × Int × Int → Prop) : Prop :=
  (∀ (pos : Nat) (k p a b : Int), ¬ pos < s.size → R pos k p a b (k, p, a, b)) ∧
  (∀ (pos : Nat) (k p a b k' p' a' b' : Int), pos < s.size → gstep pos ((Utf8.decode s pos).1 : Int) k p a b = (true, k', p', a', b') → R pos k p a b (k', p', a', b')) ∧
  (∀ (pos : Nat) (k p a b k' p' a' b' : Int) (f : Int × Int × Int × Int), pos < s.size → gstep pos ((Utf8.decode s pos).1 : Int) k p a b = (false, k', p', a', b') → R (pos + (Utf8.decode s pos).2) k' p' a' b' f → R pos k p a b f)
/-- From a place and a state reading comes to an end in a state: the least closed relation. -/
def GR (s : ByteArray) (pos : Nat) (k p a b : Int) (f : Int × Int × Int × Int) : Prop := ∀ R, Closed s R → R pos k p a b f
theorem GR.done {s : ByteArray} {pos : Nat} {k p a b : Int} (h : ¬ pos < s.size) : GR s pos k p a b (k, p, a, b) := fun _ c => c.1 _ _ _ _ _ h
theorem GR.stop {s : ByteArray} {pos : Nat} {k p a b k' p' a' b' : Int} (h : pos < s.size) (g : gstep pos ((Utf8.decode s pos).1 : Int) k p a b = (true, k', p', a', b')) : GR s pos k p a b (k', p', a', b') := fun _ c => c.2.1 _ _ _ _ _ _ _ _ _ h g
theorem GR.go {s : ByteArray} {pos : Nat} {k p a b k' p' a' b' : Int} {f : Int × Int × Int × Int} (h : pos < s.size) (g : gstep pos ((Utf8.decode s pos).1 : Int) k p a b = (false, k', p', a', b')) (r : GR s (pos + (Utf8.decode s pos).2) k' p' a' b' f) : GR s pos k p a b f := fun R c => c.2.2 _ _ _ _ _ _ _ _ _ _ h g (r R c)

/-- What the loop keeps in memory. -/
structure GW (s : ByteArray) (w : World) (M A I : Nat) (a b : Int) (pos : Nat) (wr : World) : Prop where
  it : wr.heap[I]? = some (.stringIter s pos)
  c0 : wr.cell? ⟨A, 0, none⟩ = some (.int .i64 a)
  c1 : wr.cell? ⟨A, 1, none⟩ = some (.int .i64 b)
  f0 : wr.frozen? ⟨A, 0, none⟩ = false
  f1 : wr.frozen? ⟨A, 1, none⟩ = false
  own : wr.ownsMap Tryd.prog 21 (plainElem (H := Unit) Tryd.prog 3) M 3 letD
  bel : Below w.heap.size w wr
  mA : M ≠ A
  mI : M ≠ I
  aI : A ≠ I
  wA : w.heap.size ≤ A
  wI : w.heap.size ≤ I

theorem GW.iterAt {s : ByteArray} {w : World} {M A I : Nat} {a b : Int} {pos : Nat} {wr : World} (h : GW s w M A I a b pos wr) (pos' : Nat) : GW s w M A I a b pos' (wr.iterAt I s pos') where
  it := Lib.iterAt_heap wr I s pos pos' h.it
  c0 := (World.cell?_of_block (w := wr) (Lib.iterAt_other wr I A s pos' h.aI)).trans h.c0
  c1 := (World.cell?_of_block (w := wr) (Lib.iterAt_other wr I A s pos' h.aI)).trans h.c1
  f0 := (World.frozen?_of_block (w := wr) (Lib.iterAt_other wr I A s pos' h.aI)).trans h.f0
  f1 := (World.frozen?_of_block (w := wr) (Lib.iterAt_other wr I A s pos' h.aI)).trans h.f1
  own := by
    obtain ⟨es, clock, hb, F, hn, hD⟩ := h.own
    exact ⟨es, clock, by rw [Lib.iterAt_other wr I M s pos' h.mI]; exact hb, F, hn, hD⟩
  bel := Lib.below_iterAt h.bel h.wI s pos'
  mA := h.mA
  mI := h.mI
  aI := h.aI
  wA := h.wA
  wI := h.wI

theorem GW.set0 {s : ByteArray} {w : World} {M A I : Nat} {a b : Int} {pos : Nat} {wr : World} (h : GW s w M A I a b pos wr) (n : Int) : GW s w M A I n b pos (wr.setCell ⟨A, 0, none⟩ (.int .i64 n)) where
  it := by rw [Below.heap_setCell wr _ _ I (by exact fun e => h.aI e.symm)]; exact h.it
  c0 := by have := h.c0; simp [go_sem, this]
  c1 := by have := h.c1; simp [go_sem, this]
  f0 := by have := h.f0; simp [go_sem, this]
  f1 := by have := h.f1; simp [go_sem, this]
  own := by
    obtain ⟨es, clock, hb, F, hn, hD⟩ := h.own
    exact ⟨es, clock, by rw [Below.heap_setCell wr _ _ M (by exact h.mA)]; exact hb, F, hn, hD⟩
  bel := h.bel.setCell (by exact h.wA) _
  mA := h.mA
  mI := h.mI
  aI := h.aI
  wA := h.wA
  wI := h.wI
theorem GW.set1 {s : ByteArray} {w : World} {M A I : Nat} {a b : Int} {pos : Nat} {wr : World} (h : GW s w M A I a b pos wr) (n : Int) : GW s w M A I a n pos (wr.setCell ⟨A, 1, none⟩ (.int .i64 n)) where
  it := by rw [Below.heap_setCell wr _ _ I (by exact fun e => h.aI e.symm)]; exact h.it
  c0 := by have := h.c0; simp [go_sem, this]
  c1 := by have := h.c1; simp [go_sem, this]
  f0 := by have := h.f0; simp [go_sem, this]
  f1 := by have := h.f1; simp [go_sem, this]
  own := by
    obtain ⟨es, clock, hb, F, hn, hD⟩ := h.own
    exact ⟨es, clock, by rw [Below.heap_setCell wr _ _ M (by exact h.mA)]; exact hb, F, hn, hD⟩
  bel := h.bel.setCell (by exact h.wA) _
  mA := h.mA
  mI := h.mI
  aI := h.aI
  wA := h.wA
  wI := h.wI
theorem GW.iterPos {s : ByteArray} {w : World} {M A I : Nat} {a b : Int} {pos : Nat} {wr : World} (h : GW s w M A I a b pos wr) : wr.iterPos I = pos := by
  have := h.it; simp [World.iterPos, this]
/-- The step of the iterator, with the world behind it under a name. -/
theorem GW.next {s : ByteArray} {w : World} {M A I : Nat} {a b : Int} {pos : Nat} {wr : World} (h : GW s w M A I a b pos wr) (hlt : pos < s.size) :
    ∃ W2, (∀ ty, (Instr.next (.pointer (some ⟨I, 0, none⟩)) true ty).run Tryd.prog wr = .ok (.tuple #[.bool true, .int .i64 pos, .int .i32 (Utf8.decode s pos).1]) W2) ∧ GW s w M A I a b (pos + (Utf8.decode s pos).2) W2 :=
  ⟨_, fun ty => Lib.run_next_any_at wr I s pos ty h.it hlt, h.iterAt _⟩
theorem GW.nextEnd {s : ByteArray} {w : World} {M A I : Nat} {a b : Int} {pos : Nat} {wr : World} (h : GW s w M A I a b pos wr) (hlt : ¬ pos < s.size) :
    ∀ ty, (Instr.next (.pointer (some ⟨I, 0, none⟩)) true ty).run Tryd.prog wr = .ok (.tuple #[.bool false]) wr :=
  fun ty => Lib.run_next_end_at wr I s pos ty h.it hlt
theorem wfi32 (r : Int) (h0 : 0 ≤ r) (h1 : r ≤ 2147483647) : (Lit.int .i32 r).wf = true := by
  have a : IntKind.i32.min = -2147483648 := by decide
  have b : IntKind.i32.max = 2147483647 := by decide
  simp [Lit.wf, a, b]; omega
theorem GW.look {s : ByteArray} {w : World} {M A I : Nat} {a b : Int} {pos : Nat} {wr : World} (h : GW s w M A I a b pos wr) (r : Int) (h0 : 0 ≤ r) (h1 : r ≤ 2147483647) :
    (Instr.lookup 63 (.map (some M)) (.int .i32 r) false).run Tryd.prog wr = .ok (.int .i64 (letK r)) wr := by
  obtain ⟨c, hrun, hat, _⟩ := h.own.lookup_int keyLaw Tryd.underlying63 Tryd.underlying3 (zero3 _) (keyOf_int_mk Tryd.underlying21 (a := r) (wfi32 r h0 h1))
  rw [letD_at] at hat
  simp at hat
  rw [hat]; exact hrun
end Go.Proofs.YtpamgcmjhfojeaaDoor
