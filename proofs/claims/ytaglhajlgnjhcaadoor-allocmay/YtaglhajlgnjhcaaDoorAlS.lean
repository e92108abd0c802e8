/- The sort of a row of the call's own; Give's loop in plain words. -/
import Derived.Test.YtaglhajlgnjhcaaDoorAlQ
import Derived.Test.YtaglhajlgnjhcaaDoorShelf
import Derived.Sort.OwnSortedInts
namespace Go.Proofs.YtaglhajlgnjhcaaDoor
open Go.RowKit Go.Sort

def srt (l : List Int) : List Int := l.mergeSort fun x y => decide (x ≤ y)
theorem srt_len (l : List Int) : (srt l).length = l.length := List.length_mergeSort _

theorem sort54 (base : Nat) (v : Value) (left : List Int) (w : World) (hown : w.ownsRow base 3 1 v left.length (cellsI .i64 left)) (hn : left.length < 4611686018427387904) :
    Calls Tryd.prog 54 #[v] w fun e w' => e = .returned (.tuple #[]) ∧ w'.ownsRow base 3 1 v left.length (cellsI .i64 (srt left)) ∧ w.grownBy w' v.ownBlock := by
  rcases hown.2 with ⟨rfl, h0⟩ | ⟨g, cap, cur, rfl, hbase, hb, h1, h2, h3, h4⟩
  · obtain rfl : left = [] := List.eq_nil_of_length_eq_zero h0
    refine (Tryd.slices_Sort_int_none none 0 w).mono ?_
    rintro e w' ⟨rfl, rfl⟩
    exact ⟨rfl, by simpa [srt] using hown, World.grownBy.refl _ _⟩
  · have hH : Holds (Value.int .i64) w g 0 left.toArray := holds_of_blockI hb (by simpa [cellsI] using h4)
    refine (Tryd.slices_Sort_int g 0 cap left w hH (Array.getElem?_eq_some_iff.1 hb).1 hn).mono ?_
    rintro e w' ⟨rfl, n, os, rfl⟩
    exact ⟨rfl, ownsRow_sortedI (ts := srt left) (srt_len left) hbase hb h1 h2 h3, grownBy_sortedI _⟩

/-- One entity is given: the slots, and the indexes that are left. -/
def gStep (s : List (Int × Bool) × List Int) (x : Int) : Option (List (Int × Bool) × List Int) :=
  if decide (p1 x ≤ 2) || !sA s.1 (p1 x - 1).toNat then none
  else some (s.1.set (p1 x - 1).toNat (sG s.1 (p1 x - 1).toNat, false), s.2 ++ if usB (sG s.1 (p1 x - 1).toNat) false then [p1 x] else [])
def gRun (l : List (Int × Bool)) (ids : List Int) : Nat → Option (List (Int × Bool) × List Int)
  | 0 => some (l, [])
  | k + 1 => (gRun l ids k).bind fun s => gStep s (iG ids k)
theorem gStep_len {s t : List (Int × Bool) × List Int} {x : Int} (h : gStep s x = some t) : t.1.length = s.1.length ∧ t.2.length ≤ s.2.length + 1 := by
  unfold gStep at h
  split at h
  · cases h
  · cases h; refine ⟨by simp, ?_⟩; simp; split <;> simp
theorem gRun_len {l : List (Int × Bool)} {ids : List Int} : ∀ {k : Nat} {t : List (Int × Bool) × List Int}, gRun l ids k = some t → t.1.length = l.length ∧ t.2.length ≤ k
  | 0, t, h => by cases h; simp
  | k + 1, t, h => by
    unfold gRun at h
    cases hk : gRun l ids k with
    | none => rw [hk] at h; cases h
    | some s =>
      rw [hk] at h
      have h1 := gRun_len hk
      have h2 := gStep_len (show gStep s (iG ids k) = some t from h)
      omega
theorem gRun_none {l : List (Int × Bool)} {ids : List Int} {k n : Nat} (h : gRun l ids k = none) (hn : k ≤ n) : gRun l ids n = none := by
  induction n with
  | zero => obtain rfl : k = 0 := by omega
            exact h
  | succ n ih =>
    by_cases e : k = n + 1
    · subst e; exact h
    · unfold gRun; rw [ih (by omega)]; rfl
theorem gRun_succ {l : List (Int × Bool)} {ids : List Int} {k : Nat} {s : List (Int × Bool) × List Int} (h : gRun l ids k = some s) : gRun l ids (k + 1) = gStep s (iG ids k) := by
  show (gRun l ids k).bind _ = _; rw [h]; rfl

/-- What lies behind k rounds of Give's loop: the slots in block G, the indexes that are left in v's row. -/
structure Gv (W0 wr : World) (l : List (Int × Bool)) (left : List Int) (v : Value) : Prop where
  g : wr.heap[W0.heap.size]? = some (.cells (cellsS l).toArray 61 (0, 0))
  own : wr.ownsRow (W0.heap.size + 1) 3 1 v left.length (cellsI .i64 left)
  b : Below W0.heap.size W0 wr
theorem Gv.below {W0 wr wr' : World} {l : List (Int × Bool)} {left : List Int} {v : Value} (h : Gv W0 wr l left v) (hb : Below wr.heap.size wr wr') : Gv W0 wr' l left v :=
  ⟨(hb.block _ (Array.getElem?_eq_some_iff.1 h.g).1).trans h.g, h.own.kept (row := none) ⟨hb.os, hb.tape, hb.output, hb.size, fun k hk _ => hb.block k hk⟩ (by cases v.ownBlock <;> simp), h.b.trans (hb.mono h.b.size)⟩
theorem Gv.set {W0 wr : World} {l : List (Int × Bool)} {left : List Int} {v : Value} (h : Gv W0 wr l left v) (j : Nat) : Gv W0 (wr.setCell ⟨W0.heap.size, j * 2 + 1, none⟩ (.bool false)) (l.set j (sG l j, false)) left v := by
  refine ⟨?_, ?_, h.b.setCell (p := ⟨W0.heap.size, j * 2 + 1, none⟩) (Nat.le_refl _) _⟩
  · rw [heap_setCell_same wr W0.heap.size (j * 2 + 1) _ 61 (.bool false) h.g, ← cellsS_set]
    by_cases hj : j < l.length
    · have := (cellsS_even l j hj).1
      obtain ⟨hlt, hv⟩ := List.getElem?_eq_some_iff.1 this
      have e : (cellsS l).set (j * 2) (.int .i64 (sG l j)) = cellsS l := by
        apply List.ext_getElem?
        intro i
        rw [List.getElem?_set]
        split
        · rename_i hi; subst hi; rw [this]
        · rfl
      rw [e]; simp
    · have e1 : (cellsS l).length ≤ j * 2 := by rw [cellsS_len]; omega
      rw [List.set_eq_of_length_le e1]; simp
  · refine h.own.kept (row := some W0.heap.size) ⟨rfl, rfl, rfl, by simp, fun k _ hk => heap_setCell_other _ _ _ _ (fun e => hk (by rw [e]))⟩ ?_
    rcases h.own.2 with ⟨rfl, _⟩ | ⟨g, cap, cur, rfl, hbase, _⟩
    · exact .inl rfl
    · refine .inr ?_; simp [Value.ownBlock]; omega
theorem Gv.app {W0 wr w1 : World} {l : List (Int × Bool)} {left left' : List Int} {v v' : Value} {o : Obj} (h : Gv W0 wr l left v) (hown : w1.ownsRow (W0.heap.size + 1) 3 1 v' left'.length (cellsI .i64 left')) (hg : (wr.alloc o).grownBy w1 v.ownBlock) : Gv W0 w1 l left' v' := by
  have hlt := (Array.getElem?_eq_some_iff.1 h.g).1
  refine ⟨?_, hown, ?_⟩
  · rw [hg.block W0.heap.size (by simp; omega) ?_]
    · exact (heap_alloc_old hlt).trans h.g
    · rcases h.own.2 with ⟨rfl, _⟩ | ⟨g, cap, cur, rfl, hbase, _⟩
      · simp [Value.ownBlock]
      · simp [Value.ownBlock]; omega
  · refine (h.b.alloc (o := o) (by omega) ).grown hg (by simp; omega) ?_
    intro k hk
    rcases h.own.2 with ⟨rfl, _⟩ | ⟨g, cap, cur, rfl, hbase, _⟩
    · simp [Value.ownBlock] at hk
    · simp [Value.ownBlock] at hk; omega
end Go.Proofs.YtaglhajlgnjhcaaDoor
