/- Spots that are changed: what a call gives, blocks of spots, the closures that change them. -/
import Derived.Test.YtijlkdppjmfbhaaRcA
import Derived.Test.YtijlkdppjmfbhaaRv
import Derived.Sort.Row
namespace Go.Proofs.Ytijlkdppjmfbhaa
open Go.RowKit Go.Sort

/-- Spots that a call gives, at the beginning of a block of its own. -/
structure GvS (B : Nat) (w : World) (p : Option Addr) (l : List Sp) (c : Nat) : Prop where
  o : 0 < l.length → ∃ b cur, p = some ⟨b, 0, none⟩ ∧ B ≤ b ∧ w.heap[b]? = some (.cells cur 34 (0, 0)) ∧ cur.toList.take (l.length * 2) = cellsS l
  r : l.length ≤ c
  n : l.length ≤ 1099511627776
theorem GvS.i {B : Nat} {w : World} {p : Option Addr} {l : List Sp} {c : Nat} (h : GvS B w p l c) : SRow w.heap.size w p l := fun h0 => by
  obtain ⟨b, cur, rfl, _, hh, ht⟩ := h.o h0
  refine ⟨b, 0, rfl, (Array.getElem?_eq_some_iff.1 hh).1, fun k hk => ?_⟩
  obtain ⟨e1, e2⟩ := cellsS_at l k hk
  rw [← ht, List.getElem?_take_of_lt (by omega)] at e1 e2
  simp only [World.cell?]
  rw [hh]
  simp only [Array.getElem?_toList] at e1 e2
  simp only [Nat.zero_add]
  exact ⟨e1, e2⟩
theorem GvS.to {B : Nat} {w w' : World} {p : Option Addr} {l : List Sp} {c : Nat} (h : GvS B w p l c) (hb : Below w.heap.size w w') : GvS B w' p l c :=
  ⟨fun h0 => by
    obtain ⟨b, cur, e, h1, hh, ht⟩ := h.o h0
    exact ⟨b, cur, e, h1, atW hb hh, ht⟩, h.r, h.n⟩
theorem GvS.weak {B B' : Nat} {w : World} {p : Option Addr} {l : List Sp} {c : Nat} (h : GvS B w p l c) (hB : B' ≤ B) : GvS B' w p l c :=
  ⟨fun h0 => by
    obtain ⟨b, cur, e, h1, r⟩ := h.o h0
    exact ⟨b, cur, e, Nat.le_trans hB h1, r⟩, h.r, h.n⟩
theorem GvS.setC {B : Nat} {w : World} {p : Option Addr} {l : List Sp} {c : Nat} (h : GvS B w p l c) {G : Nat} (hG : G < B) (v : Value) : GvS B (w.setCell ⟨G, 0, none⟩ v) p l c :=
  ⟨fun h0 => by
    obtain ⟨b, cur, e, h1, hh, ht⟩ := h.o h0
    exact ⟨b, cur, e, h1, (heap_setCell_other _ _ _ _ (by simp; omega)).trans hh, ht⟩, h.r, h.n⟩
theorem GvS.nil (B : Nat) (w : World) (p : Option Addr) (c : Nat) : GvS B w p [] c := ⟨fun h => by simp at h, by simp, by simp⟩
theorem OwnS.gv {B : Nat} {w : World} {p : Option Addr} {l : List Sp} {c : Nat} (h : OwnS B w p l c) : GvS B w p l c :=
  ⟨fun h0 => by
    rcases h.o.2 with ⟨e, e0⟩ | ⟨g, cap, cur, e, hg, hh, _, _, _, ht⟩
    · omega
    · injection e with e1 e2 e3
      exact ⟨g, cur, e1, hg, hh, ht⟩, h.r.1, h.n⟩
/-- All of block G are these spots. -/
def BlkS (w : World) (G : Nat) (L : List Sp) : Prop := w.heap[G]? = some (.cells (cellsS L).toArray 34 (0, 0))
theorem BlkS.cells {w : World} {G : Nat} {L : List Sp} (h : BlkS w G L) {k : Nat} (hk : k < L.length) : w.cell? ⟨G, k * 2, none⟩ = some (.int .i64 (sG L k).1) ∧ w.cell? ⟨G, k * 2 + 1, none⟩ = some (.int .i64 (sG L k).2) ∧ ∀ o, w.frozen? ⟨G, o, none⟩ = false := by
  obtain ⟨e1, e2⟩ := cellsS_at L k hk
  refine ⟨?_, ?_, fr_heap h⟩
  · unfold World.cell?; rw [h]; simpa using e1
  · unfold World.cell?; rw [h]; simpa using e2
theorem cellsS_set : ∀ (L : List Sp) (k : Nat) (s : Sp), cellsS (L.set k s) = ((cellsS L).set (k * 2) (.int .i64 s.1)).set (k * 2 + 1) (.int .i64 s.2)
  | [], _, _ => by simp [cellsS]
  | _ :: _, 0, _ => rfl
  | x :: l, k + 1, s => by
    rw [show (k + 1) * 2 = k * 2 + 1 + 1 by omega]
    simp [cellsS, cellsS_set l k s]
theorem BlkS.set {w : World} {G : Nat} {L : List Sp} (h : BlkS w G L) (k : Nat) (s : Sp) : BlkS ((w.setCell ⟨G, k * 2, none⟩ (.int .i64 s.1)).setCell ⟨G, k * 2 + 1, none⟩ (.int .i64 s.2)) G (L.set k s) := by
  unfold BlkS
  rw [cellsS_set]
  have h' : w.heap[G]? = some (.cells (cellsS L).toArray 34 (0, 0)) := h
  simp [setCell_eq, mapBlock, Array.getElem?_modify, h', onCells]
/-- Only block G turns. -/
def OnG (G : Nat) (w w' : World) : Prop := w'.heap.size = w.heap.size ∧ w'.os = w.os ∧ w'.tape = w.tape ∧ w'.output = w.output ∧ ∀ k, k ≠ G → w'.heap[k]? = w.heap[k]?
theorem OnG.refl (G : Nat) (w : World) : OnG G w w := ⟨rfl, rfl, rfl, rfl, fun _ _ => rfl⟩
theorem OnG.set {G : Nat} {w w' : World} (h : OnG G w w') (o : Nat) (v : Value) : OnG G w (w'.setCell ⟨G, o, none⟩ v) := by
  have hb := (Below.refl G w').setCell (p := ⟨G, o, none⟩) (Nat.le_refl _) v
  exact ⟨by rw [← h.1]; simp [setCell_eq, mapBlock], hb.os.trans h.2.1, hb.tape.trans h.2.2.1, hb.output.trans h.2.2.2.1, fun k hk => (heap_setCell_other _ _ _ _ (by simpa using hk)).trans (h.2.2.2.2 k hk)⟩
theorem OnG.below {G B : Nat} {w w' w0 : World} (h : OnG G w w') (hb : Below B w0 w) (hB : B ≤ G) : Below B w0 w' :=
  ⟨h.2.1.trans hb.os, h.2.2.1.trans hb.tape, h.2.2.2.1.trans hb.output, by rw [h.1]; exact hb.size, fun k hk => (h.2.2.2.2 k (by omega)).trans (hb.block k hk)⟩
/-- The closure of Put. -/
theorem putc47 (G S1 S2 n k : Nat) (s : Sp) (L : List Sp) (w : World) (h : BlkS w G L) (hn : L.length = n) (hk : k < n) (hkb : k ≤ 1099511627776) (c1 : w.heap[S1]? = some (.cells #[.int .i64 s.1, .int .i64 s.2] 34)) (c2 : w.cell? ⟨S2, 0, none⟩ = some (.int .i64 ((k : Int) + 1))) :
    Calls Try.prog 47 #[.slice (some ⟨G, 0, none⟩) n n, .pointer (some ⟨S1, 0, none⟩), .pointer (some ⟨S2, 0, none⟩)] w fun e w' => e = .returned (.tuple #[]) ∧ BlkS w' G (L.set k s) ∧ OnG G w w' := by
  obtain ⟨e1, e2, ef⟩ := h.cells (k := k) (by omega)
  obtain ⟨d1, d2, _⟩ := cell2_heap c1
  have HF := hidOg (h.set k s)
  have HO := hidOg (((OnG.refl G w).set (k * 2) (.int .i64 s.1)).set (k * 2 + 1) (.int .i64 s.2))
  obtain ⟨a, d⟩ := s
  clear h c1 hn
  go_enter Try.func47, Try.ntmps47
  go_wp2
  go_end0
  exact ⟨rfl, HF.out, HO.out⟩
/-- The closure of Drop. -/
theorem dropc50 (G S2 n k : Nat) (L : List Sp) (w : World) (h : BlkS w G L) (hn : L.length = n) (hk : k < n) (hkb : k ≤ 1099511627776) (c2 : w.cell? ⟨S2, 0, none⟩ = some (.int .i64 ((k : Int) + 1))) :
    Calls Try.prog 50 #[.slice (some ⟨G, 0, none⟩) n n, .pointer (some ⟨S2, 0, none⟩)] w fun e w' => e = .returned (.tuple #[]) ∧ BlkS w' G (L.set k (0, 0)) ∧ OnG G w w' := by
  obtain ⟨e1, e2, ef⟩ := h.cells (k := k) (by omega)
  have HF := hidOg (h.set k (0, 0))
  have HO := hidOg (((OnG.refl G w).set (k * 2) (.int .i64 0)).set (k * 2 + 1) (.int .i64 0))
  clear h hn
  go_enter Try.func50, Try.ntmps50
  go_wp2
  go_end0
  exact ⟨rfl, HF.out, HO.out⟩
/-- The closure of Swap. -/
theorem swapc53 (G S1 S2 S3 n k j : Nat) (s : Sp) (L : List Sp) (w : World) (h : BlkS w G L) (hn : L.length = n) (hk : k < n) (hkb : k ≤ 1099511627776) (hj : j < n) (hjb : j ≤ 1099511627776) (c1 : w.heap[S1]? = some (.cells #[.int .i64 s.1, .int .i64 s.2] 34)) (c2 : w.cell? ⟨S2, 0, none⟩ = some (.int .i64 ((j : Int) + 1))) (c3 : w.cell? ⟨S3, 0, none⟩ = some (.int .i64 ((k : Int) + 1))) (hS3 : S3 ≠ G) :
    Calls Try.prog 53 #[.slice (some ⟨G, 0, none⟩) n n, .pointer (some ⟨S1, 0, none⟩), .pointer (some ⟨S2, 0, none⟩), .pointer (some ⟨S3, 0, none⟩)] w fun e w' => e = .returned (.tuple #[]) ∧ BlkS w' G ((L.set j s).set k (0, 0)) ∧ OnG G w w' := by
  obtain ⟨e1, e2, ef⟩ := h.cells (k := j) (by omega)
  obtain ⟨d1, d2, _⟩ := cell2_heap c1
  have h1 := h.set j s
  have o1 := (((OnG.refl G w).set (j * 2) (.int .i64 s.1)).set (j * 2 + 1) (.int .i64 s.2))
  obtain ⟨f1, f2, ff⟩ := h1.cells (k := k) (by simp; omega)
  have c3' := (cell_heap (o1.2.2.2.2 S3 hS3) 0).trans c3
  have HF := hidOg (h1.set k (0, 0))
  have HO := hidOg ((o1.set (k * 2) (.int .i64 0)).set (k * 2 + 1) (.int .i64 0))
  obtain ⟨a, d⟩ := s
  clear h c1 hn h1 o1
  go_enter Try.func53, Try.ntmps53
  go_wp2
  go_end0
  exact ⟨rfl, HF.out, HO.out⟩
/-- The spots, with room for an index. -/
def extS (l : List Sp) (i : Nat) : List Sp := l ++ List.replicate (i - l.length) (0, 0)
theorem extS_len (l : List Sp) (i : Nat) : (extS l i).length = max l.length i := by unfold extS; simp; omega
theorem cellsS_zero : ∀ n : Nat, cellsS (List.replicate n (0, 0)) = List.replicate (n * 2) (.int .i64 0)
  | 0 => rfl
  | n + 1 => by rw [List.replicate_succ, show (n + 1) * 2 = n * 2 + 1 + 1 by omega, List.replicate_succ, List.replicate_succ]; simp [cellsS, cellsS_zero n]
theorem made_zero (n : Nat) : (madeCells (Value.cells (.agg #[.int .i64 0, .int .i64 0])) (n * 2)).toList = List.replicate (n * 2) (.int .i64 0) := by
  apply List.ext_getElem
  · simp [madeCells]
  · intro i h1 h2
    simp [madeCells, Value.cells]
    rcases (show i % 2 = 0 ∨ i % 2 = 1 by omega) with h | h <;> rw [h] <;> rfl
theorem ext_splice (l : List Sp) (i : Nat) : splice (List.replicate ((max l.length i) * 2) (.int .i64 0)) 0 (cellsS l) = cellsS (extS l i) := by
  unfold splice extS
  rw [cellsS_append, cellsS_zero, cellsS_len]
  simp
  omega
theorem made_rowS {w w1 : World} {n : Nat} (hown : w1.ownsRow w.heap.size 34 2 (.slice (some ⟨w.heap.size, 0, none⟩) n n) n (madeCells (Value.cells (.agg #[.int .i64 0, .int .i64 0])) (n * 2)).toList) (hg : w.grownBy w1 none) :
    w1.heap[w.heap.size]? = some (.cells (List.replicate (n * 2) (.int .i64 0)).toArray 34 (0, 0)) ∧ Below w.heap.size w w1 := by
  rcases hown.2 with ⟨h', _⟩ | ⟨g', cap', cur, h', _, hc, _, _, hs, ht⟩
  · simp at h'
  · simp only [Value.slice.injEq, Option.some.injEq, Addr.mk.injEq, and_true, true_and] at h'
    obtain ⟨rfl, rfl⟩ := h'
    refine ⟨?_, (Below.refl _ _).grown hg (Nat.le_refl _) (fun k e => by cases e)⟩
    rw [made_zero, List.take_of_length_le (by simpa using (by omega : cur.size ≤ n * 2))] at ht
    rw [hc, ← ht]
theorem made_rowG {w w1 : World} {n G : Nat} (hG : w.heap.size = G) (hown : w1.ownsRow G 34 2 (.slice (some ⟨w.heap.size, 0, none⟩) n n) n (madeCells (Value.cells (.agg #[.int .i64 0, .int .i64 0])) (n * 2)).toList) (hg : w.grownBy w1 none) :
    w1.heap[G]? = some (.cells (List.replicate (n * 2) (.int .i64 0)).toArray 34 (0, 0)) ∧ Below G w w1 := by
  subst hG; exact made_rowS hown hg
theorem srcS {N M : Nat} {w w1 : World} {p : Option Addr} {l : List Sp} (hS : SRow N w p l) (hb : Below M w w1) (hm : N ≤ M) (h : 0 < l.length) : ∃ ad, p = some ad ∧ ∀ j v, (cellsS l)[j]? = some v → w1.cell? (ad.add j) = some v := by
  obtain ⟨b, off, rfl, _, hc⟩ := (hS.below hb hm) h
  exact ⟨_, rfl, srow_src hc⟩
end Go.Proofs.Ytijlkdppjmfbhaa
