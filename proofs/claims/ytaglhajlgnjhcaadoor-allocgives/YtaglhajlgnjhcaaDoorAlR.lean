/- Take: what it answers, and that it does. -/
import Derived.Test.YtaglhajlgnjhcaaDoorAlP
namespace Go.Proofs.YtaglhajlgnjhcaaDoor
open Go.RowKit

def cntM (l : List (Int × Bool)) : Int := ((livN l l.length).length : Int)
def tkE (m : Int) (l : List (Int × Bool)) (f : List Int) : Int :=
  if mayB m l f then (if cntM l = m + 2 then 6 else if 0 < f.length then 0 else if (l.length : Int) < m + 2 then 0 else 121) else 120
def tkJ (f : List Int) : Nat := (iG f (f.length - 1) - 1).toNat
def tkM (m : Int) (l : List (Int × Bool)) (f : List Int) : Int := if tkE m l f = 0 then m else 0
def tkL (m : Int) (l : List (Int × Bool)) (f : List Int) : List (Int × Bool) := if tkE m l f = 0 then (if 0 < f.length then l.set (tkJ f) (sG l (tkJ f) + 1, true) else l ++ [(0, true)]) else []
def tkF (m : Int) (l : List (Int × Bool)) (f : List Int) : List Int := if tkE m l f = 0 then f.take (f.length - 1) else []
def tkI (m : Int) (l : List (Int × Bool)) (f : List Int) : Int := if tkE m l f = 0 then (if 0 < f.length then entV ((tkJ f : Int) + 1) (sG l (tkJ f) + 1) else entV ((l.length : Int) + 1) 0) else 0

/-- An allocator that was answered: nothing, or rows of its own. -/
def Res (w w' : World) (p : Option Addr) (l : List (Int × Bool)) (q : Option Addr) (f : List Int) : Prop :=
  Below w.heap.size w w' ∧ ((p = none ∧ l = [] ∧ q = none ∧ f = []) ∨ ∃ G H, p = some ⟨G, 0, none⟩ ∧ q = some ⟨H, 0, none⟩ ∧ AOwn w w' G l H f)
theorem Res.in {w w' : World} {p : Option Addr} {l : List (Int × Bool)} {q : Option Addr} {f : List Int} (h : Res w w' p l q f) (hF : Fr w) (h1 : l.length ≤ 8796093022208) (h2 : f.length ≤ 8796093022208) : AIn w' p l q f := by
  rcases h.2 with ⟨rfl, rfl, rfl, rfl⟩ | ⟨G, H, rfl, rfl, ha⟩
  · exact ⟨hF.below h.1 hF.lt, SRow.nil, IRow.nil, h1, h2⟩
  · exact ha.in hF h1 h2

theorem okF_at {l : List (Int × Bool)} {f : List Int} (h : okF l f = true) (j : Nat) (hj : j < f.length) : freeOk l (metAt f j) (iG f j) = true := by
  unfold okF at h; rw [List.all_eq_true] at h; exact h j (by simpa using hj)
theorem mayB_parts {m : Int} {l : List (Int × Bool)} {f : List Int} (h : mayB m l f = true) : szB m l.length = true ∧ okS l = true ∧ f.length = usN l l.length ∧ okF l f = true := by
  unfold mayB at h; simpa using h
theorem mayB_slot {m : Int} {l : List (Int × Bool)} {f : List Int} (h : mayB m l f = true) (j : Nat) (hj : j < l.length) : 0 ≤ sG l j ∧ sG l j ≤ 7 := by
  have := okS_at (mayB_parts h).2.1 j hj
  unfold slotOk at this; simp at this; omega
/-- An index of Free is one of the slots, that can be used again. -/
theorem mayB_free {m : Int} {l : List (Int × Bool)} {f : List Int} (h : mayB m l f = true) (k : Nat) (hk : k < f.length) :
    ∃ j : Nat, iG f k = (j : Int) + 1 ∧ j < l.length ∧ usB (sG l j) (sA l j) = true := by
  have := okF_at (mayB_parts h).2.2.2 k hk
  unfold freeOk at this
  simp only [Bool.and_eq_true] at this
  obtain ⟨h1, h2, _⟩ := this
  have h12 : 1 ≤ iG f k ∧ iG f k ≤ (l.length : Int) := by simpa [hasB] using h1
  exact ⟨(iG f k - 1).toNat, by omega, by omega, h2⟩

/-- The three cells of a boxed allocator. -/
theorem bx3 {w w1 : World} {x y z x' y' z' : Value} (hb : Below ((w.alloc (.cells #[x, y, z] 25)).alloc (.cells #[x', y', z'] 25)).heap.size ((w.alloc (.cells #[x, y, z] 25)).alloc (.cells #[x', y', z'] 25)) w1) :
    (w1.cell? ⟨w.heap.size, 0, none⟩ = some x ∧ w1.cell? ⟨w.heap.size, 1, none⟩ = some y ∧ w1.cell? ⟨w.heap.size, 2, none⟩ = some z) ∧ w1.heap[w.heap.size + 1]? = some (.cells #[x', y', z'] 25 (0, 0)) ∧ w.heap.size + 1 < w1.heap.size := by
  have h1 : w1.heap[w.heap.size]? = some (.cells #[x, y, z] 25 (0, 0)) := atW hb ((heap_alloc_old (by simp)).trans (heap_at rfl))
  have h2 : w1.heap[w.heap.size + 1]? = some (.cells #[x', y', z'] 25 (0, 0)) := atW hb (heap_at (by simp))
  obtain ⟨a0, a1, a2, _, _⟩ := cells3 h1
  exact ⟨⟨a0, a1, a2⟩, h2, (Array.getElem?_eq_some_iff.1 h2).1⟩

set_option maxRecDepth 20000 in
set_option maxHeartbeats 2000000 in
theorem take_bad (m : Int) (c d : Nat) (w : World) (p : Option Addr) (l : List (Int × Bool)) (q : Option Addr) (f : List Int) (h : AIn w p l q f) (hm : mayB m l f = false) :
    Calls Tryd.prog 25 #[.agg #[.int .i64 m, .slice p l.length c, .slice q f.length d]] w fun e w' => e = .returned (.tuple #[.agg #[.int .i64 0, .slice none 0 0, .slice none 0 0], .int .u64 0, .int .i64 120]) ∧ Below w.heap.size w w' := by
  have CM := fun (o o' : Obj) => may_in m c d ((h.alloc o).alloc o')
  rw [hm] at CM
  clear h hm
  go_enter Tryd.func25, Tryd.ntmps25
  go_wp2_with (first | (go_at_call 34; refine Calls.mono (CM _ _) ?_; rintro e w1 ⟨rfl, hb⟩; obtain ⟨⟨a0, a1, a2⟩, hr, hz⟩ := bx3 hb; obtain ⟨r0, r1, r2, rf, r3⟩ := cells3 hr))
  obtain ⟨t0, t1, t2, _, _⟩ := cells3 (set3_heap (x' := .int .i64 0) (y' := .slice none 0 0) (z' := .slice none 0 0) hr)
  exact bodyPost_ret (v := .tuple #[.agg #[.int .i64 0, .slice none 0 0, .slice none 0 0], .int .u64 0, .int .i64 120]) (by simp [results, Tryd.results25, go_sem, t0, t1, t2]) rfl ⟨rfl, (((below2 hb).setCell (p := ⟨w.heap.size + 1, 0, none⟩) (by simp) _).setCell (p := ⟨w.heap.size + 1, 1, none⟩) (by simp) _).setCell (p := ⟨w.heap.size + 1, 2, none⟩) (by simp) _⟩
end Go.Proofs.YtaglhajlgnjhcaaDoor
