/- Rows of slots that a call owns (stage 7), over whatever program: their cells, how they read, one that is written over. -/
import Derived.Test.YtjnhalomkmdcgaaLkM
import Derived.Laws.AppendOwn
import Derived.Laws.Rows
import Derived.Maps.AppendAt
namespace Go.Proofs.Ytjnhalomkmdcgaa
open Go.RowKit

/-- A slot, and where its type lies: state, (place, type, room), number. -/
abbrev Ep := Int × (Option Addr × List Int × Nat) × Int
def eOf (x : Ep) : En := (x.1, x.2.1.2.1, x.2.2)
def gP (X : List Ep) (k : Nat) : Ep := X.getD k (0, (none, [], 0), 0)
theorem gP_eq {X : List Ep} {k : Nat} (h : k < X.length) : gP X k = X[k] := by simp [gP, h]
theorem gE_map {X : List Ep} {k : Nat} (h : k < X.length) : gE (X.map eOf) k = eOf (gP X k) := by simp [gE, gP, h]
/-- The cells of slots. -/
def cellsE : List Ep → List Value
  | [] => []
  | x :: X => .int .i64 x.1 :: .slice x.2.1.1 x.2.1.2.1.length x.2.1.2.2 :: .int .i64 x.2.2 :: cellsE X
theorem cellsE_len (X : List Ep) : (cellsE X).length = X.length * 3 := by
  induction X with
  | nil => rfl
  | cons x X ih => simp [cellsE, ih]; omega
theorem cellsE_append (a b : List Ep) : cellsE (a ++ b) = cellsE a ++ cellsE b := by
  induction a with
  | nil => rfl
  | cons x a ih => simp [cellsE, ih]
theorem cellsE_one (X : List Ep) : ∀ v ∈ cellsE X, v.oneCell' = true := by
  induction X with
  | nil => intro v h; simp [cellsE] at h
  | cons x X ih =>
    intro v h
    simp only [cellsE, List.mem_cons] at h
    rcases h with rfl | rfl | rfl | h
    · rfl
    · rfl
    · rfl
    · exact ih v h
theorem cellsE_at (X : List Ep) (k : Nat) (hk : k < X.length) : (cellsE X)[k * 3]? = some (.int .i64 (gP X k).1) ∧ (cellsE X)[k * 3 + 1]? = some (.slice (gP X k).2.1.1 (gP X k).2.1.2.1.length (gP X k).2.1.2.2) ∧ (cellsE X)[k * 3 + 2]? = some (.int .i64 (gP X k).2.2) := by
  induction X generalizing k with
  | nil => simp at hk
  | cons x X ih =>
    cases k with
    | zero => simp [cellsE, gP]
    | succ k =>
      have := ih k (by simpa using hk)
      have e0 : (k + 1) * 3 = k * 3 + 1 + 1 + 1 := by omega
      have e1 : gP (x :: X) (k + 1) = gP X k := rfl
      rw [e0, e1]
      simpa [cellsE] using this
theorem cellsE_set (X : List Ep) (k : Nat) (y : Ep) : (((cellsE X).set (k * 3) (.int .i64 y.1)).set (k * 3 + 1) (.slice y.2.1.1 y.2.1.2.1.length y.2.1.2.2)).set (k * 3 + 2) (.int .i64 y.2.2) = cellsE (X.set k y) := by
  induction X generalizing k with
  | nil => simp [cellsE]
  | cons x X ih =>
    cases k with
    | zero => simp [cellsE]
    | succ k =>
      have e0 : (k + 1) * 3 = k * 3 + 1 + 1 + 1 := by omega
      rw [e0]
      simp only [cellsE, List.set_cons_succ]
      rw [← ih k]
theorem cellsE_setT (X : List Ep) (k : Nat) (r : Option Addr × List Int × Nat) : (cellsE X).set (k * 3 + 1) (.slice r.1 r.2.1.length r.2.2) = cellsE (X.set k ((gP X k).1, r, (gP X k).2.2)) := by
  induction X generalizing k with
  | nil => simp [cellsE]
  | cons x X ih =>
    cases k with
    | zero => simp [cellsE, gP]
    | succ k =>
      have e0 : (k + 1) * 3 = k * 3 + 1 + 1 + 1 := by omega
      have e1 : gP (x :: X) (k + 1) = gP X k := rfl
      rw [e0, e1]
      simp only [cellsE, List.set_cons_succ]
      rw [← ih k]
theorem cellsE_src {w : World} {b off : Nat} {X : List Ep} (h : ∀ k, k < X.length → w.cell? ⟨b, off + k * 3, none⟩ = some (.int .i64 (gP X k).1) ∧ w.cell? ⟨b, off + k * 3 + 1, none⟩ = some (.slice (gP X k).2.1.1 (gP X k).2.1.2.1.length (gP X k).2.1.2.2) ∧ w.cell? ⟨b, off + k * 3 + 2, none⟩ = some (.int .i64 (gP X k).2.2)) :
    ∀ j v, (cellsE X)[j]? = some v → w.cell? ((⟨b, off, none⟩ : Addr).add j) = some v := by
  intro j v hj
  have hlt : j < X.length * 3 := by have := (List.getElem?_eq_some_iff.1 hj).1; rwa [cellsE_len] at this
  obtain ⟨k, r, hr, rfl⟩ : ∃ k r, r < 3 ∧ j = k * 3 + r := ⟨j / 3, j % 3, Nat.mod_lt _ (by omega), by omega⟩
  have hk : k < X.length := by omega
  obtain ⟨c0, c1, c2⟩ := h k hk
  obtain ⟨d0, d1, d2⟩ := cellsE_at X k hk
  rw [addr_add]
  have hr' : r = 0 ∨ r = 1 ∨ r = 2 := by omega
  rcases hr' with rfl | rfl | rfl
  · rw [Nat.add_zero] at hj ⊢; rw [d0] at hj; cases hj; exact c0
  · rw [d1] at hj; cases hj; rw [← Nat.add_assoc]; exact c1
  · rw [d2] at hj; cases hj; rw [← Nat.add_assoc]; exact c2
/-- Slots in memory, with where their types lie. -/
theorem ERow.places {N : Nat} {w : World} {p : Option Addr} {L : List En} (h : ERow N w p L) : ∃ X : List Ep, X.map eOf = L ∧ (∀ x ∈ X, TRow N w x.2.1.1 x.2.1.2.1 x.2.1.2.2) ∧
    (0 < X.length → ∃ b off, p = some ⟨b, off, none⟩ ∧ b < N ∧ ∀ k, k < X.length → w.cell? ⟨b, off + k * 3, none⟩ = some (.int .i64 (gP X k).1) ∧ w.cell? ⟨b, off + k * 3 + 1, none⟩ = some (.slice (gP X k).2.1.1 (gP X k).2.1.2.1.length (gP X k).2.1.2.2) ∧ w.cell? ⟨b, off + k * 3 + 2, none⟩ = some (.int .i64 (gP X k).2.2)) := by
  by_cases h0 : 0 < L.length
  · obtain ⟨b, off, rfl, hN, hc⟩ := h h0
    have each : ∀ k, k < L.length → ∃ x : Ep, eOf x = gE L k ∧ TRow N w x.2.1.1 x.2.1.2.1 x.2.1.2.2 ∧ w.cell? ⟨b, off + k * 3, none⟩ = some (.int .i64 x.1) ∧ w.cell? ⟨b, off + k * 3 + 1, none⟩ = some (.slice x.2.1.1 x.2.1.2.1.length x.2.1.2.2) ∧ w.cell? ⟨b, off + k * 3 + 2, none⟩ = some (.int .i64 x.2.2) := by
      intro k hk
      obtain ⟨c0, ⟨q, c, c1, ht⟩, c2⟩ := hc k hk
      exact ⟨((gE L k).1, (q, (gE L k).2.1, c), (gE L k).2.2), rfl, ht, c0, c1, c2⟩
    obtain ⟨f, hf⟩ := Deep.choose_lt each
    have hg : ∀ k, k < L.length → gP ((List.range L.length).map f) k = f k := fun k hk => by simp [gP, hk]
    refine ⟨(List.range L.length).map f, ?_, ?_, fun _ => ⟨b, off, rfl, hN, fun k hk => ?_⟩⟩
    · refine List.ext_getElem (by simp) (fun k h1 h2 => ?_)
      have hk : k < L.length := by simpa using h1
      have := (hf k hk).1
      simp only [List.getElem_map, List.getElem_range]
      rw [this, gE_eq hk]
    · intro x hx
      obtain ⟨k, hk, rfl⟩ := List.mem_map.1 hx
      exact (hf k (by simpa using hk)).2.1
    · have hk' : k < L.length := by simpa using hk
      rw [hg k hk']
      exact (hf k hk').2.2
  · obtain rfl : L = [] := List.eq_nil_of_length_eq_zero (by omega)
    exact ⟨[], rfl, by simp, fun h => by simp at h⟩
/-- How a row that a call owns reads. -/
theorem erow_owns {t B N : Nat} {w : World} {v : Value} {X : List Ep} (h : w.ownsRow B t 3 v X.length (cellsE X)) (hX : ∀ x ∈ X, TRow N w x.2.1.1 x.2.1.2.1 x.2.1.2.2) (hN : w.heap.size ≤ N) :
    ∃ p c, v = .slice p X.length c ∧ ERow N w p (X.map eOf) ∧ X.length ≤ c ∧ ((p = none ∧ X = [] ∧ c = 0) ∨ ∃ g, p = some ⟨g, 0, none⟩ ∧ B ≤ g) := by
  rcases h.2 with ⟨rfl, h0⟩ | ⟨g, cap, cur, rfl, hB, hh, h1, _, _, ht⟩
  · obtain rfl : X = [] := List.eq_nil_of_length_eq_zero h0
    exact ⟨none, 0, rfl, ERow.nil, by simp, .inl ⟨rfl, rfl, rfl⟩⟩
  · refine ⟨some ⟨g, 0, none⟩, cap, rfl, ?_, h1, .inr ⟨g, rfl, hB⟩⟩
    intro _
    have hlt := (Array.getElem?_eq_some_iff.1 hh).1
    refine ⟨g, 0, rfl, by omega, fun k hk => ?_⟩
    have hk' : k < X.length := by simpa using hk
    have key : ∀ j, j < X.length * 3 → w.cell? ⟨g, j, none⟩ = (cellsE X)[j]? := by
      intro j hj
      have e : cur.toList[j]? = (cellsE X)[j]? := by rw [← ht, List.getElem?_take_of_lt hj]
      simp only [World.cell?]
      rw [hh]
      simp only [Array.getElem?_toList] at e
      simpa using e
    obtain ⟨d0, d1, d2⟩ := cellsE_at X k hk'
    rw [gE_map hk']
    have hm : gP X k ∈ X := by rw [gP_eq hk']; exact List.getElem_mem hk'
    refine ⟨?_, ⟨(gP X k).2.1.1, (gP X k).2.1.2.2, ?_, hX _ hm⟩, ?_⟩
    · rw [Nat.zero_add, key _ (by omega)]; exact d0
    · rw [Nat.zero_add, key _ (by omega)]; exact d1
    · rw [Nat.zero_add, key _ (by omega)]; exact d2
/-- One cell of such a row is written over. -/
theorem ownsRow_set {w : World} {base : Nat} {e : TypeId} {size g n cap : Nat} {xs : List Value} (h : w.ownsRow base e size (.slice (some ⟨g, 0, none⟩) n cap) n xs) (i : Nat) (u : Value) : (w.setCell ⟨g, i, none⟩ u).ownsRow base e size (.slice (some ⟨g, 0, none⟩) n cap) n (xs.set i u) := by
  obtain ⟨h1, h2⟩ := h
  rcases h2 with ⟨hv, _⟩ | ⟨g', cap', cur, hv, hb, hh, c1, c2, c3, c4⟩
  · cases hv
  · cases hv
    refine ⟨by simpa using h1, .inr ⟨g, cap, cur.setIfInBounds i u, rfl, hb, heap_setCell_same w g i cur e u hh, c1, c2, by simpa using c3, ?_⟩⟩
    rw [Array.toList_setIfInBounds, List.take_set, c4]
theorem own_frozen {w : World} {base : Nat} {e : TypeId} {size g n cap : Nat} {xs : List Value} (h : w.ownsRow base e size (.slice (some ⟨g, 0, none⟩) n cap) n xs) (i : Nat) : w.frozen? ⟨g, i, none⟩ = false := by
  rcases h.2 with ⟨hv, _⟩ | ⟨g', cap', cur, hv, hb, hh, _⟩
  · cases hv
  · cases hv; simp [World.frozen?, hh]
/-- A slot is written over. -/
theorem own_put {w : World} {base : Nat} {e : TypeId} {g n cap : Nat} {X : List Ep} (h : w.ownsRow base e 3 (.slice (some ⟨g, 0, none⟩) n cap) n (cellsE X)) (k : Nat) (y : Ep) :
    (((w.setCell ⟨g, k * 3, none⟩ (.int .i64 y.1)).setCell ⟨g, k * 3 + 1, none⟩ (.slice y.2.1.1 y.2.1.2.1.length y.2.1.2.2)).setCell ⟨g, k * 3 + 2, none⟩ (.int .i64 y.2.2)).ownsRow base e 3 (.slice (some ⟨g, 0, none⟩) n cap) n (cellsE (X.set k y)) := by
  have := ownsRow_set (ownsRow_set (ownsRow_set h (k * 3) (.int .i64 y.1)) (k * 3 + 1) (.slice y.2.1.1 y.2.1.2.1.length y.2.1.2.2)) (k * 3 + 2) (.int .i64 y.2.2)
  rwa [cellsE_set] at this
/-- The type of a slot is written over. -/
theorem own_putT {w : World} {base : Nat} {e : TypeId} {g n cap : Nat} {X : List Ep} (h : w.ownsRow base e 3 (.slice (some ⟨g, 0, none⟩) n cap) n (cellsE X)) (k : Nat) (r : Option Addr × List Int × Nat) :
    (w.setCell ⟨g, k * 3 + 1, none⟩ (.slice r.1 r.2.1.length r.2.2)).ownsRow base e 3 (.slice (some ⟨g, 0, none⟩) n cap) n (cellsE (X.set k ((gP X k).1, r, (gP X k).2.2))) := by
  have := ownsRow_set h (k * 3 + 1) (.slice r.1 r.2.1.length r.2.2)
  rwa [cellsE_setT] at this
theorem map_set (X : List Ep) (k : Nat) (y : Ep) : (X.set k y).map eOf = (X.map eOf).set k (eOf y) := by rw [List.map_set]
/-- A row of ids in another block stays. -/
theorem IRow.setCell {q : IntKind} {N : Nat} {w : World} {p : Option Addr} {l : List Int} (h : IRow q N w p l) {a : Addr} (ha : ∀ x, p = some x → x.block ≠ a.block) (u : Value) : IRow q N (w.setCell a u) p l := by
  intro h0
  obtain ⟨b, off, rfl, hN, hc⟩ := h h0
  refine ⟨b, off, rfl, hN, fun k hk => ?_⟩
  have hne : b ≠ a.block := ha _ rfl
  rw [← hc k hk]
  simp only [World.cell?]
  rw [heap_setCell_other w a b u hne]
theorem TRow.setCell {N : Nat} {w : World} {p : Option Addr} {l : List Int} {c : Nat} (h : TRow N w p l c) {a : Addr} (ha : ∀ x, p = some x → x.block ≠ a.block) (u : Value) : TRow N (w.setCell a u) p l c := ⟨h.i.setCell ha u, h.r, h.u⟩
/-- A row of ids stays where a row of another block grows. -/
theorem TRow.grown {w w' : World} {p : Option Addr} {l : List Int} {c : Nat} {row : Option Nat} (h : TRow w.heap.size w p l c) (hg : w.grownBy w' row) (hne : ∀ a, p = some a → some a.block ≠ row) : TRow w'.heap.size w' p l c := by
  refine ⟨fun h0 => ?_, h.r, h.u⟩
  obtain ⟨b, off, rfl, hN, hc⟩ := h.i h0
  refine ⟨b, off, rfl, Nat.lt_of_lt_of_le hN hg.size, fun k hk => ?_⟩
  rw [← hc k hk]
  simp only [World.cell?]
  rw [hg.block b hN (hne _ rfl)]
end Go.Proofs.Ytjnhalomkmdcgaa
