/- Spots in memory: how rows of them lie, what a call owns. -/
import Derived.Test.YtijlkdppjmfbhaaMem
namespace Go.Proofs.Ytijlkdppjmfbhaa
open Go.RowKit

/-- A spot: a table and a row. -/
abbrev Sp := Int × Int
def sG (l : List Sp) (k : Nat) : Sp := l.getD k (0, 0)
theorem sG_eq {l : List Sp} {k : Nat} (h : k < l.length) : sG l k = l[k] := by simp [sG, h]
abbrev vS (s : Sp) : Value := .agg #[.int .i64 s.1, .int .i64 s.2]
/-- The slice that begins at p holds the spots l, in a block below N. -/
def SRow (N : Nat) (w : World) (p : Option Addr) (l : List Sp) : Prop :=
  0 < l.length → ∃ b off, p = some ⟨b, off, none⟩ ∧ b < N ∧ ∀ k, k < l.length → w.cell? ⟨b, off + k * 2, none⟩ = some (.int .i64 (sG l k).1) ∧ w.cell? ⟨b, off + k * 2 + 1, none⟩ = some (.int .i64 (sG l k).2)
theorem SRow.below {N M : Nat} {w w' : World} {p : Option Addr} {l : List Sp} (h : SRow N w p l) (hb : Below M w w') (hm : N ≤ M) : SRow N w' p l := by
  intro h0
  obtain ⟨b, off, rfl, hN, hc⟩ := h h0
  exact ⟨b, off, rfl, hN, fun k hk => ⟨(hb.cell (p := ⟨b, off + k * 2, none⟩) (by simp; omega)).trans (hc k hk).1, (hb.cell (p := ⟨b, off + k * 2 + 1, none⟩) (by simp; omega)).trans (hc k hk).2⟩⟩
theorem SRow.mono {N M : Nat} {w : World} {p : Option Addr} {l : List Sp} (h : SRow N w p l) (hm : N ≤ M) : SRow M w p l := by
  intro h0
  obtain ⟨b, off, rfl, hN, hc⟩ := h h0
  exact ⟨b, off, rfl, by omega, hc⟩
theorem SRow.nil {N : Nat} {w : World} {p : Option Addr} : SRow N w p [] := fun h => by simp at h
theorem SRow.to {w w' : World} {p : Option Addr} {l : List Sp} (h : SRow w.heap.size w p l) (hb : Below w.heap.size w w') : SRow w'.heap.size w' p l :=
  (h.below hb (Nat.le_refl _)).mono hb.size
theorem sG_take {l : List Sp} {i k : Nat} (h : k < i) : sG (l.take i) k = sG l k := by
  unfold sG; rw [List.getD_eq_getElem?_getD, List.getD_eq_getElem?_getD, List.getElem?_take_of_lt h]
theorem SRow.take {N : Nat} {w : World} {p : Option Addr} {l : List Sp} (h : SRow N w p l) (i : Nat) : SRow N w p (l.take i) := by
  intro h0
  have hl : (l.take i).length ≤ l.length := by simp; omega
  obtain ⟨b, off, rfl, hN, hc⟩ := h (by omega)
  refine ⟨b, off, rfl, hN, fun k hk => ?_⟩
  rw [sG_take (by simp at hk; omega)]
  exact hc k (by omega)
def cellsS : List Sp → List Value
  | [] => []
  | s :: l => .int .i64 s.1 :: .int .i64 s.2 :: cellsS l
theorem cellsS_len : ∀ l : List Sp, (cellsS l).length = l.length * 2
  | [] => rfl
  | s :: l => by have := cellsS_len l; simp [cellsS]; omega
theorem cellsS_append : ∀ a b : List Sp, cellsS (a ++ b) = cellsS a ++ cellsS b
  | [], _ => rfl
  | s :: a, b => by simp [cellsS, cellsS_append a b]
theorem cellsS_one : ∀ l : List Sp, ∀ v ∈ cellsS l, v.oneCell' = true
  | [], v, h => by cases h
  | s :: l, v, h => by
    simp only [cellsS, List.mem_cons] at h
    rcases h with rfl | rfl | h
    · rfl
    · rfl
    · exact cellsS_one l v h
theorem cellsS_at : ∀ (l : List Sp) (k : Nat), k < l.length → (cellsS l)[k * 2]? = some (.int .i64 (sG l k).1) ∧ (cellsS l)[k * 2 + 1]? = some (.int .i64 (sG l k).2)
  | s :: l, 0, _ => ⟨rfl, rfl⟩
  | s :: l, k + 1, h => by
    have := cellsS_at l k (by simpa using h)
    rw [show (k + 1) * 2 = k * 2 + 1 + 1 by omega]
    simpa [cellsS, sG] using this
theorem srow_src {w : World} {b off : Nat} {l : List Sp} (h : ∀ k, k < l.length → w.cell? ⟨b, off + k * 2, none⟩ = some (.int .i64 (sG l k).1) ∧ w.cell? ⟨b, off + k * 2 + 1, none⟩ = some (.int .i64 (sG l k).2)) :
    ∀ j v, (cellsS l)[j]? = some v → w.cell? ((⟨b, off, none⟩ : Addr).add j) = some v := by
  intro j v hj
  have hlt : j < l.length * 2 := by have := (List.getElem?_eq_some_iff.1 hj).1; rwa [cellsS_len] at this
  have h2 : j / 2 < l.length := by omega
  obtain ⟨e1, e2⟩ := cellsS_at l (j / 2) h2
  obtain ⟨c1, c2⟩ := h (j / 2) h2
  rw [addr_add]
  rcases (show j % 2 = 0 ∨ j % 2 = 1 by omega) with h0 | h0
  · rw [show j / 2 * 2 = j by omega] at e1 c1
    rw [c1, ← hj, e1]
  · rw [show j / 2 * 2 + 1 = j by omega] at e2
    rw [show off + j / 2 * 2 + 1 = off + j by omega] at c2
    rw [c2, ← hj, e2]
/-- A row that the call has made, read as spots. -/
theorem srow_owns {t B : Nat} {w : World} {v : Value} {l : List Sp} (h : w.ownsRow B t 2 v l.length (cellsS l)) :
    ∃ p c, v = .slice p l.length c ∧ SRow w.heap.size w p l ∧ FreshP B p ∧ l.length ≤ c ∧ c ≤ maxLen ∧ ((p = none ∧ l = [] ∧ c = 0) ∨ ∃ b, p = some ⟨b, 0, none⟩) := by
  rcases h.2 with ⟨rfl, h0⟩ | ⟨g, cap, cur, rfl, hg, hh, h1, h2, _, ht⟩
  · obtain rfl : l = [] := List.eq_nil_of_length_eq_zero h0
    exact ⟨none, 0, rfl, SRow.nil, (fun a h => by cases h), (by simp), Nat.zero_le _, .inl ⟨rfl, rfl, rfl⟩⟩
  · refine ⟨some ⟨g, 0, none⟩, cap, rfl, ?_, (fun a h => by cases h; exact hg), h1, h2, .inr ⟨g, rfl⟩⟩
    intro _
    refine ⟨g, 0, rfl, (Array.getElem?_eq_some_iff.1 hh).1, fun k hk => ?_⟩
    obtain ⟨e1, e2⟩ := cellsS_at l k hk
    rw [← ht, List.getElem?_take_of_lt (by omega)] at e1 e2
    simp only [World.cell?]
    rw [hh]
    simp only [Array.getElem?_toList] at e1 e2
    simp only [Nat.zero_add]
    exact ⟨e1, e2⟩
/-- Spots that a call owns, in memory from B on. -/
structure OwnS (B : Nat) (w : World) (p : Option Addr) (l : List Sp) (c : Nat) : Prop where
  o : w.ownsRow B 34 2 (.slice p l.length c) l.length (cellsS l)
  n : l.length ≤ 1099511627776
theorem OwnS.i {B : Nat} {w : World} {p : Option Addr} {l : List Sp} {c : Nat} (h : OwnS B w p l c) : SRow w.heap.size w p l := by
  obtain ⟨p', c', e, hi, _⟩ := srow_owns h.o
  cases e; exact hi
theorem OwnS.r {B : Nat} {w : World} {p : Option Addr} {l : List Sp} {c : Nat} (h : OwnS B w p l c) : l.length ≤ c ∧ c ≤ maxLen := by
  obtain ⟨p', c', e, _, _, hc, hm, _⟩ := srow_owns h.o
  cases e; exact ⟨hc, hm⟩
theorem OwnS.a {B : Nat} {w : World} {p : Option Addr} {l : List Sp} {c : Nat} (h : OwnS B w p l c) : (p = none ∧ l = [] ∧ c = 0) ∨ ∃ b, p = some ⟨b, 0, none⟩ := by
  obtain ⟨p', c', e, _, _, _, _, ha⟩ := srow_owns h.o
  cases e; exact ha
theorem OwnS.fr {B : Nat} {w : World} {p : Option Addr} {l : List Sp} {c : Nat} (h : OwnS B w p l c) : FreshP B p := by
  obtain ⟨p', c', e, _, hf, _⟩ := srow_owns h.o
  cases e; exact hf
theorem OwnS.to {B : Nat} {w w' : World} {p : Option Addr} {l : List Sp} {c : Nat} (h : OwnS B w p l c) (hb : Below w.heap.size w w') : OwnS B w' p l c :=
  ⟨h.o.kept (row := none) (grown_of_below hb) (by cases (Value.slice p l.length c).ownBlock <;> simp), h.n⟩
theorem OwnS.nil (B : Nat) (w : World) : OwnS B w none [] 0 := ⟨World.ownsRow_nil _ _ _ _, by simp⟩
theorem OwnS.weak {B B' : Nat} {w : World} {p : Option Addr} {l : List Sp} {c : Nat} (h : OwnS B w p l c) (hB : B' ≤ B) : OwnS B' w p l c := ⟨owns_base h.o hB, h.n⟩
theorem OwnS.setCell {B : Nat} {w : World} {q : Option Addr} {l : List Sp} {c : Nat} (h : OwnS B w q l c) {a : Addr} (hne : ∀ x, q = some x → x.block ≠ a.block) (u : Value) : OwnS B (w.setCell a u) q l c := ⟨owns_setCell h.o hne u, h.n⟩
theorem Try.info34 : (Try.prog.info? 34).map (fun i => (i.zero, i.size, i.bytes)) = some (some (.agg #[.int .i64 0, .int .i64 0]), 2, 16) := by kernel_rfl
theorem Try.size34 : (Try.prog.info? 34).map (·.size) = some 2 := by kernel_rfl
theorem Try.cells34 : Try.prog.cellsOf 34 = 2 := by kernel_rfl
/-- Two rows are the same. -/
def samS (a b : List Sp) : Bool := decide (a = b)
theorem samS_refl (l : List Sp) : samS l l = true := by simp [samS]
theorem samS_len {l r : List Sp} (h : l.length ≠ r.length) : samS l r = false := by
  unfold samS; rw [decide_eq_false]; intro e; rw [e] at h; exact h rfl
theorem samS_at {l r : List Sp} (k : Nat) (h : ¬ sG l k = sG r k) : samS l r = false := by
  unfold samS; rw [decide_eq_false]; intro e; rw [e] at h; exact h rfl
theorem samS_all {l r : List Sp} (hl : l.length = r.length) (h : ∀ k, k < l.length → sG l k = sG r k) : samS l r = true := by
  unfold samS; rw [decide_eq_true]
  refine List.ext_getElem hl fun k h1 h2 => ?_
  have := h k h1
  rwa [sG_eq h1, sG_eq h2] at this
end Go.Proofs.Ytijlkdppjmfbhaa
