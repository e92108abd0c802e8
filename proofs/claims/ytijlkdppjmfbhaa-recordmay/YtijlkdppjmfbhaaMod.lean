/- Rows of words in memory: their readings, rows that a call owns, how rows stand. -/
import Derived.Test.YtijlkdppjmfbhaaProg
import Derived.WalkKit
import Derived.WalkSpells
import Derived.WalkSmall
import Derived.Below
import Derived.Sort.AtCall
import Derived.Deep.QuietTactic
import Derived.BigQuiet
import Derived.Laws.CopyOwn
import Derived.Laws.IdiomCopy
import Derived.Lib.SliceRun
import Derived.Maps.AppendAt
namespace Go.Proofs.Ytijlkdppjmfbhaa
open Go.RowKit

theorem below_drewN' {B : Nat} {a w : World} (h : Below B a w) (n : Nat) : Below B a (w.drewN n) := ⟨h.os, h.tape, h.output, h.size, h.block⟩
theorem bcell {W w1 : World} (hb : Below W.heap.size W w1) : (∀ b o, b < W.heap.size → w1.cell? ⟨b, o, none⟩ = W.cell? ⟨b, o, none⟩) ∧ (∀ b o, b < W.heap.size → w1.frozen? ⟨b, o, none⟩ = W.frozen? ⟨b, o, none⟩) :=
  ⟨fun b o h => hb.cell (p := ⟨b, o, none⟩) h, fun b o h => hb.frozen (p := ⟨b, o, none⟩) h⟩
theorem below1 {w w' : World} {a : Obj} (h : Below (w.alloc a).heap.size (w.alloc a) w') : Below w.heap.size w w' :=
  ((Below.refl _ _).alloc (Nat.le_refl _) _).trans (h.mono (by simp))
theorem below2 {w w' : World} {a b : Obj} (h : Below ((w.alloc a).alloc b).heap.size ((w.alloc a).alloc b) w') : Below w.heap.size w w' :=
  below1 (below1 h)
theorem hidOg {p : Prop} (h : p) : Hid p := h
theorem ret_bool {a b : Bool} (h : a = b) : Ending.returned (.bool a) = .returned (.bool b) := by rw [h]
theorem ret_int {k : IntKind} {a b : Int} (h : a = b) : Ending.returned (.int k a) = .returned (.int k b) := by rw [h]
/-- The k-th number of a row. -/
def iG (l : List Int) (k : Nat) : Int := l.getD k 0
theorem iG_eq {l : List Int} {k : Nat} (h : k < l.length) : iG l k = l[k] := by simp [iG, h]
/-- The slice that begins at p holds the numbers l, of the kind q, in a block below N. -/
def IRow (q : IntKind) (N : Nat) (w : World) (p : Option Addr) (l : List Int) : Prop :=
  0 < l.length → ∃ b off, p = some ⟨b, off, none⟩ ∧ b < N ∧ ∀ k, k < l.length → w.cell? ⟨b, off + k, none⟩ = some (.int q (iG l k))
theorem IRow.below {q : IntKind} {N M : Nat} {w w' : World} {p : Option Addr} {l : List Int} (h : IRow q N w p l) (hb : Below M w w') (hm : N ≤ M) : IRow q N w' p l := by
  intro h0
  obtain ⟨b, off, rfl, hN, hc⟩ := h h0
  exact ⟨b, off, rfl, hN, fun k hk => (hb.cell (p := ⟨b, off + k, none⟩) (by simp; omega)).trans (hc k hk)⟩
theorem IRow.mono {q : IntKind} {N M : Nat} {w : World} {p : Option Addr} {l : List Int} (h : IRow q N w p l) (hm : N ≤ M) : IRow q M w p l := by
  intro h0
  obtain ⟨b, off, rfl, hN, hc⟩ := h h0
  exact ⟨b, off, rfl, by omega, hc⟩
theorem IRow.nil {q : IntKind} {N : Nat} {w : World} {p : Option Addr} : IRow q N w p [] := fun h => by simp at h
theorem IRow.to {q : IntKind} {w w' : World} {p : Option Addr} {l : List Int} (h : IRow q w.heap.size w p l) (hb : Below w.heap.size w w') : IRow q w'.heap.size w' p l :=
  (h.below hb (Nat.le_refl _)).mono hb.size
/-- All of a row are numbers of 64 bits. -/
def U64 (l : List Int) : Prop := ∀ x ∈ l, 0 ≤ x ∧ x < 18446744073709551616
theorem iG_mem {l : List Int} {k : Nat} (h : k < l.length) : iG l k ∈ l := by
  have e : iG l k = l[k] := by simp [iG, h]
  rw [e]; exact List.getElem_mem h
theorem U64.at {l : List Int} (h : U64 l) {k : Nat} (hk : k < l.length) : 0 ≤ iG l k ∧ iG l k < 18446744073709551616 := h _ (iG_mem hk)
def cellsI (q : IntKind) (l : List Int) : List Value := l.map (Value.int q)
theorem addr_add (g o i : Nat) : (⟨g, o, none⟩ : Addr).add i = ⟨g, o + i, none⟩ := by unfold Addr.add; split <;> simp_all
theorem cellsI_src {q : IntKind} {w : World} {b off : Nat} {l : List Int} (h : ∀ k, k < l.length → w.cell? ⟨b, off + k, none⟩ = some (.int q (iG l k))) :
    ∀ j v, (cellsI q l)[j]? = some v → w.cell? ((⟨b, off, none⟩ : Addr).add j) = some v := by
  intro j v hj
  have hlt : j < l.length := by have := (List.getElem?_eq_some_iff.1 hj).1; simpa [cellsI] using this
  rw [addr_add, h j hlt, ← hj]
  simp [cellsI, iG, hlt]
theorem cellsI_one (q : IntKind) (l : List Int) : ∀ v ∈ cellsI q l, v.oneCell' = true := by
  intro v h; simp [cellsI] at h; obtain ⟨a, _, rfl⟩ := h; rfl
theorem cellsI_len (q : IntKind) (l : List Int) : (cellsI q l).length = l.length * 1 := by simp [cellsI]
theorem cellsI_append (q : IntKind) (a b : List Int) : cellsI q (a ++ b) = cellsI q a ++ cellsI q b := by simp [cellsI]
theorem iG_take {l : List Int} {i k : Nat} (h : k < i) : iG (l.take i) k = iG l k := by
  unfold iG; rw [List.getD_eq_getElem?_getD, List.getD_eq_getElem?_getD, List.getElem?_take_of_lt h]
theorem iG_drop (l : List Int) (i k : Nat) : iG (l.drop i) k = iG l (i + k) := by
  unfold iG; rw [List.getD_eq_getElem?_getD, List.getD_eq_getElem?_getD, List.getElem?_drop]
theorem IRow.take {q : IntKind} {N : Nat} {w : World} {p : Option Addr} {l : List Int} (h : IRow q N w p l) (i : Nat) : IRow q N w p (l.take i) := by
  intro h0
  have hl : (l.take i).length ≤ l.length := by simp; omega
  obtain ⟨b, off, rfl, hN, hc⟩ := h (by omega)
  refine ⟨b, off, rfl, hN, fun k hk => ?_⟩
  rw [iG_take (by simp at hk; omega)]
  exact hc k (by omega)
/-- A row in memory, with room for at least itself. -/
structure Row (w : World) (p : Option Addr) (l : List Int) (c : Nat) : Prop where
  i : IRow .i64 w.heap.size w p l
  r : l.length ≤ c
  n : l.length ≤ 1099511627776
  a : (p = none ∧ l = [] ∧ c = 0) ∨ ∃ b off, p = some ⟨b, off, none⟩
theorem Row.to {w w' : World} {p : Option Addr} {l : List Int} {c : Nat} (h : Row w p l c) (hb : Below w.heap.size w w') : Row w' p l c := ⟨h.i.to hb, h.r, h.n, h.a⟩
theorem Row.nil (w : World) : Row w none [] 0 := ⟨IRow.nil, by simp, by simp, .inl ⟨rfl, rfl, rfl⟩⟩
def FreshP (B : Nat) (p : Option Addr) : Prop := ∀ a, p = some a → B ≤ a.block
theorem grown_of_below {w w' : World} (hb : Below w.heap.size w w') : w.grownBy w' none := ⟨hb.os, hb.tape, hb.output, hb.size, fun k hk _ => hb.block k hk⟩
/-- A row that the call has made, read as numbers. -/
theorem irow_owns {q : IntKind} {t B : Nat} {w : World} {v : Value} {l : List Int} (h : w.ownsRow B t 1 v l.length (l.map (Value.int q))) :
    ∃ p c, v = .slice p l.length c ∧ IRow q w.heap.size w p l ∧ FreshP B p ∧ l.length ≤ c ∧ ((p = none ∧ l = [] ∧ c = 0) ∨ ∃ b off, p = some ⟨b, off, none⟩) := by
  rcases h.2 with ⟨rfl, h0⟩ | ⟨g, cap, cur, rfl, hg, hh, h1, _, _, ht⟩
  · obtain rfl : l = [] := List.eq_nil_of_length_eq_zero h0
    exact ⟨none, 0, rfl, IRow.nil, (fun a h => by cases h), (by simp), .inl ⟨rfl, rfl, rfl⟩⟩
  · refine ⟨some ⟨g, 0, none⟩, cap, rfl, ?_, (fun a h => by cases h; exact hg), h1, .inr ⟨g, 0, rfl⟩⟩
    intro _
    refine ⟨g, 0, rfl, (Array.getElem?_eq_some_iff.1 hh).1, fun k hk => ?_⟩
    have e : cur.toList[k]? = (l.map (Value.int q))[k]? := by
      rw [← ht, List.getElem?_take_of_lt (by omega)]
    simp only [World.cell?]
    rw [hh]
    simp only [Array.getElem?_toList] at e
    simp [e, iG, hk]
/-- Two rows are one. -/
def samI (l r : List Int) : Bool := decide (l = r)
theorem samI_refl (l : List Int) : samI l l = true := by simp [samI]
theorem samI_len {l r : List Int} (h : l.length ≠ r.length) : samI l r = false := by
  unfold samI; rw [decide_eq_false]; intro e; rw [e] at h; exact h rfl
theorem samI_at {l r : List Int} (k : Nat) (h : ¬ iG l k = iG r k) : samI l r = false := by
  unfold samI; rw [decide_eq_false]; intro e; rw [e] at h; exact h rfl
theorem samI_all {l r : List Int} (hl : l.length = r.length) (h : ∀ k, k < l.length → iG l k = iG r k) : samI l r = true := by
  unfold samI; rw [decide_eq_true]
  refine List.ext_getElem hl fun k h1 h2 => ?_
  have := h k h1
  rwa [iG_eq h1, iG_eq h2] at this
/-- A row elsewhere stays where only one block turns. -/
theorem IRow.grown {q : IntKind} {w w' : World} {p : Option Addr} {l : List Int} {row : Option Nat} (h : IRow q w.heap.size w p l) (hg : w.grownBy w' row) (hne : ∀ a, p = some a → some a.block ≠ row) : IRow q w'.heap.size w' p l := by
  intro h0
  obtain ⟨b, off, rfl, hN, hc⟩ := h h0
  refine ⟨b, off, rfl, Nat.lt_of_lt_of_le hN hg.size, fun k hk => ?_⟩
  rw [← hc k hk]
  have e := hg.block b hN (hne _ rfl)
  simp only [World.cell?]
  rw [e]
/-- A row that the law owns, in memory from B on. -/
structure OwnR (B : Nat) (w : World) (p : Option Addr) (l : List Int) (c : Nat) : Prop where
  o : w.ownsRow B 3 1 (.slice p l.length c) l.length (l.map (Value.int .i64))
  n : l.length ≤ 1099511627776
theorem OwnR.row {B : Nat} {w : World} {p : Option Addr} {l : List Int} {c : Nat} (h : OwnR B w p l c) : Row w p l c := by
  obtain ⟨p', c', e, hi, _, hc, ha⟩ := irow_owns h.o
  cases e
  exact ⟨hi, hc, h.n, ha⟩
theorem OwnR.fr {B : Nat} {w : World} {p : Option Addr} {l : List Int} {c : Nat} (h : OwnR B w p l c) : FreshP B p := by
  obtain ⟨p', c', e, _, hf, _⟩ := irow_owns h.o
  cases e
  exact hf
theorem OwnR.lt {B : Nat} {w : World} {p : Option Addr} {l : List Int} {c : Nat} (h : OwnR B w p l c) : ∀ a, p = some a → a.block < w.heap.size := by
  intro a ha
  rcases h.o.2 with ⟨e, _⟩ | ⟨g, cap, cur, e, _, hh, _⟩
  · injection e with e1; rw [ha] at e1; cases e1
  · injection e with e1; rw [ha] at e1; cases e1; exact (Array.getElem?_eq_some_iff.1 hh).1
theorem OwnR.to {B : Nat} {w w' : World} {p : Option Addr} {l : List Int} {c : Nat} (h : OwnR B w p l c) (hb : Below w.heap.size w w') : OwnR B w' p l c :=
  ⟨h.o.kept (row := none) (grown_of_below hb) (by cases (Value.slice p l.length c).ownBlock <;> simp), h.n⟩
theorem OwnR.nil (B : Nat) (w : World) : OwnR B w none [] 0 := ⟨World.ownsRow_nil _ _ _ _, by simp⟩
theorem Try.info3 : (Try.prog.info? 3).map (fun i => (i.zero, i.size, i.bytes)) = some (some (.int .i64 0), 1, 8) := by kernel_rfl
end Go.Proofs.Ytijlkdppjmfbhaa
