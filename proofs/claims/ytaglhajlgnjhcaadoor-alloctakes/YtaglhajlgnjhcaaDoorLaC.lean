/- AllocTakes: a row of rows of ids that came in. -/
import Derived.Test.YtaglhajlgnjhcaaDoorLaB
import Derived.Test.YtaglhajlgnjhcaaDoorAlQ
import Derived.Deep.Slices
namespace Go.Proofs.YtaglhajlgnjhcaaDoor
open Go.ChangeShapes Go.WideShapes Go.ChangeAt Go.RowKit

theorem cells36 : Tryd.prog.cellsOf 36 = 1 := by kernel_rfl
/-- A row of ids that came in. -/
structure InI (W : World) (p : Option Addr) (l : List Int) (c : Nat) : Prop where
  i : IRow .u64 W.heap.size W p l
  a : AdOk p ∨ l.length = 0
  r : l.length ≤ c
  u : idsOk l
theorem InI.to {W W' : World} {p : Option Addr} {l : List Int} {c : Nat} (h : InI W p l c) (hb : Below W.heap.size W W') : InI W' p l c := ⟨(h.i.below hb (Nat.le_refl _)).mono hb.size, h.a, h.r, h.u⟩
/-- The k-th of a row of rows: where it lies, what it holds, its room. -/
abbrev RR := Option Addr × List Int × Nat
def rP (R : List RR) (k : Nat) : Option Addr := (R.getD k (none, [], 0)).1
def rL (R : List RR) (k : Nat) : List Int := (R.getD k (none, [], 0)).2.1
def rC (R : List RR) (k : Nat) : Nat := (R.getD k (none, [], 0)).2.2
def VRow (N : Nat) (W : World) (p : Option Addr) (R : List RR) : Prop :=
  0 < R.length → ∃ b off, p = some ⟨b, off, none⟩ ∧ b < N ∧ ∀ k, k < R.length → W.cell? ⟨b, off + k, none⟩ = some (.slice (rP R k) (rL R k).length (rC R k)) ∧ InI W (rP R k) (rL R k) (rC R k)
theorem VRow.to {W W' : World} {p : Option Addr} {R : List RR} (h : VRow W.heap.size W p R) (hb : Below W.heap.size W W') : VRow W'.heap.size W' p R := by
  intro h0
  obtain ⟨b, off, rfl, hN, hc⟩ := h h0
  refine ⟨b, off, rfl, Nat.lt_of_lt_of_le hN hb.size, fun k hk => ⟨(hb.cell (p := ⟨b, off + k, none⟩) hN).trans (hc k hk).1, (hc k hk).2.to hb⟩⟩
section
variable {H : Type} {enc : TypeId × Value → H} {W : World}
theorem u64_bd {n : Int} (h : (Lit.int .u64 n).wf = true) : 0 ≤ n ∧ n < 18446744073709551616 := by
  have a1 : IntKind.u64.min = 0 := by decide
  have b1 : IntKind.u64.max = 18446744073709551615 := by decide
  simp [Lit.wf, a1, b1] at h; omega
theorem ids_trod {fuel : Nat} {v : Value} {x : DataW H × List MemPlace} (h : DataW.trod enc Tryd.prog W 0 (fun _ => true) true fuel 36 [v] = some x) : ∃ p l c, v = .slice p l.length c ∧ InI W p l c := by
  obtain ⟨p, l, c, e, h1, h2, h3, h4⟩ := ints_of Tryd.underlying36 Tryd.underlying41 cells41 h
  refine ⟨p, l, c, e, h1, h2, h3, fun k hk => ?_⟩
  have e : iG l k = l[k] := by simp [iG, hk]
  rw [e]; exact u64_bd (h4 _ (List.getElem_mem hk))
set_option maxRecDepth 100000 in
/-- A row of rows of ids that came in. -/
theorem rows_of {r : Reach} {b0 : Nat} {v : Value} {d : DataW H} {ps : List MemPlace} (hv : Value.okWide Tryd.prog W r b0 46 v) (h : DataW.Trod enc Tryd.prog W 0 (fun _ => true) true 46 v d ps) : ∃ p R c, v = .slice p R.length c ∧ VRow W.heap.size W p R ∧ R.length ≤ maxLen := by
  obtain ⟨a0, n0, c0, rfl⟩ := okWide_slice Tryd.underlying46 hv
  obtain ⟨fuel, hf⟩ := h
  have hf1 : DataW.trod enc Tryd.prog W 0 (fun _ => true) true fuel 46 [.slice a0 n0 c0] = some (d, ps) := hf
  rcases Deep.open_slice1 Tryd.underlying46 cells36 hf1 with ⟨hv, _⟩ | ⟨a, len, cap, m, n, V, D, Pl, hv, _, hl, hm, hmm, _, hx⟩
  · exact ⟨none, [], 0, by simpa using hv, (fun h => by simp at h), by simp⟩
  · have hmm' : m = cap := by simpa using hmm
    have hx' : ∀ i, i < len → ∃ r : RR, V i = .slice r.1 r.2.1.length r.2.2 ∧ InI W r.1 r.2.1 r.2.2 := fun i hi => by
      obtain ⟨p, l, c, e, h⟩ := ids_trod (hx i (by omega)).2
      exact ⟨(p, l, c), e, h⟩
    obtain ⟨f, hf⟩ := Deep.choose_lt (α := RR) (p := fun i r => V i = .slice r.1 r.2.1.length r.2.2 ∧ InI W r.1 r.2.1 r.2.2) hx'
    refine ⟨some a, (List.range len).map f, cap, by simpa using hv, ?_, by simp; omega⟩
    intro h0
    have h0' : 0 < len := by simpa using h0
    obtain ⟨b, off, rfl⟩ := addr_spot (hx 0 (by omega)).1
    have hb := World.block_lt_of_cell? _ _ (hx 0 (by omega)).1
    rw [addr_add] at hb
    refine ⟨b, off, rfl, by simpa using hb, fun k hk => ?_⟩
    have hk' : k < len := by simpa using hk
    have e0 := (hx k (by omega)).1
    rw [addr_add, (hf k hk').1] at e0
    have e1 : ((List.range len).map f).getD k (none, [], 0) = f k := by simp [hk']
    unfold rP rL rC
    rw [e1]
    exact ⟨e0, (hf k hk').2⟩
end
end Go.Proofs.YtaglhajlgnjhcaaDoor
