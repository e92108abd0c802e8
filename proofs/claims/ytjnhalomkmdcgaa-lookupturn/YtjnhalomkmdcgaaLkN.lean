/- Rows of rows of ids, and rows of steps, that came in (stage 7), over whatever program. -/
import Derived.Test.YtjnhalomkmdcgaaLkM
namespace Go.Proofs.Ytjnhalomkmdcgaa
open Go.ChangeShapes Go.WideShapes Go.ChangeAt Go.RowKit

/-- The k-th of a row of rows. -/
def rG (R : List (List Int)) (k : Nat) : List Int := R.getD k []
/-- The slice that begins at p holds the rows R, all in blocks below N. -/
def RRow (N : Nat) (w : World) (p : Option Addr) (R : List (List Int)) : Prop :=
  0 < R.length → ∃ b off, p = some ⟨b, off, none⟩ ∧ b < N ∧ ∀ k, k < R.length → ∃ q c, w.cell? ⟨b, off + k, none⟩ = some (.slice q (rG R k).length c) ∧ TRow N w q (rG R k) c
theorem RRow.below {N M : Nat} {w w' : World} {p : Option Addr} {R : List (List Int)} (h : RRow N w p R) (hb : Below M w w') (hm : N ≤ M) : RRow N w' p R := by
  intro h0
  obtain ⟨b, off, rfl, hN, hc⟩ := h h0
  refine ⟨b, off, rfl, hN, fun k hk => ?_⟩
  obtain ⟨q, c, c1, ht⟩ := hc k hk
  exact ⟨q, c, (hb.cell (p := ⟨b, off + k, none⟩) (by simp; omega)).trans c1, ht.below hb hm⟩
theorem RRow.mono {N M : Nat} {w : World} {p : Option Addr} {R : List (List Int)} (h : RRow N w p R) (hm : N ≤ M) : RRow M w p R := by
  intro h0
  obtain ⟨b, off, rfl, hN, hc⟩ := h h0
  refine ⟨b, off, rfl, by omega, fun k hk => ?_⟩
  obtain ⟨q, c, c1, ht⟩ := hc k hk
  exact ⟨q, c, c1, ht.mono hm⟩
theorem RRow.to {w w' : World} {p : Option Addr} {R : List (List Int)} (h : RRow w.heap.size w p R) (hb : Below w.heap.size w w') : RRow w'.heap.size w' p R := (h.below hb (Nat.le_refl _)).mono hb.size
theorem RRow.nil {N : Nat} {w : World} {p : Option Addr} : RRow N w p [] := fun h => by simp at h
/-- A step: is it a drop; its type; its number. -/
abbrev Stp := Bool × List Int × Int
def sG (S : List Stp) (k : Nat) : Stp := S.getD k (false, [], 0)
/-- The slice that begins at p holds the steps S, all in blocks below N. -/
def PRow (N : Nat) (w : World) (p : Option Addr) (S : List Stp) : Prop :=
  0 < S.length → ∃ b off, p = some ⟨b, off, none⟩ ∧ b < N ∧ ∀ k, k < S.length →
    w.cell? ⟨b, off + k * 3, none⟩ = some (.bool (sG S k).1) ∧
    (∃ q c, w.cell? ⟨b, off + k * 3 + 1, none⟩ = some (.slice q (sG S k).2.1.length c) ∧ TRow N w q (sG S k).2.1 c) ∧
    w.cell? ⟨b, off + k * 3 + 2, none⟩ = some (.int .i64 (sG S k).2.2)
theorem PRow.below {N M : Nat} {w w' : World} {p : Option Addr} {S : List Stp} (h : PRow N w p S) (hb : Below M w w') (hm : N ≤ M) : PRow N w' p S := by
  intro h0
  obtain ⟨b, off, rfl, hN, hc⟩ := h h0
  refine ⟨b, off, rfl, hN, fun k hk => ?_⟩
  obtain ⟨c0, ⟨q, c, c1, ht⟩, c2⟩ := hc k hk
  exact ⟨(hb.cell (p := ⟨b, off + k * 3, none⟩) (by simp; omega)).trans c0, ⟨q, c, (hb.cell (p := ⟨b, off + k * 3 + 1, none⟩) (by simp; omega)).trans c1, ht.below hb hm⟩, (hb.cell (p := ⟨b, off + k * 3 + 2, none⟩) (by simp; omega)).trans c2⟩
section
variable {H : Type} {enc : TypeId × Value → H} {P : Program} {W : World}
/-- Rows of ids that came in. -/
theorem rows_of {t e te : TypeId} {fuel : Nat} {v : Value} {x : DataW H × List MemPlace} (ht : P.underlying t = some (.slice e)) (he : P.underlying e = some (.slice te)) (ce : P.cellsOf e = 1) (hte : P.underlying te = some (.int .u64)) (cte : P.cellsOf te = 1)
    (h : DataW.trod enc P W 0 (fun _ => true) true fuel t [v] = some x) : ∃ p R c, v = .slice p R.length c ∧ RRow W.heap.size W p R ∧ R.length ≤ c ∧ c ≤ maxLen := by
  rcases Deep.open_slice1 ht ce h with ⟨hv, _⟩ | ⟨a, len, cap, m, n, V, D, Pl, hv, _, hl, hm, hmm, _, hx⟩
  · exact ⟨none, [], 0, by simpa using hv, RRow.nil, by simp, by simp [maxLen]⟩
  · have hmm' : m = cap := by simpa using hmm
    have hx' : ∀ i, i < len → ∃ l : List Int, ∃ q c, V i = .slice q l.length c ∧ TRow W.heap.size W q l c := fun i hi => by
      obtain ⟨q, l, c, e, hr, _⟩ := row_of he hte cte (hx i (by omega)).2
      exact ⟨l, q, c, e, hr⟩
    obtain ⟨f, hf⟩ := Deep.choose_lt hx'
    refine ⟨some a, (List.range len).map f, cap, by simpa using hv, ?_, by simpa using hl, hm⟩
    intro h0
    have h0' : 0 < len := by simpa using h0
    obtain ⟨b, off, rfl⟩ := addr_spot (hx 0 (by omega)).1
    have hb := World.block_lt_of_cell? _ _ (hx 0 (by omega)).1
    rw [addr_add] at hb
    refine ⟨b, off, rfl, by simpa using hb, fun k hk => ?_⟩
    have hk' : k < len := by simpa using hk
    have e0 := (hx k (by omega)).1
    obtain ⟨q, c, e2, hr⟩ := hf k hk'
    rw [addr_add, e2] at e0
    have e1 : rG ((List.range len).map f) k = f k := by simp [rG, hk']
    rw [e1]
    exact ⟨q, c, e0, hr⟩
/-- Steps that came in. -/
theorem steps_of {t e te : TypeId} {f0 f1 f2 : Field} {fuel : Nat} {v : Value} {x : DataW H × List MemPlace} (ht : P.underlying t = some (.slice e)) (he : P.underlying e = some (.struct #[f0, f1, f2]))
    (ce : P.cellsOf e = 3) (o0 : f0.offset = 0) (o1 : f1.offset = 1) (o2 : f2.offset = 2) (h0 : P.underlying f0.type = some .bool) (c0 : P.cellsOf f0.type = 1) (h2 : P.underlying f2.type = some (.int .i64)) (c2 : P.cellsOf f2.type = 1)
    (h1 : P.underlying f1.type = some (.slice te)) (c1 : P.cellsOf f1.type = 1) (hte : P.underlying te = some (.int .u64)) (cte : P.cellsOf te = 1)
    (h : DataW.trod enc P W 0 (fun _ => true) true fuel t [v] = some x) : ∃ p S c, v = .slice p S.length c ∧ PRow W.heap.size W p S ∧ S.length ≤ c ∧ c ≤ maxLen := by
  obtain ⟨p, len, c, rfl, hl, hm, hr⟩ := triples_of ht he ce o0 o1 o2 c0 c1 c2 h
  by_cases hz : 0 < len
  · obtain ⟨b, off, rfl, hb, hc⟩ := hr hz
    have each : ∀ k, k < len → ∃ y : Stp, W.cell? ⟨b, off + k * 3, none⟩ = some (.bool y.1) ∧ (∃ q c, W.cell? ⟨b, off + k * 3 + 1, none⟩ = some (.slice q y.2.1.length c) ∧ TRow W.heap.size W q y.2.1 c) ∧ W.cell? ⟨b, off + k * 3 + 2, none⟩ = some (.int .i64 y.2.2) := by
      intro k hk
      obtain ⟨v0, v1, v2, y0, y1, y2, n, q0, q1, q2, g0, g1, g2⟩ := hc k hk
      obtain ⟨s, hs, _⟩ := DataW.trod_bool h0 g0
      obtain ⟨z, hz, _, _⟩ := DataW.trod_int h2 g2
      obtain ⟨q, l, c', rfl, hrow, _⟩ := row_of h1 hte cte g1
      simp at hs hz
      subst hs hz
      exact ⟨(s, l, z), q0, ⟨q, c', q1, hrow⟩, q2⟩
    obtain ⟨f, hf⟩ := Deep.choose_lt each
    refine ⟨some ⟨b, off, none⟩, (List.range len).map f, c, by simp, fun _ => ⟨b, off, rfl, hb, fun k hk => ?_⟩, by simpa using hl, hm⟩
    have hk' : k < len := by simpa using hk
    have e1 : sG ((List.range len).map f) k = f k := by simp [sG, hk']
    rw [e1]
    exact hf k hk'
  · obtain rfl : len = 0 := by omega
    exact ⟨p, [], c, rfl, (fun h => by simp at h), by simp, hm⟩
end
end Go.Proofs.Ytjnhalomkmdcgaa
