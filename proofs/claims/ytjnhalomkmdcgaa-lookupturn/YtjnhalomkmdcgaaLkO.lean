/- Rows of slots in memory (stage 7), over whatever program: a struct of three cells, the second of which is a row of ids. -/
/- Rows of rows of ids, and rows of steps, that came in (stage 7), over whatever program. -/
/- Rows of slots that a call owns (stage 7), over whatever program: their cells, how they read, one that is written over. -/
import Derived.Test.YtjnhalomkmdcgaaLkC
import Derived.Test.YtjnhalomkmdcgaaTyJ
import Derived.Below
import Derived.ProofKit
import Derived.OpenShut
import Derived.Deep.Slices
import Derived.Deep.Strs
import Derived.Lib.SmallJoins
import Derived.Laws.AppendOwn
import Derived.Laws.Rows
import Derived.Maps.AppendAt
namespace Go.Proofs.Ytjnhalomkmdcgaa
open Go.ChangeShapes Go.WideShapes Go.ChangeAt Go.RowKit

theorem addr_spot {w : World} {a : Addr} {v : Value} (h : w.cell? (a.add 0) = some v) : ∃ b off, a = ⟨b, off, none⟩ := by
  obtain ⟨b, off, sp⟩ := a
  cases sp with
  | none => exact ⟨b, off, rfl⟩
  | some s =>
    exfalso; revert h
    unfold World.cell? Addr.add
    simp only [if_true, Option.isSome_some]
    split <;> simp
theorem u64_bd {n : Int} (h : (Lit.int .u64 n).wf = true) : 0 ≤ n ∧ n < 18446744073709551616 := by
  have a1 : IntKind.u64.min = 0 := by decide
  have b1 : IntKind.u64.max = 18446744073709551615 := by decide
  simp [Lit.wf, a1, b1] at h; omega
/-- A row of ids in a block below N. -/
structure TRow (N : Nat) (w : World) (p : Option Addr) (l : List Int) (c : Nat) : Prop where
  i : IRow .u64 N w p l
  r : l.length ≤ c
  u : U64 l
theorem TRow.below {N M : Nat} {w w' : World} {p : Option Addr} {l : List Int} {c : Nat} (h : TRow N w p l c) (hb : Below M w w') (hm : N ≤ M) : TRow N w' p l c := ⟨h.i.below hb hm, h.r, h.u⟩
theorem TRow.mono {N M : Nat} {w : World} {p : Option Addr} {l : List Int} {c : Nat} (h : TRow N w p l c) (hm : N ≤ M) : TRow M w p l c := ⟨h.i.mono hm, h.r, h.u⟩
/-- The slice that begins at p holds the slots L, they and their types in blocks below N. -/
def ERow (N : Nat) (w : World) (p : Option Addr) (L : List En) : Prop :=
  0 < L.length → ∃ b off, p = some ⟨b, off, none⟩ ∧ b < N ∧ ∀ k, k < L.length →
    w.cell? ⟨b, off + k * 3, none⟩ = some (.int .i64 (gE L k).1) ∧
    (∃ q c, w.cell? ⟨b, off + k * 3 + 1, none⟩ = some (.slice q (gE L k).2.1.length c) ∧ TRow N w q (gE L k).2.1 c) ∧
    w.cell? ⟨b, off + k * 3 + 2, none⟩ = some (.int .i64 (gE L k).2.2)
theorem ERow.below {N M : Nat} {w w' : World} {p : Option Addr} {L : List En} (h : ERow N w p L) (hb : Below M w w') (hm : N ≤ M) : ERow N w' p L := by
  intro h0
  obtain ⟨b, off, rfl, hN, hc⟩ := h h0
  refine ⟨b, off, rfl, hN, fun k hk => ?_⟩
  obtain ⟨c0, ⟨q, c, c1, ht⟩, c2⟩ := hc k hk
  exact ⟨(hb.cell (p := ⟨b, off + k * 3, none⟩) (by simp; omega)).trans c0, ⟨q, c, (hb.cell (p := ⟨b, off + k * 3 + 1, none⟩) (by simp; omega)).trans c1, ht.below hb hm⟩, (hb.cell (p := ⟨b, off + k * 3 + 2, none⟩) (by simp; omega)).trans c2⟩
theorem ERow.mono {N M : Nat} {w : World} {p : Option Addr} {L : List En} (h : ERow N w p L) (hm : N ≤ M) : ERow M w p L := by
  intro h0
  obtain ⟨b, off, rfl, hN, hc⟩ := h h0
  refine ⟨b, off, rfl, by omega, fun k hk => ?_⟩
  obtain ⟨c0, ⟨q, c, c1, ht⟩, c2⟩ := hc k hk
  exact ⟨c0, ⟨q, c, c1, ht.mono hm⟩, c2⟩
theorem ERow.to {w w' : World} {p : Option Addr} {L : List En} (h : ERow w.heap.size w p L) (hb : Below w.heap.size w w') : ERow w'.heap.size w' p L := (h.below hb (Nat.le_refl _)).mono hb.size
theorem ERow.nil {N : Nat} {w : World} {p : Option Addr} : ERow N w p [] := fun h => by simp at h
theorem gE_take {L : List En} {i k : Nat} (h : k < i) : gE (L.take i) k = gE L k := by
  unfold gE; rw [List.getD_eq_getElem?_getD, List.getD_eq_getElem?_getD, List.getElem?_take_of_lt h]
theorem ERow.take {N : Nat} {w : World} {p : Option Addr} {L : List En} (h : ERow N w p L) (i : Nat) : ERow N w p (L.take i) := by
  intro h0
  have hl : (L.take i).length ≤ L.length := by simp; omega
  obtain ⟨b, off, rfl, hN, hc⟩ := h (by omega)
  refine ⟨b, off, rfl, hN, fun k hk => ?_⟩
  rw [gE_take (by simp at hk; omega)]
  exact hc k (by omega)
section
variable {H : Type} {enc : TypeId × Value → H} {P : Program} {W : World}
/-- A row of structs of three cells that came in. -/
theorem triples_of {t e : TypeId} {f0 f1 f2 : Field} {fuel : Nat} {v : Value} {x : DataW H × List MemPlace} (ht : P.underlying t = some (.slice e)) (he : P.underlying e = some (.struct #[f0, f1, f2]))
    (ce : P.cellsOf e = 3) (o0 : f0.offset = 0) (o1 : f1.offset = 1) (o2 : f2.offset = 2) (c0 : P.cellsOf f0.type = 1) (c1 : P.cellsOf f1.type = 1) (c2 : P.cellsOf f2.type = 1)
    (h : DataW.trod enc P W 0 (fun _ => true) true fuel t [v] = some x) :
    ∃ p len c, v = .slice p len c ∧ len ≤ c ∧ c ≤ maxLen ∧ (0 < len → ∃ b off, p = some ⟨b, off, none⟩ ∧ b < W.heap.size ∧ ∀ k, k < len → ∃ v0 v1 v2 y0 y1 y2 n,
      W.cell? ⟨b, off + k * 3, none⟩ = some v0 ∧ W.cell? ⟨b, off + k * 3 + 1, none⟩ = some v1 ∧ W.cell? ⟨b, off + k * 3 + 2, none⟩ = some v2 ∧
      DataW.trod enc P W 0 (fun _ => true) true n f0.type [v0] = some y0 ∧ DataW.trod enc P W 0 (fun _ => true) true n f1.type [v1] = some y1 ∧ DataW.trod enc P W 0 (fun _ => true) true n f2.type [v2] = some y2) := by
  rcases Deep.open_slice ht h with ⟨hv, _⟩ | ⟨a, len, cap, m, n, D, Pl, hv, _, hl, hm, hmm, _, hx⟩
  · exact ⟨none, 0, 0, by simpa using hv, Nat.le_refl _, by simp [maxLen], fun h => by omega⟩
  · have hmm' : m = cap := by simpa using hmm
    have each : ∀ i, i < len → ∃ v0 v1 v2 y0 y1 y2 n, W.cell? (a.add (i * 3)) = some v0 ∧ W.cell? (a.add (i * 3 + 1)) = some v1 ∧ W.cell? (a.add (i * 3 + 2)) = some v2 ∧
        DataW.trod enc P W 0 (fun _ => true) true n f0.type [v0] = some y0 ∧ DataW.trod enc P W 0 (fun _ => true) true n f1.type [v1] = some y1 ∧ DataW.trod enc P W 0 (fun _ => true) true n f2.type [v2] = some y2 := by
      intro i hi
      obtain ⟨cs', h1, h2⟩ := hx i (by omega)
      rw [ce] at h1
      obtain ⟨_, hlen, hcell⟩ := World.cells?_some h1
      obtain ⟨y0, y1, y2, k, _, _, g0, g1, g2⟩ := Deep.trod_struct3 he h2
      match cs', hlen with
      | [v0, v1, v2], _ =>
        simp [o0, o1, o2, c0, c1, c2] at g0 g1 g2
        have e0 := hcell 0 (by omega)
        have e1 := hcell 1 (by omega)
        have e2 := hcell 2 (by omega)
        rw [Deep.add_add] at e0 e1 e2
        exact ⟨v0, v1, v2, y0, y1, y2, k, by simpa using e0, by simpa using e1, by simpa using e2, g0, g1, g2⟩
    refine ⟨some a, len, cap, by simpa using hv, hl, hm, fun h0 => ?_⟩
    obtain ⟨v0, _, _, _, _, _, _, q0, _⟩ := each 0 h0
    rw [Nat.zero_mul] at q0
    obtain ⟨b, off, rfl⟩ := addr_spot q0
    have hb := World.block_lt_of_cell? _ _ q0
    rw [addr_add] at hb
    refine ⟨b, off, rfl, by simpa using hb, fun k hk => ?_⟩
    obtain ⟨v0, v1, v2, y0, y1, y2, n, q0, q1, q2, g⟩ := each k hk
    rw [addr_add] at q0 q1 q2
    exact ⟨v0, v1, v2, y0, y1, y2, n, q0, by simpa [Nat.add_assoc] using q1, by simpa [Nat.add_assoc] using q2, g⟩
/-- A row of ids that came in. -/
theorem row_of {t e : TypeId} {fuel : Nat} {v : Value} {x : DataW H × List MemPlace} (ht : P.underlying t = some (.slice e)) (he : P.underlying e = some (.int .u64)) (hc : P.cellsOf e = 1) (h : DataW.trod enc P W 0 (fun _ => true) true fuel t [v] = some x) :
    ∃ p l c, v = .slice p l.length c ∧ TRow W.heap.size W p l c ∧ c ≤ maxLen := by
  rcases open_ints ht he hc h with ⟨hv, _⟩ | ⟨a, len, cap, zs, hv, _, hl, hm, hz, _, hcs, hw⟩
  · exact ⟨none, [], 0, by simpa using hv, ⟨IRow.nil, by simp, fun y hy => by simp at hy⟩, by simp [maxLen]⟩
  · have hz' : zs.length = cap := by simpa using hz
    have hlen : (zs.take len).length = len := by simp; omega
    refine ⟨some a, zs.take len, cap, by rw [hlen]; simpa using hv, ⟨?_, by omega, fun z hz => u64_bd (hw z (List.mem_of_mem_take hz))⟩, hm⟩
    intro h0
    have h0' : 0 < len := by omega
    obtain ⟨b, off, rfl⟩ := addr_spot (hcs 0 (by omega))
    have hb := World.block_lt_of_cell? _ _ (hcs 0 (by omega))
    rw [addr_add] at hb
    refine ⟨b, off, rfl, by simpa using hb, fun i hi => ?_⟩
    have e0 := hcs i (by omega)
    rw [addr_add] at e0
    rw [e0, iG_take (by omega)]; rfl
/-- A row of slots that came in. -/
theorem entries_of {t e ti te : TypeId} {f0 f1 f2 : Field} {fuel : Nat} {v : Value} {x : DataW H × List MemPlace} (ht : P.underlying t = some (.slice e)) (he : P.underlying e = some (.struct #[f0, f1, f2]))
    (ce : P.cellsOf e = 3) (o0 : f0.offset = 0) (o1 : f1.offset = 1) (o2 : f2.offset = 2) (t0 : f0.type = ti) (t2 : f2.type = ti) (hi : P.underlying ti = some (.int .i64)) (ci : P.cellsOf ti = 1)
    (h1 : P.underlying f1.type = some (.slice te)) (c1 : P.cellsOf f1.type = 1) (hte : P.underlying te = some (.int .u64)) (cte : P.cellsOf te = 1)
    (h : DataW.trod enc P W 0 (fun _ => true) true fuel t [v] = some x) : ∃ p L c, v = .slice p L.length c ∧ ERow W.heap.size W p L ∧ L.length ≤ c ∧ c ≤ maxLen := by
  obtain ⟨p, len, c, rfl, hl, hm, hr⟩ := triples_of ht he ce o0 o1 o2 (by rw [t0]; exact ci) c1 (by rw [t2]; exact ci) h
  by_cases h0 : 0 < len
  · obtain ⟨b, off, rfl, hb, hc⟩ := hr h0
    have each : ∀ k, k < len → ∃ y : En, W.cell? ⟨b, off + k * 3, none⟩ = some (.int .i64 y.1) ∧ (∃ q c, W.cell? ⟨b, off + k * 3 + 1, none⟩ = some (.slice q y.2.1.length c) ∧ TRow W.heap.size W q y.2.1 c) ∧ W.cell? ⟨b, off + k * 3 + 2, none⟩ = some (.int .i64 y.2.2) := by
      intro k hk
      obtain ⟨v0, v1, v2, y0, y1, y2, n, q0, q1, q2, g0, g1, g2⟩ := hc k hk
      rw [t0] at g0
      rw [t2] at g2
      obtain ⟨s, hs, _, _⟩ := DataW.trod_int hi g0
      obtain ⟨z, hz, _, _⟩ := DataW.trod_int hi g2
      obtain ⟨q, l, c', rfl, hrow, _⟩ := row_of h1 hte cte g1
      simp at hs hz
      subst hs hz
      exact ⟨(s, l, z), q0, ⟨q, c', q1, hrow⟩, q2⟩
    obtain ⟨f, hf⟩ := Deep.choose_lt each
    refine ⟨some ⟨b, off, none⟩, (List.range len).map f, c, by simp, fun _ => ⟨b, off, rfl, hb, fun k hk => ?_⟩, by simpa using hl, hm⟩
    have hk' : k < len := by simpa using hk
    have e1 : gE ((List.range len).map f) k = f k := by simp [gE, hk']
    rw [e1]
    exact hf k hk'
  · obtain rfl : len = 0 := by omega
    exact ⟨p, [], c, rfl, ERow.nil, by simp, hm⟩
/-- A struct of one field, of one cell, by value. -/
theorem open_agg1 {r : Reach} {b0 : Nat} {t : TypeId} {f0 : Field} {v : Value} {d : DataW H} {ps : List MemPlace} (hs : P.underlying t = some (.struct #[f0])) (o0 : f0.offset = 0) (c0 : P.cellsOf f0.type = 1) (hC : P.cellsOf t = 1)
    (hv : Value.okWide P W r b0 t v) (h : DataW.Trod enc P W 0 (fun _ => true) true t v d ps) : ∃ v0 y0 n, v = .agg #[v0] ∧ DataW.trod enc P W 0 (fun _ => true) true n f0.type [v0] = some y0 := by
  obtain ⟨cs, rfl, hsz⟩ := okWide_struct hs hv
  obtain ⟨l⟩ := cs
  have hl : l.length = 1 := by simpa using hsz.trans hC
  match l, hl with
  | [x0], _ =>
    obtain ⟨fuel, hf⟩ := h
    obtain ⟨xs, n, _, hx, _, hlen, hff⟩ := DataW.trod_struct hs hf
    match xs, hlen with
    | [y0], _ =>
      have g := hff 0 f0 rfl
      simp [o0, c0, Value.cells] at g
      exact ⟨x0, y0, n, rfl, g⟩
end
end Go.Proofs.Ytjnhalomkmdcgaa
namespace Go.Proofs.Ytjnhalomkmdcgaa
open Go.ChangeShapes Go.WideShapes Go.ChangeAt Go.RowKit

/-- The k-th of a row of rows. -/
def rG (R : List (List Int)) (k : Nat) : List Int := R.getD k []
/-- The slice that begins at p holds the rows R, all in blocks below N. -/
def RRow (N : Nat) (w : World) (p : Option Addr) (R : List (List Int)) : Prop :=
  0 < R.length → ∃ b off, p = some ⟨b, off, none⟩ ∧ b < N ∧ ∀ k, k < R.length → ∃ q c, w.cell? ⟨b, off + k, none⟩ = some (.slice q (rG R k).length c) ∧ TRow N w q (rG R k) c
theorem RRow.below {N M : Nat} {w w' : World} {p : Option Addr} {R : List (List Int)} (h : RRow N w p R) (hb : Below M w w') (hm : N ≤ M) : RRow N w' p R := by
  intro h0
  obtain ⟨b, off, rfl, hN, hc⟩ := h h0
  refine ⟨b, off, rfl, hN, fun k hk => ?_⟩
  obtain ⟨q, c, c1, ht⟩ := hc k hk
  exact ⟨q, c, (hb.cell (p := ⟨b, off + k, none⟩) (by simp; omega)).trans c1, ht.below hb hm⟩
theorem RRow.mono {N M : Nat} {w : World} {p : Option Addr} {R : List (List Int)} (h : RRow N w p R) (hm : N ≤ M) : RRow M w p R := by
  intro h0
  obtain ⟨b, off, rfl, hN, hc⟩ := h h0
  refine ⟨b, off, rfl, by omega, fun k hk => ?_⟩
  obtain ⟨q, c, c1, ht⟩ := hc k hk
  exact ⟨q, c, c1, ht.mono hm⟩
theorem RRow.to {w w' : World} {p : Option Addr} {R : List (List Int)} (h : RRow w.heap.size w p R) (hb : Below w.heap.size w w') : RRow w'.heap.size w' p R := (h.below hb (Nat.le_refl _)).mono hb.size
theorem RRow.nil {N : Nat} {w : World} {p : Option Addr} : RRow N w p [] := fun h => by simp at h
/-- A step: is it a drop; its type; its number. -/
abbrev Stp := Bool × List Int × Int
def sG (S : List Stp) (k : Nat) : Stp := S.getD k (false, [], 0)
/-- The slice that begins at p holds the steps S, all in blocks below N. -/
def PRow (N : Nat) (w : World) (p : Option Addr) (S : List Stp) : Prop :=
  0 < S.length → ∃ b off, p = some ⟨b, off, none⟩ ∧ b < N ∧ ∀ k, k < S.length →
    w.cell? ⟨b, off + k * 3, none⟩ = some (.bool (sG S k).1) ∧
    (∃ q c, w.cell? ⟨b, off + k * 3 + 1, none⟩ = some (.slice q (sG S k).2.1.length c) ∧ TRow N w q (sG S k).2.1 c) ∧
    w.cell? ⟨b, off + k * 3 + 2, none⟩ = some (.int .i64 (sG S k).2.2)
theorem PRow.below {N M : Nat} {w w' : World} {p : Option Addr} {S : List Stp} (h : PRow N w p S) (hb : Below M w w') (hm : N ≤ M) : PRow N w' p S := by
  intro h0
  obtain ⟨b, off, rfl, hN, hc⟩ := h h0
  refine ⟨b, off, rfl, hN, fun k hk => ?_⟩
  obtain ⟨c0, ⟨q, c, c1, ht⟩, c2⟩ := hc k hk
  exact ⟨(hb.cell (p := ⟨b, off + k * 3, none⟩) (by simp; omega)).trans c0, ⟨q, c, (hb.cell (p := ⟨b, off + k * 3 + 1, none⟩) (by simp; omega)).trans c1, ht.below hb hm⟩, (hb.cell (p := ⟨b, off + k * 3 + 2, none⟩) (by simp; omega)).trans c2⟩
section
variable {H : Type} {enc : TypeId × Value → H} {P : Program} {W : World}
/-- Rows of ids that came in. -/
theorem rows_of {t e te : TypeId} {fuel : Nat} {v : Value} {x : DataW H × List MemPlace} (ht : P.underlying t = some (.slice e)) (he : P.underlying e = some (.slice te)) (ce : P.cellsOf e = 1) (hte : P.underlying te = some (.int .u64)) (cte : P.cellsOf te = 1)
    (h : DataW.trod enc P W 0 (fun _ => true) true fuel t [v] = some x) : ∃ p R c, v = .slice p R.length c ∧ RRow W.heap.size W p R ∧ R.length ≤ c ∧ c ≤ maxLen := by
  rcases Deep.open_slice1 ht ce h with ⟨hv, _⟩ | ⟨a, len, cap, m, n, V, D, Pl, hv, _, hl, hm, hmm, _, hx⟩
  · exact ⟨none, [], 0, by simpa using hv, RRow.nil, by simp, by simp [maxLen]⟩
  · have hmm' : m = cap := by simpa using hmm
    have hx' : ∀ i, i < len → ∃ l : List Int, ∃ q c, V i = .slice q l.length c ∧ TRow W.heap.size W q l c := fun i hi => by
      obtain ⟨q, l, c, e, hr, _⟩ := row_of he hte cte (hx i (by omega)).2
      exact ⟨l, q, c, e, hr⟩
    obtain ⟨f, hf⟩ := Deep.choose_lt hx'
    refine ⟨some a, (List.range len).map f, cap, by simpa using hv, ?_, by simpa using hl, hm⟩
    intro h0
    have h0' : 0 < len := by simpa using h0
    obtain ⟨b, off, rfl⟩ := addr_spot (hx 0 (by omega)).1
    have hb := World.block_lt_of_cell? _ _ (hx 0 (by omega)).1
    rw [addr_add] at hb
    refine ⟨b, off, rfl, by simpa using hb, fun k hk => ?_⟩
    have hk' : k < len := by simpa using hk
    have e0 := (hx k (by omega)).1
    obtain ⟨q, c, e2, hr⟩ := hf k hk'
    rw [addr_add, e2] at e0
    have e1 : rG ((List.range len).map f) k = f k := by simp [rG, hk']
    rw [e1]
    exact ⟨q, c, e0, hr⟩
/-- Steps that came in. -/
theorem steps_of {t e te : TypeId} {f0 f1 f2 : Field} {fuel : Nat} {v : Value} {x : DataW H × List MemPlace} (ht : P.underlying t = some (.slice e)) (he : P.underlying e = some (.struct #[f0, f1, f2]))
    (ce : P.cellsOf e = 3) (o0 : f0.offset = 0) (o1 : f1.offset = 1) (o2 : f2.offset = 2) (h0 : P.underlying f0.type = some .bool) (c0 : P.cellsOf f0.type = 1) (h2 : P.underlying f2.type = some (.int .i64)) (c2 : P.cellsOf f2.type = 1)
    (h1 : P.underlying f1.type = some (.slice te)) (c1 : P.cellsOf f1.type = 1) (hte : P.underlying te = some (.int .u64)) (cte : P.cellsOf te = 1)
    (h : DataW.trod enc P W 0 (fun _ => true) true fuel t [v] = some x) : ∃ p S c, v = .slice p S.length c ∧ PRow W.heap.size W p S ∧ S.length ≤ c ∧ c ≤ maxLen := by
  obtain ⟨p, len, c, rfl, hl, hm, hr⟩ := triples_of ht he ce o0 o1 o2 c0 c1 c2 h
  by_cases hz : 0 < len
  · obtain ⟨b, off, rfl, hb, hc⟩ := hr hz
    have each : ∀ k, k < len → ∃ y : Stp, W.cell? ⟨b, off + k * 3, none⟩ = some (.bool y.1) ∧ (∃ q c, W.cell? ⟨b, off + k * 3 + 1, none⟩ = some (.slice q y.2.1.length c) ∧ TRow W.heap.size W q y.2.1 c) ∧ W.cell? ⟨b, off + k * 3 + 2, none⟩ = some (.int .i64 y.2.2) := by
      intro k hk
      obtain ⟨v0, v1, v2, y0, y1, y2, n, q0, q1, q2, g0, g1, g2⟩ := hc k hk
      obtain ⟨s, hs, _⟩ := DataW.trod_bool h0 g0
      obtain ⟨z, hz, _, _⟩ := DataW.trod_int h2 g2
      obtain ⟨q, l, c', rfl, hrow, _⟩ := row_of h1 hte cte g1
      simp at hs hz
      subst hs hz
      exact ⟨(s, l, z), q0, ⟨q, c', q1, hrow⟩, q2⟩
    obtain ⟨f, hf⟩ := Deep.choose_lt each
    refine ⟨some ⟨b, off, none⟩, (List.range len).map f, c, by simp, fun _ => ⟨b, off, rfl, hb, fun k hk => ?_⟩, by simpa using hl, hm⟩
    have hk' : k < len := by simpa using hk
    have e1 : sG ((List.range len).map f) k = f k := by simp [sG, hk']
    rw [e1]
    exact hf k hk'
  · obtain rfl : len = 0 := by omega
    exact ⟨p, [], c, rfl, (fun h => by simp at h), by simp, hm⟩
end
end Go.Proofs.Ytjnhalomkmdcgaa
namespace Go.Proofs.Ytjnhalomkmdcgaa
open Go.RowKit

/-- A slot, and where its type lies: state, (place, type, room), number. -/
abbrev Ep := Int × (Option Addr × List Int × Nat) × Int
def eOf (x : Ep) : En := (x.1, x.2.1.2.1, x.2.2)
def gP (X : List Ep) (k : Nat) : Ep := X.getD k (0, (none, [], 0), 0)
theorem gP_eq {X : List Ep} {k : Nat} (h : k < X.length) : gP X k = X[k] := by simp [gP, h]
theorem gE_map {X : List Ep} {k : Nat} (h : k < X.length) : gE (X.map eOf) k = eOf (gP X k) := by simp [gE, gP, h]
/-- The cells of slots. -/
def cellsE : List Ep → List Value
  | [] => []
  | x :: X => .int .i64 x.1 :: .slice x.2.1.1 x.2.1.2.1.length x.2.1.2.2 :: .int .i64 x.2.2 :: cellsE X
theorem cellsE_len (X : List Ep) : (cellsE X).length = X.length * 3 := by
  induction X with
  | nil => rfl
  | cons x X ih => simp [cellsE, ih]; omega
theorem cellsE_append (a b : List Ep) : cellsE (a ++ b) = cellsE a ++ cellsE b := by
  induction a with
  | nil => rfl
  | cons x a ih => simp [cellsE, ih]
theorem cellsE_one (X : List Ep) : ∀ v ∈ cellsE X, v.oneCell' = true := by
  induction X with
  | nil => intro v h; simp [cellsE] at h
  | cons x X ih =>
    intro v h
    simp only [cellsE, List.mem_cons] at h
    rcases h with rfl | rfl | rfl | h
    · rfl
    · rfl
    · rfl
    · exact ih v h
theorem cellsE_at (X : List Ep) (k : Nat) (hk : k < X.length) : (cellsE X)[k * 3]? = some (.int .i64 (gP X k).1) ∧ (cellsE X)[k * 3 + 1]? = some (.slice (gP X k).2.1.1 (gP X k).2.1.2.1.length (gP X k).2.1.2.2) ∧ (cellsE X)[k * 3 + 2]? = some (.int .i64 (gP X k).2.2) := by
  induction X generalizing k with
  | nil => simp at hk
  | cons x X ih =>
    cases k with
    | zero => simp [cellsE, gP]
    | succ k =>
      have := ih k (by simpa using hk)
      have e0 : (k + 1) * 3 = k * 3 + 1 + 1 + 1 := by omega
      have e1 : gP (x :: X) (k + 1) = gP X k := rfl
      rw [e0, e1]
      simpa [cellsE] using this
theorem cellsE_set (X : List Ep) (k : Nat) (y : Ep) : (((cellsE X).set (k * 3) (.int .i64 y.1)).set (k * 3 + 1) (.slice y.2.1.1 y.2.1.2.1.length y.2.1.2.2)).set (k * 3 + 2) (.int .i64 y.2.2) = cellsE (X.set k y) := by
  induction X generalizing k with
  | nil => simp [cellsE]
  | cons x X ih =>
    cases k with
    | zero => simp [cellsE]
    | succ k =>
      have e0 : (k + 1) * 3 = k * 3 + 1 + 1 + 1 := by omega
      rw [e0]
      simp only [cellsE, List.set_cons_succ]
      rw [← ih k]
theorem cellsE_setT (X : List Ep) (k : Nat) (r : Option Addr × List Int × Nat) : (cellsE X).set (k * 3 + 1) (.slice r.1 r.2.1.length r.2.2) = cellsE (X.set k ((gP X k).1, r, (gP X k).2.2)) := by
  induction X generalizing k with
  | nil => simp [cellsE]
  | cons x X ih =>
    cases k with
    | zero => simp [cellsE, gP]
    | succ k =>
      have e0 : (k + 1) * 3 = k * 3 + 1 + 1 + 1 := by omega
      have e1 : gP (x :: X) (k + 1) = gP X k := rfl
      rw [e0, e1]
      simp only [cellsE, List.set_cons_succ]
      rw [← ih k]
theorem cellsE_src {w : World} {b off : Nat} {X : List Ep} (h : ∀ k, k < X.length → w.cell? ⟨b, off + k * 3, none⟩ = some (.int .i64 (gP X k).1) ∧ w.cell? ⟨b, off + k * 3 + 1, none⟩ = some (.slice (gP X k).2.1.1 (gP X k).2.1.2.1.length (gP X k).2.1.2.2) ∧ w.cell? ⟨b, off + k * 3 + 2, none⟩ = some (.int .i64 (gP X k).2.2)) :
    ∀ j v, (cellsE X)[j]? = some v → w.cell? ((⟨b, off, none⟩ : Addr).add j) = some v := by
  intro j v hj
  have hlt : j < X.length * 3 := by have := (List.getElem?_eq_some_iff.1 hj).1; rwa [cellsE_len] at this
  obtain ⟨k, r, hr, rfl⟩ : ∃ k r, r < 3 ∧ j = k * 3 + r := ⟨j / 3, j % 3, Nat.mod_lt _ (by omega), by omega⟩
  have hk : k < X.length := by omega
  obtain ⟨c0, c1, c2⟩ := h k hk
  obtain ⟨d0, d1, d2⟩ := cellsE_at X k hk
  rw [addr_add]
  have hr' : r = 0 ∨ r = 1 ∨ r = 2 := by omega
  rcases hr' with rfl | rfl | rfl
  · rw [Nat.add_zero] at hj ⊢; rw [d0] at hj; cases hj; exact c0
  · rw [d1] at hj; cases hj; rw [← Nat.add_assoc]; exact c1
  · rw [d2] at hj; cases hj; rw [← Nat.add_assoc]; exact c2
/-- Slots in memory, with where their types lie. -/
theorem ERow.places {N : Nat} {w : World} {p : Option Addr} {L : List En} (h : ERow N w p L) : ∃ X : List Ep, X.map eOf = L ∧ (∀ x ∈ X, TRow N w x.2.1.1 x.2.1.2.1 x.2.1.2.2) ∧
    (0 < X.length → ∃ b off, p = some ⟨b, off, none⟩ ∧ b < N ∧ ∀ k, k < X.length → w.cell? ⟨b, off + k * 3, none⟩ = some (.int .i64 (gP X k).1) ∧ w.cell? ⟨b, off + k * 3 + 1, none⟩ = some (.slice (gP X k).2.1.1 (gP X k).2.1.2.1.length (gP X k).2.1.2.2) ∧ w.cell? ⟨b, off + k * 3 + 2, none⟩ = some (.int .i64 (gP X k).2.2)) := by
  by_cases h0 : 0 < L.length
  · obtain ⟨b, off, rfl, hN, hc⟩ := h h0
    have each : ∀ k, k < L.length → ∃ x : Ep, eOf x = gE L k ∧ TRow N w x.2.1.1 x.2.1.2.1 x.2.1.2.2 ∧ w.cell? ⟨b, off + k * 3, none⟩ = some (.int .i64 x.1) ∧ w.cell? ⟨b, off + k * 3 + 1, none⟩ = some (.slice x.2.1.1 x.2.1.2.1.length x.2.1.2.2) ∧ w.cell? ⟨b, off + k * 3 + 2, none⟩ = some (.int .i64 x.2.2) := by
      intro k hk
      obtain ⟨c0, ⟨q, c, c1, ht⟩, c2⟩ := hc k hk
      exact ⟨((gE L k).1, (q, (gE L k).2.1, c), (gE L k).2.2), rfl, ht, c0, c1, c2⟩
    obtain ⟨f, hf⟩ := Deep.choose_lt each
    have hg : ∀ k, k < L.length → gP ((List.range L.length).map f) k = f k := fun k hk => by simp [gP, hk]
    refine ⟨(List.range L.length).map f, ?_, ?_, fun _ => ⟨b, off, rfl, hN, fun k hk => ?_⟩⟩
    · refine List.ext_getElem (by simp) (fun k h1 h2 => ?_)
      have hk : k < L.length := by simpa using h1
      have := (hf k hk).1
      simp only [List.getElem_map, List.getElem_range]
      rw [this, gE_eq hk]
    · intro x hx
      obtain ⟨k, hk, rfl⟩ := List.mem_map.1 hx
      exact (hf k (by simpa using hk)).2.1
    · have hk' : k < L.length := by simpa using hk
      rw [hg k hk']
      exact (hf k hk').2.2
  · obtain rfl : L = [] := List.eq_nil_of_length_eq_zero (by omega)
    exact ⟨[], rfl, by simp, fun h => by simp at h⟩
/-- How a row that a call owns reads. -/
theorem erow_owns {t B N : Nat} {w : World} {v : Value} {X : List Ep} (h : w.ownsRow B t 3 v X.length (cellsE X)) (hX : ∀ x ∈ X, TRow N w x.2.1.1 x.2.1.2.1 x.2.1.2.2) (hN : w.heap.size ≤ N) :
    ∃ p c, v = .slice p X.length c ∧ ERow N w p (X.map eOf) ∧ X.length ≤ c ∧ ((p = none ∧ X = [] ∧ c = 0) ∨ ∃ g, p = some ⟨g, 0, none⟩ ∧ B ≤ g) := by
  rcases h.2 with ⟨rfl, h0⟩ | ⟨g, cap, cur, rfl, hB, hh, h1, _, _, ht⟩
  · obtain rfl : X = [] := List.eq_nil_of_length_eq_zero h0
    exact ⟨none, 0, rfl, ERow.nil, by simp, .inl ⟨rfl, rfl, rfl⟩⟩
  · refine ⟨some ⟨g, 0, none⟩, cap, rfl, ?_, h1, .inr ⟨g, rfl, hB⟩⟩
    intro _
    have hlt := (Array.getElem?_eq_some_iff.1 hh).1
    refine ⟨g, 0, rfl, by omega, fun k hk => ?_⟩
    have hk' : k < X.length := by simpa using hk
    have key : ∀ j, j < X.length * 3 → w.cell? ⟨g, j, none⟩ = (cellsE X)[j]? := by
      intro j hj
      have e : cur.toList[j]? = (cellsE X)[j]? := by rw [← ht, List.getElem?_take_of_lt hj]
      simp only [World.cell?]
      rw [hh]
      simp only [Array.getElem?_toList] at e
      simpa using e
    obtain ⟨d0, d1, d2⟩ := cellsE_at X k hk'
    rw [gE_map hk']
    have hm : gP X k ∈ X := by rw [gP_eq hk']; exact List.getElem_mem hk'
    refine ⟨?_, ⟨(gP X k).2.1.1, (gP X k).2.1.2.2, ?_, hX _ hm⟩, ?_⟩
    · rw [Nat.zero_add, key _ (by omega)]; exact d0
    · rw [Nat.zero_add, key _ (by omega)]; exact d1
    · rw [Nat.zero_add, key _ (by omega)]; exact d2
/-- One cell of such a row is written over. -/
theorem ownsRow_set {w : World} {base : Nat} {e : TypeId} {size g n cap : Nat} {xs : List Value} (h : w.ownsRow base e size (.slice (some ⟨g, 0, none⟩) n cap) n xs) (i : Nat) (u : Value) : (w.setCell ⟨g, i, none⟩ u).ownsRow base e size (.slice (some ⟨g, 0, none⟩) n cap) n (xs.set i u) := by
  obtain ⟨h1, h2⟩ := h
  rcases h2 with ⟨hv, _⟩ | ⟨g', cap', cur, hv, hb, hh, c1, c2, c3, c4⟩
  · cases hv
  · cases hv
    refine ⟨by simpa using h1, .inr ⟨g, cap, cur.setIfInBounds i u, rfl, hb, heap_setCell_same w g i cur e u hh, c1, c2, by simpa using c3, ?_⟩⟩
    rw [Array.toList_setIfInBounds, List.take_set, c4]
theorem own_frozen {w : World} {base : Nat} {e : TypeId} {size g n cap : Nat} {xs : List Value} (h : w.ownsRow base e size (.slice (some ⟨g, 0, none⟩) n cap) n xs) (i : Nat) : w.frozen? ⟨g, i, none⟩ = false := by
  rcases h.2 with ⟨hv, _⟩ | ⟨g', cap', cur, hv, hb, hh, _⟩
  · cases hv
  · cases hv; simp [World.frozen?, hh]
/-- A slot is written over. -/
theorem own_put {w : World} {base : Nat} {e : TypeId} {g n cap : Nat} {X : List Ep} (h : w.ownsRow base e 3 (.slice (some ⟨g, 0, none⟩) n cap) n (cellsE X)) (k : Nat) (y : Ep) :
    (((w.setCell ⟨g, k * 3, none⟩ (.int .i64 y.1)).setCell ⟨g, k * 3 + 1, none⟩ (.slice y.2.1.1 y.2.1.2.1.length y.2.1.2.2)).setCell ⟨g, k * 3 + 2, none⟩ (.int .i64 y.2.2)).ownsRow base e 3 (.slice (some ⟨g, 0, none⟩) n cap) n (cellsE (X.set k y)) := by
  have := ownsRow_set (ownsRow_set (ownsRow_set h (k * 3) (.int .i64 y.1)) (k * 3 + 1) (.slice y.2.1.1 y.2.1.2.1.length y.2.1.2.2)) (k * 3 + 2) (.int .i64 y.2.2)
  rwa [cellsE_set] at this
/-- The type of a slot is written over. -/
theorem own_putT {w : World} {base : Nat} {e : TypeId} {g n cap : Nat} {X : List Ep} (h : w.ownsRow base e 3 (.slice (some ⟨g, 0, none⟩) n cap) n (cellsE X)) (k : Nat) (r : Option Addr × List Int × Nat) :
    (w.setCell ⟨g, k * 3 + 1, none⟩ (.slice r.1 r.2.1.length r.2.2)).ownsRow base e 3 (.slice (some ⟨g, 0, none⟩) n cap) n (cellsE (X.set k ((gP X k).1, r, (gP X k).2.2))) := by
  have := ownsRow_set h (k * 3 + 1) (.slice r.1 r.2.1.length r.2.2)
  rwa [cellsE_setT] at this
theorem map_set (X : List Ep) (k : Nat) (y : Ep) : (X.set k y).map eOf = (X.map eOf).set k (eOf y) := by rw [List.map_set]
/-- A row of ids in another block stays. -/
theorem IRow.setCell {q : IntKind} {N : Nat} {w : World} {p : Option Addr} {l : List Int} (h : IRow q N w p l) {a : Addr} (ha : ∀ x, p = some x → x.block ≠ a.block) (u : Value) : IRow q N (w.setCell a u) p l := by
  intro h0
  obtain ⟨b, off, rfl, hN, hc⟩ := h h0
  refine ⟨b, off, rfl, hN, fun k hk => ?_⟩
  have hne : b ≠ a.block := ha _ rfl
  rw [← hc k hk]
  simp only [World.cell?]
  rw [heap_setCell_other w a b u hne]
theorem TRow.setCell {N : Nat} {w : World} {p : Option Addr} {l : List Int} {c : Nat} (h : TRow N w p l c) {a : Addr} (ha : ∀ x, p = some x → x.block ≠ a.block) (u : Value) : TRow N (w.setCell a u) p l c := ⟨h.i.setCell ha u, h.r, h.u⟩
/-- A row of ids stays where a row of another block grows. -/
theorem TRow.grown {w w' : World} {p : Option Addr} {l : List Int} {c : Nat} {row : Option Nat} (h : TRow w.heap.size w p l c) (hg : w.grownBy w' row) (hne : ∀ a, p = some a → some a.block ≠ row) : TRow w'.heap.size w' p l c := by
  refine ⟨fun h0 => ?_, h.r, h.u⟩
  obtain ⟨b, off, rfl, hN, hc⟩ := h.i h0
  refine ⟨b, off, rfl, Nat.lt_of_lt_of_le hN hg.size, fun k hk => ?_⟩
  rw [← hc k hk]
  simp only [World.cell?]
  rw [hg.block b hN (hne _ rfl)]
end Go.Proofs.Ytjnhalomkmdcgaa
