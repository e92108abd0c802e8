/- Rows of slots in memory (stage 7), over whatever program: a struct of three cells, the second of which is a row of ids. -/
import Derived.Test.YtjnhalomkmdcgaaLkC
import Derived.Test.YtjnhalomkmdcgaaTyJ
import Derived.Below
import Derived.ProofKit
import Derived.OpenShut
import Derived.Deep.Slices
import Derived.Deep.Strs
import Derived.Lib.SmallJoins
namespace Go.Proofs.Ytjnhalomkmdcgaa
open Go.ChangeShapes Go.WideShapes Go.ChangeAt Go.RowKit

theorem addr_spot {w : World} {a : Addr} {v : Value} (h : w.cell? (a.add 0) = some v) : ∃ b off, a = ⟨b, off, none⟩ := by
  obtain ⟨b, off, sp⟩ := a
  cases sp with
  | none => exact ⟨b, off, rfl⟩
  | some s =>
    exfalso; revert h
    unfold World.cell? Addr.add
    simp only [if_true, Option.isSome_some]
    split <;> simp
theorem u64_bd {n : Int} (h : (Lit.int .u64 n).wf = true) : 0 ≤ n ∧ n < 18446744073709551616 := by
  have a1 : IntKind.u64.min = 0 := by decide
  have b1 : IntKind.u64.max = 18446744073709551615 := by decide
  simp [Lit.wf, a1, b1] at h; omega
/-- A row of ids in a block below N. -/
structure TRow (N : Nat) (w : World) (p : Option Addr) (l : List Int) (c : Nat) : Prop where
  i : IRow .u64 N w p l
  r : l.length ≤ c
  u : U64 l
theorem TRow.below {N M : Nat} {w w' : World} {p : Option Addr} {l : List Int} {c : Nat} (h : TRow N w p l c) (hb : Below M w w') (hm : N ≤ M) : TRow N w' p l c := ⟨h.i.below hb hm, h.r, h.u⟩
theorem TRow.mono {N M : Nat} {w : World} {p : Option Addr} {l : List Int} {c : Nat} (h : TRow N w p l c) (hm : N ≤ M) : TRow M w p l c := ⟨h.i.mono hm, h.r, h.u⟩
/-- The slice that begins at p holds the slots L, they and their types in blocks below N. -/
def ERow (N : Nat) (w : World) (p : Option Addr) (L : List En) : Prop :=
  0 < L.length → ∃ b off, p = some ⟨b, off, none⟩ ∧ b < N ∧ ∀ k, k < L.length →
    w.cell? ⟨b, off + k * 3, none⟩ = some (.int .i64 (gE L k).1) ∧
    (∃ q c, w.cell? ⟨b, off + k * 3 + 1, none⟩ = some (.slice q (gE L k).2.1.length c) ∧ TRow N w q (gE L k).2.1 c) ∧
    w.cell? ⟨b, off + k * 3 + 2, none⟩ = some (.int .i64 (gE L k).2.2)
theorem ERow.below {N M : Nat} {w w' : World} {p : Option Addr} {L : List En} (h : ERow N w p L) (hb : Below M w w') (hm : N ≤ M) : ERow N w' p L := by
  intro h0
  obtain ⟨b, off, rfl, hN, hc⟩ := h h0
  refine ⟨b, off, rfl, hN, fun k hk => ?_⟩
  obtain ⟨c0, ⟨q, c, c1, ht⟩, c2⟩ := hc k hk
  exact ⟨(hb.cell (p := ⟨b, off + k * 3, none⟩) (by simp; omega)).trans c0, ⟨q, c, (hb.cell (p := ⟨b, off + k * 3 + 1, none⟩) (by simp; omega)).trans c1, ht.below hb hm⟩, (hb.cell (p := ⟨b, off + k * 3 + 2, none⟩) (by simp; omega)).trans c2⟩
theorem ERow.mono {N M : Nat} {w : World} {p : Option Addr} {L : List En} (h : ERow N w p L) (hm : N ≤ M) : ERow M w p L := by
  intro h0
  obtain ⟨b, off, rfl, hN, hc⟩ := h h0
  refine ⟨b, off, rfl, by omega, fun k hk => ?_⟩
  obtain ⟨c0, ⟨q, c, c1, ht⟩, c2⟩ := hc k hk
  exact ⟨c0, ⟨q, c, c1, ht.mono hm⟩, c2⟩
theorem ERow.to {w w' : World} {p : Option Addr} {L : List En} (h : ERow w.heap.size w p L) (hb : Below w.heap.size w w') : ERow w'.heap.size w' p L := (h.below hb (Nat.le_refl _)).mono hb.size
theorem ERow.nil {N : Nat} {w : World} {p : Option Addr} : ERow N w p [] := fun h => by simp at h
theorem gE_take {L : List En} {i k : Nat} (h : k < i) : gE (L.take i) k = gE L k := by
  unfold gE; rw [List.getD_eq_getElem?_getD, List.getD_eq_getElem?_getD, List.getElem?_take_of_lt h]
theorem ERow.take {N : Nat} {w : World} {p : Option Addr} {L : List En} (h : ERow N w p L) (i : Nat) : ERow N w p (L.take i) := by
  intro h0
  have hl : (L.take i).length ≤ L.length := by simp; omega
  obtain ⟨b, off, rfl, hN, hc⟩ := h (by omega)
  refine ⟨b, off, rfl, hN, fun k hk => ?_⟩
  rw [gE_take (by simp at hk; omega)]
  exact hc k (by omega)
section
variable {H : Type} {enc : TypeId × Value → H} {P : Program} {W : World}
/-- A row of structs of three cells that came in. -/
theorem triples_of {t e : TypeId} {f0 f1 f2 : Field} {fuel : Nat} {v : Value} {x : DataW H × List MemPlace} (ht : P.underlying t = some (.slice e)) (he : P.underlying e = some (.struct #[f0, f1, f2]))
    (ce : P.cellsOf e = 3) (o0 : f0.offset = 0) (o1 : f1.offset = 1) (o2 : f2.offset = 2) (c0 : P.cellsOf f0.type = 1) (c1 : P.cellsOf f1.type = 1) (c2 : P.cellsOf f2.type = 1)
    (h : DataW.trod enc P W 0 (fun _ => true) true fuel t [v] = some x) :
    ∃ p len c, v = .slice p len c ∧ len ≤ c ∧ c ≤ maxLen ∧ (0 < len → ∃ b off, p = some ⟨b, off, none⟩ ∧ b < W.heap.size ∧ ∀ k, k < len → ∃ v0 v1 v2 y0 y1 y2 n,
      W.cell? ⟨b, off + k * 3, none⟩ = some v0 ∧ W.cell? ⟨b, off + k * 3 + 1, none⟩ = some v1 ∧ W.cell? ⟨b, off + k * 3 + 2, none⟩ = some v2 ∧
      DataW.trod enc P W 0 (fun _ => true) true n f0.type [v0] = some y0 ∧ DataW.trod enc P W 0 (fun _ => true) true n f1.type [v1] = some y1 ∧ DataW.trod enc P W 0 (fun _ => true) true n f2.type [v2] = some y2) := by
  rcases Deep.open_slice ht h with ⟨hv, _⟩ | ⟨a, len, cap, m, n, D, Pl, hv, _, hl, hm, hmm, _, hx⟩
  · exact ⟨none, 0, 0, by simpa using hv, Nat.le_refl _, by simp [maxLen], fun h => by omega⟩
  · have hmm' : m = cap := by simpa using hmm
    have each : ∀ i, i < len → ∃ v0 v1 v2 y0 y1 y2 n, W.cell? (a.add (i * 3)) = some v0 ∧ W.cell? (a.add (i * 3 + 1)) = some v1 ∧ W.cell? (a.add (i * 3 + 2)) = some v2 ∧
        DataW.trod enc P W 0 (fun _ => true) true n f0.type [v0] = some y0 ∧ DataW.trod enc P W 0 (fun _ => true) true n f1.type [v1] = some y1 ∧ DataW.trod enc P W 0 (fun _ => true) true n f2.type [v2] = some y2 := by
      intro i hi
      obtain ⟨cs', h1, h2⟩ := hx i (by omega)
      rw [ce] at h1
      obtain ⟨_, hlen, hcell⟩ := World.cells?_some h1
      obtain ⟨y0, y1, y2, k, _, _, g0, g1, g2⟩ := Deep.trod_struct3 he h2
      match cs', hlen with
      | [v0, v1, v2], _ =>
        simp [o0, o1, o2, c0, c1, c2] at g0 g1 g2
        have e0 := hcell 0 (by omega)
        have e1 := hcell 1 (by omega)
        have e2 := hcell 2 (by omega)
        rw [Deep.add_add] at e0 e1 e2
        exact ⟨v0, v1, v2, y0, y1, y2, k, by simpa using e0, by simpa using e1, by simpa using e2, g0, g1, g2⟩
    refine ⟨some a, len, cap, by simpa using hv, hl, hm, fun h0 => ?_⟩
    obtain ⟨v0, _, _, _, _, _, _, q0, _⟩ := each 0 h0
    rw [Nat.zero_mul] at q0
    obtain ⟨b, off, rfl⟩ := addr_spot q0
    have hb := World.block_lt_of_cell? _ _ q0
    rw [addr_add] at hb
    refine ⟨b, off, rfl, by simpa using hb, fun k hk => ?_⟩
    obtain ⟨v0, v1, v2, y0, y1, y2, n, q0, q1, q2, g⟩ := each k hk
    rw [addr_add] at q0 q1 q2
    exact ⟨v0, v1, v2, y0, y1, y2, n, q0, by simpa [Nat.add_assoc] using q1, by simpa [Nat.add_assoc] using q2, g⟩
/-- A row of ids that came in. -/
theorem row_of {t e : TypeId} {fuel : Nat} {v : Value} {x : DataW H × List MemPlace} (ht : P.underlying t = some (.slice e)) (he : P.underlying e = some (.int .u64)) (hc : P.cellsOf e = 1) (h : DataW.trod enc P W 0 (fun _ => true) true fuel t [v] = some x) :
    ∃ p l c, v = .slice p l.length c ∧ TRow W.heap.size W p l c ∧ c ≤ maxLen := by
  rcases open_ints ht he hc h with ⟨hv, _⟩ | ⟨a, len, cap, zs, hv, _, hl, hm, hz, _, hcs, hw⟩
  · exact ⟨none, [], 0, by simpa using hv, ⟨IRow.nil, by simp, fun y hy => by simp at hy⟩, by simp [maxLen]⟩
  · have hz' : zs.length = cap := by simpa using hz
    have hlen : (zs.take len).length = len := by simp; omega
    refine ⟨some a, zs.take len, cap, by rw [hlen]; simpa using hv, ⟨?_, by omega, fun z hz => u64_bd (hw z (List.mem_of_mem_take hz))⟩, hm⟩
    intro h0
    have h0' : 0 < len := by omega
    obtain ⟨b, off, rfl⟩ := addr_spot (hcs 0 (by omega))
    have hb := World.block_lt_of_cell? _ _ (hcs 0 (by omega))
    rw [addr_add] at hb
    refine ⟨b, off, rfl, by simpa using hb, fun i hi => ?_⟩
    have e0 := hcs i (by omega)
    rw [addr_add] at e0
    rw [e0, iG_take (by omega)]; rfl
/-- A row of slots that came in. -/
theorem entries_of {t e ti te : TypeId} {f0 f1 f2 : Field} {fuel : Nat} {v : Value} {x : DataW H × List MemPlace} (ht : P.underlying t = some (.slice e)) (he : P.underlying e = some (.struct #[f0, f1, f2]))
    (ce : P.cellsOf e = 3) (o0 : f0.offset = 0) (o1 : f1.offset = 1) (o2 : f2.offset = 2) (t0 : f0.type = ti) (t2 : f2.type = ti) (hi : P.underlying ti = some (.int .i64)) (ci : P.cellsOf ti = 1)
    (h1 : P.underlying f1.type = some (.slice te)) (c1 : P.cellsOf f1.type = 1) (hte : P.underlying te = some (.int .u64)) (cte : P.cellsOf te = 1)
    (h : DataW.trod enc P W 0 (fun _ => true) true fuel t [v] = some x) : ∃ p L c, v = .slice p L.length c ∧ ERow W.heap.size W p L ∧ L.length ≤ c ∧ c ≤ maxLen := by
  obtain ⟨p, len, c, rfl, hl, hm, hr⟩ := triples_of ht he ce o0 o1 o2 (by rw [t0]; exact ci) c1 (by rw [t2]; exact ci) h
  by_cases h0 : 0 < len
  · obtain ⟨b, off, rfl, hb, hc⟩ := hr h0
    have each : ∀ k, k < len → ∃ y : En, W.cell? ⟨b, off + k * 3, none⟩ = some (.int .i64 y.1) ∧ (∃ q c, W.cell? ⟨b, off + k * 3 + 1, none⟩ = some (.slice q y.2.1.length c) ∧ TRow W.heap.size W q y.2.1 c) ∧ W.cell? ⟨b, off + k * 3 + 2, none⟩ = some (.int .i64 y.2.2) := by
      intro k hk
      obtain ⟨v0, v1, v2, y0, y1, y2, n, q0, q1, q2, g0, g1, g2⟩ := hc k hk
      rw [t0] at g0
      rw [t2] at g2
      obtain ⟨s, hs, _, _⟩ := DataW.trod_int hi g0
      obtain ⟨z, hz, _, _⟩ := DataW.trod_int hi g2
      obtain ⟨q, l, c', rfl, hrow, _⟩ := row_of h1 hte cte g1
      simp at hs hz
      subst hs hz
      exact ⟨(s, l, z), q0, ⟨q, c', q1, hrow⟩, q2⟩
    obtain ⟨f, hf⟩ := Deep.choose_lt each
    refine ⟨some ⟨b, off, none⟩, (List.range len).map f, c, by simp, fun _ => ⟨b, off, rfl, hb, fun k hk => ?_⟩, by simpa using hl, hm⟩
    have hk' : k < len := by simpa using hk
    have e1 : gE ((List.range len).map f) k = f k := by simp [gE, hk']
    rw [e1]
    exact hf k hk'
  · obtain rfl : len = 0 := by omega
    exact ⟨p, [], c, rfl, ERow.nil, by simp, hm⟩
/-- A struct of one field, of one cell, by value. -/
theorem open_agg1 {r : Reach} {b0 : Nat} {t : TypeId} {f0 : Field} {v : Value} {d : DataW H} {ps : List MemPlace} (hs : P.underlying t = some (.struct #[f0])) (o0 : f0.offset = 0) (c0 : P.cellsOf f0.type = 1) (hC : P.cellsOf t = 1)
    (hv : Value.okWide P W r b0 t v) (h : DataW.Trod enc P W 0 (fun _ => true) true t v d ps) : ∃ v0 y0 n, v = .agg #[v0] ∧ DataW.trod enc P W 0 (fun _ => true) true n f0.type [v0] = some y0 := by
  obtain ⟨cs, rfl, hsz⟩ := okWide_struct hs hv
  obtain ⟨l⟩ := cs
  have hl : l.length = 1 := by simpa using hsz.trans hC
  match l, hl with
  | [x0], _ =>
    obtain ⟨fuel, hf⟩ := h
    obtain ⟨xs, n, _, hx, _, hlen, hff⟩ := DataW.trod_struct hs hf
    match xs, hlen with
    | [y0], _ =>
      have g := hff 0 f0 rfl
      simp [o0, c0, Value.cells] at g
      exact ⟨x0, y0, n, rfl, g⟩
end
end Go.Proofs.Ytjnhalomkmdcgaa
