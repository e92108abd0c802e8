/- Readings of what comes in. -/
import Derived.Test.YtijlkdppjmfbhaaRows
import Derived.Test.YtijlkdppjmfbhaaRcM
import Derived.ProofKit
import Derived.LaidMore
import Derived.Stop.Joined
import Derived.Deep.Slices
import Derived.Deep.SlicePairs
import Derived.Lib.SmallJoins
import Derived.OpenShut
namespace Go.Proofs.Ytijlkdppjmfbhaa
open Go.ChangeShapes Go.WideShapes Go.ChangeAt Go.RowKit

theorem own : ownKnob Try.prog.godebug = none := by kernel_rfl
theorem cells3t : Try.prog.cellsOf 3 = 1 := by kernel_rfl
theorem cells22t : Try.prog.cellsOf 22 = 1 := by kernel_rfl
theorem cells24t : Try.prog.cellsOf 24 = 1 := by kernel_rfl
section
variable {H : Type} {enc : TypeId × Value → H} {W : World}
theorem addr_spot {w : World} {a : Addr} {v : Value} (h : w.cell? (a.add 0) = some v) : ∃ b off, a = ⟨b, off, none⟩ := by
  obtain ⟨b, off, sp⟩ := a
  cases sp with
  | none => exact ⟨b, off, rfl⟩
  | some s =>
    exfalso; revert h
    unfold World.cell? Addr.add
    simp only [if_true, Option.isSome_some]
    split <;> simp
def gOf (v : Value) : Int := match v with | .int _ n => n | _ => 0
/-- A row of numbers that came in. -/
theorem ints_of {t e : TypeId} {k : IntKind} {fuel : Nat} {v : Value} {x : DataW H × List MemPlace} (ht : Try.prog.underlying t = some (.slice e)) (he : Try.prog.underlying e = some (.int k)) (hc : Try.prog.cellsOf e = 1) (h : DataW.trod enc Try.prog W 0 (fun _ => true) true fuel t [v] = some x) :
    ∃ p l c, v = .slice p l.length c ∧ IRow k W.heap.size W p l ∧ l.length ≤ c ∧ l.length ≤ maxLen ∧ ∀ z ∈ l, (Lit.int k z).wf = true := by
  rcases open_ints ht he hc h with ⟨hv, _⟩ | ⟨a, len, cap, zs, hv, _, hl, hm, hz, _, hcs, hw⟩
  · exact ⟨none, [], 0, by simpa using hv, IRow.nil, by simp, by simp, by simp⟩
  · have hz' : zs.length = cap := by simpa using hz
    have hlen : (zs.take len).length = len := by simp; omega
    refine ⟨some a, zs.take len, cap, by rw [hlen]; simpa using hv, ?_, by omega, by omega, fun z hz => hw z (List.mem_of_mem_take hz)⟩
    intro h0
    have h0' : 0 < len := by omega
    obtain ⟨b, off, rfl⟩ := addr_spot (hcs 0 (by omega))
    have hb := World.block_lt_of_cell? _ _ (hcs 0 (by omega))
    rw [addr_add] at hb
    refine ⟨b, off, rfl, by simpa using hb, fun i hi => ?_⟩
    have e0 := hcs i (by omega)
    rw [addr_add] at e0
    rw [e0, iG_take (by omega)]; rfl
/-- Spots that came in. -/
theorem spots_of {fuel : Nat} {v : Value} {x : DataW H × List MemPlace} (h : DataW.trod enc Try.prog W 0 (fun _ => true) true fuel 22 [v] = some x) :
    ∃ p l c, v = .slice p l.length c ∧ SRow W.heap.size W p l ∧ l.length ≤ c ∧ l.length ≤ maxLen ∧ wfL l := by
  rcases Deep.open_slice_pairs Try.underlying22 Try.underlying34 Try.cells34 rfl rfl cells3t cells3t h with ⟨hv, _⟩ | ⟨a, len, cap, m, n, V0, V1, D0, D1, P0, P1, hv, _, hl, hmx, hm, _, hc⟩
  · exact ⟨none, [], 0, by simpa using hv, SRow.nil, by simp, by simp, fun s hs => by cases hs⟩
  · have hm' : m = cap := by simpa using hm
    have hx : ∀ i, i < len → V0 i = .int .i64 (gOf (V0 i)) ∧ wfI (gOf (V0 i)) ∧ V1 i = .int .i64 (gOf (V1 i)) ∧ wfI (gOf (V1 i)) := fun i hi => by
      obtain ⟨_, _, t0, t1⟩ := hc i (by omega)
      obtain ⟨z, hz, _, wz⟩ := DataW.trod_int Try.underlying3 t0
      obtain ⟨y, hy, _, wy⟩ := DataW.trod_int Try.underlying3 t1
      simp at hz hy
      rw [hz, hy]
      exact ⟨rfl, wz, rfl, wy⟩
    refine ⟨some a, (List.range len).map fun i => (gOf (V0 i), gOf (V1 i)), cap, by simpa using hv, ?_, by simpa using hl, by simp; omega, ?_⟩
    · intro h0
      have h0' : 0 < len := by simpa using h0
      obtain ⟨b, off, rfl⟩ := addr_spot (by simpa using (hc 0 (by omega)).1)
      have hb := World.block_lt_of_cell? _ _ (hc 0 (by omega)).1
      rw [addr_add] at hb
      refine ⟨b, off, rfl, by simpa using hb, fun k hk => ?_⟩
      have hk' : k < len := by simpa using hk
      obtain ⟨e0, e1, _, _⟩ := hc k (by omega)
      obtain ⟨x0, _, x1, _⟩ := hx k hk'
      rw [addr_add, x0] at e0
      rw [addr_add, x1] at e1
      have s0 : sG ((List.range len).map fun i => (gOf (V0 i), gOf (V1 i))) k = (gOf (V0 k), gOf (V1 k)) := by simp [sG, hk']
      rw [s0]
      exact ⟨e0, by simpa [Nat.add_assoc] using e1⟩
    · intro s hs
      obtain ⟨i, hi, rfl⟩ := List.mem_map.1 hs
      obtain ⟨_, w0, _, w1⟩ := hx i (List.mem_range.1 hi)
      exact ⟨w0, w1⟩
/-- Records that came in. -/
theorem rec_trod {fuel : Nat} {v : Value} {x : DataW H × List MemPlace} (h : DataW.trod enc Try.prog W 0 (fun _ => true) true fuel 24 [v] = some x) :
    ∃ p l c, v = .slice p l.length c ∧ SRow W.heap.size W p l ∧ l.length ≤ c ∧ l.length ≤ maxLen ∧ wfL l := by
  obtain ⟨y0, m, rfl, hl, u0⟩ := trod_struct1 Try.underlying24 h
  exact spots_of (by simpa [cells22t] using u0)
set_option maxRecDepth 100000 in
theorem rec_of {r : Reach} {b0 : Nat} {v : Value} {d : DataW H} {ps : List MemPlace} (hv : Value.okWide Try.prog W r b0 24 v) (h : DataW.Trod enc Try.prog W 0 (fun _ => true) true 24 v d ps) :
    ∃ p l c, v = .agg #[.slice p l.length c] ∧ SRow W.heap.size W p l ∧ l.length ≤ c ∧ l.length ≤ maxLen ∧ wfL l := by
  obtain ⟨cs, rfl, hsz⟩ := okWide_struct Try.underlying24 hv
  obtain ⟨c0, rfl⟩ : ∃ c0, cs = #[c0] := by
    have h1 : cs.size = 1 := hsz.trans cells24t
    obtain ⟨l⟩ := cs
    match l, h1 with
    | [c0], _ => exact ⟨c0, rfl⟩
  obtain ⟨fuel, hf⟩ := h
  obtain ⟨p, l, c, rfl, r⟩ := rec_trod (by simpa [Value.cells] using hf)
  exact ⟨p, l, c, rfl, r⟩
end
end Go.Proofs.Ytijlkdppjmfbhaa
