/- What the rows' readings give the walks. -/
import Derived.Test.YtooaghcjlomcpaaRows
import Derived.Test.YtooaghcjlomcpaaTyJ
import Derived.ProofKit
import Derived.Stop.Joined
import Derived.OpenShut
namespace Go.Proofs.Ytooaghcjlomcpaa
open Go.ChangeShapes Go.WideShapes Go.ChangeAt Go.RowKit

theorem own : ownKnob Try.prog.godebug = none := by kernel_rfl
theorem tLaidOut : laidOutB Try.prog = true := by kernel_rfl
theorem cells33t : Try.prog.cellsOf 33 = 1 := by kernel_rfl
theorem cells3t : Try.prog.cellsOf 3 = 1 := by kernel_rfl
theorem u64_bd {n : Int} (h : (Lit.int .u64 n).wf = true) : 0 ≤ n ∧ n < 18446744073709551616 := by
  have a1 : IntKind.u64.min = 0 := by decide
  have b1 : IntKind.u64.max = 18446744073709551615 := by decide
  simp [Lit.wf, a1, b1] at h; omega

section
variable {H : Type} {enc : TypeId × Value → H} {W : World}
theorem addr_spot {w : World} {a : Addr} {v : Value} (h : w.cell? (a.add 0) = some v) : ∃ b off, a = ⟨b, off, none⟩ := by
  obtain ⟨b, off, sp⟩ := a
  cases sp with
  | none => exact ⟨b, off, rfl⟩
  | some s =>
    exfalso; revert h
    unfold World.cell? Addr.add
    simp only [if_true, Option.isSome_some]
    split <;> simp
/-- A row of numbers that came in. -/
theorem ints_of {t e : TypeId} {k : IntKind} {fuel : Nat} {v : Value} {x : DataW H × List MemPlace} (ht : Try.prog.underlying t = some (.slice e)) (he : Try.prog.underlying e = some (.int k)) (hc : Try.prog.cellsOf e = 1) (h : DataW.trod enc Try.prog W 0 (fun _ => true) true fuel t [v] = some x) :
    ∃ p l c, v = .slice p l.length c ∧ IRow k W.heap.size W p l ∧ l.length ≤ c ∧ l.length ≤ maxLen ∧ ∀ z ∈ l, (Lit.int k z).wf = true := by
  rcases open_ints ht he hc h with ⟨hv, _⟩ | ⟨a, len, cap, zs, hv, _, hl, hm, hz, _, hcs, hw⟩
  · exact ⟨none, [], 0, by simpa using hv, IRow.nil, by simp, by simp, by simp⟩
  · have hz' : zs.length = cap := by simpa using hz
    have hlen : (zs.take len).length = len := by simp; omega
    refine ⟨some a, zs.take len, cap, by rw [hlen]; simpa using hv, ?_, by omega, by omega, fun z hz => hw z (List.mem_of_mem_take hz)⟩
    intro h0
    have h0' : 0 < len := by omega
    obtain ⟨b, off, rfl⟩ := addr_spot (hcs 0 (by omega))
    have hb := World.block_lt_of_cell? _ _ (hcs 0 (by omega))
    rw [addr_add] at hb
    refine ⟨b, off, rfl, by simpa using hb, fun i hi => ?_⟩
    have e0 := hcs i (by omega)
    rw [addr_add] at e0
    rw [e0, iG_take (by omega)]; rfl
/-- A row of ids that came in. -/
theorem ids_of {r : Reach} {b0 : Nat} {v : Value} {d : DataW H} {ps : List MemPlace} (hv : Value.okWide Try.prog W r b0 22 v) (h : DataW.Trod enc Try.prog W 0 (fun _ => true) true 22 v d ps) : ∃ p l c, v = .slice p l.length c ∧ InR W p l c := by
  obtain ⟨a0, n0, c0, rfl⟩ := okWide_slice Try.underlying22 hv
  obtain ⟨fuel, hf⟩ := h
  obtain ⟨p, l, c, e, h1, h2, _, h3⟩ := ints_of Try.underlying22 Try.underlying33 cells33t (by simpa [Value.cells] using hf)
  exact ⟨p, l, c, e, h1, h2, fun z hz => u64_bd (h3 z hz)⟩
/-- A row of numbers that came in. -/
theorem nums_of {r : Reach} {b0 : Nat} {v : Value} {d : DataW H} {ps : List MemPlace} (hv : Value.okWide Try.prog W r b0 39 v) (h : DataW.Trod enc Try.prog W 0 (fun _ => true) true 39 v d ps) : ∃ p l c, v = .slice p l.length c ∧ IRow .i64 W.heap.size W p l ∧ l.length ≤ maxLen := by
  obtain ⟨a0, n0, c0, rfl⟩ := okWide_slice Try.underlying39 hv
  obtain ⟨fuel, hf⟩ := h
  obtain ⟨p, l, c, e, h1, _, h2, _⟩ := ints_of Try.underlying39 Try.underlying3 cells3t (by simpa [Value.cells] using hf)
  exact ⟨p, l, c, e, h1, h2⟩
end
end Go.Proofs.Ytooaghcjlomcpaa
