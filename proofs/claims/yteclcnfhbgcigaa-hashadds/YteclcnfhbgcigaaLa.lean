/- What the rows' readings give the walks. -/
import Derived.Test.YteclcnfhbgcigaaRows
import Derived.Test.YteclcnfhbgcigaaWk
import Derived.ProofKit
import Derived.Stop.Joined
import Derived.OpenShut
namespace Go.Proofs.Yteclcnfhbgcigaa
open Go.ChangeShapes Go.WideShapes Go.ChangeAt Go.RowKit

theorem own : ownKnob Try.prog.godebug = none := by kernel_rfl
theorem tLaidOut : laidOutB Try.prog = true := by kernel_rfl
theorem cells26t : Try.prog.cellsOf 26 = 1 := by kernel_rfl
theorem cells27t : Try.prog.cellsOf 27 = 1 := by kernel_rfl
theorem u64_bd {n : Int} (h : (Lit.int .u64 n).wf = true) : 0 ≤ n ∧ n < 18446744073709551616 := by
  have a1 : IntKind.u64.min = 0 := by decide
  have b1 : IntKind.u64.max = 18446744073709551615 := by decide
  simp [Lit.wf, a1, b1] at h; omega
theorem i64_bd {n : Int} (h : (Lit.int .i64 n).wf = true) : -9223372036854775808 ≤ n ∧ n < 9223372036854775808 := by
  have a1 : IntKind.i64.min = -9223372036854775808 := by decide
  have b1 : IntKind.i64.max = 9223372036854775807 := by decide
  simp [Lit.wf, a1, b1] at h; omega
/-- A word that came in. -/
theorem nat_of {a : Int} (h : (Lit.int .u64 a).wf = true) : ∃ n : Nat, a = (n : Int) ∧ n < 18446744073709551616 := by
  have := u64_bd h
  exact ⟨a.toNat, by omega, by omega⟩

section
variable {H : Type} {enc : TypeId × Value → H} {W : World}
theorem addr_spot {w : World} {a : Addr} {v : Value} (h : w.cell? (a.add 0) = some v) : ∃ b off, a = ⟨b, off, none⟩ := by
  obtain ⟨b, off, sp⟩ := a
  cases sp with
  | none => exact ⟨b, off, rfl⟩
  | some s =>
    exfalso; revert h
    unfold World.cell? Addr.add
    simp only [if_true, Option.isSome_some]
    split <;> simp
theorem addr_add (g o i : Nat) : (⟨g, o, none⟩ : Addr).add i = ⟨g, o + i, none⟩ := by unfold Addr.add; split <;> simp_all
/-- What is known of a row of words that came in. -/
structure InR (w : World) (p : Option Addr) (l : List Nat) (c : Nat) : Prop where
  i : NRow w.heap.size w p l
  r : l.length ≤ c
  u : U64 l
  m : l.length ≤ 9223372036854775807
theorem InR.to {w w' : World} {p : Option Addr} {l : List Nat} {c : Nat} (h : InR w p l c) (hb : Below w.heap.size w w') : InR w' p l c := ⟨h.i.to hb, h.r, h.u, h.m⟩
theorem words_of {t e : TypeId} {fuel : Nat} {v : Value} {x : DataW H × List MemPlace} (ht : Try.prog.underlying t = some (.slice e)) (he : Try.prog.underlying e = some (.int .u64)) (hc : Try.prog.cellsOf e = 1) (h : DataW.trod enc Try.prog W 0 (fun _ => true) true fuel t [v] = some x) :
    ∃ p l c, v = .slice p l.length c ∧ InR W p l c := by
  rcases open_ints ht he hc h with ⟨hv, _⟩ | ⟨a, len, cap, zs, hv, _, hl, hm, hz, _, hcs, hw⟩
  · exact ⟨none, [], 0, by simpa using hv, NRow.nil, by simp, fun y hy => by simp at hy, by rw [List.length_nil]; omega⟩
  · have hz' : zs.length = cap := by simpa using hz
    have hlen : ((zs.take len).map Int.toNat).length = len := by simp; omega
    refine ⟨some a, (zs.take len).map Int.toNat, cap, by rw [hlen]; simpa using hv, ?_, by omega, ?_, by rw [hlen]; unfold maxLen at hm; omega⟩
    · intro h0
      have h0' : 0 < len := by omega
      obtain ⟨b, off, rfl⟩ := addr_spot (hcs 0 (by omega))
      have hb := World.block_lt_of_cell? _ _ (hcs 0 (by omega))
      rw [addr_add] at hb
      refine ⟨b, off, rfl, by simpa using hb, fun i hi => ?_⟩
      rw [hlen] at hi
      have e0 := hcs i (by omega)
      rw [addr_add] at e0
      rw [e0]
      have e1 : zs.getD i 0 = zs[i]'(by omega) := by simp [show i < zs.length by omega]
      have e2 := u64_bd (hw _ (List.getElem_mem (show i < zs.length by omega)))
      rw [nG_eq (by rw [hlen]; exact hi), e1]
      simp
      omega
    · intro y hy
      obtain ⟨z, hz1, rfl⟩ := List.mem_map.1 hy
      have := u64_bd (hw z (List.mem_of_mem_take hz1))
      omega
/-- A row of ids that came in. -/
theorem ids_of {r : Reach} {b0 : Nat} {v : Value} {d : DataW H} {ps : List MemPlace} (hv : Value.okWide Try.prog W r b0 23 v) (h : DataW.Trod enc Try.prog W 0 (fun _ => true) true 23 v d ps) : ∃ p l c, v = .slice p l.length c ∧ InR W p l c := by
  obtain ⟨a0, n0, c0, rfl⟩ := okWide_slice Try.underlying23 hv
  obtain ⟨fuel, hf⟩ := h
  exact words_of Try.underlying23 Try.underlying27 cells27t (by simpa [Value.cells] using hf)
/-- A row of hashes that came in. -/
theorem hashes_of {r : Reach} {b0 : Nat} {v : Value} {d : DataW H} {ps : List MemPlace} (hv : Value.okWide Try.prog W r b0 22 v) (h : DataW.Trod enc Try.prog W 0 (fun _ => true) true 22 v d ps) : ∃ p l c, v = .slice p l.length c ∧ InR W p l c := by
  obtain ⟨a0, n0, c0, rfl⟩ := okWide_slice Try.underlying22 hv
  obtain ⟨fuel, hf⟩ := h
  exact words_of Try.underlying22 Try.underlying26 cells26t (by simpa [Value.cells] using hf)
end
end Go.Proofs.Yteclcnfhbgcigaa
