/- What the rows' readings give the walks. -/
import Derived.Test.YtjnhalomkmdcgaaRows
import Derived.Test.YtjnhalomkmdcgaaLkO
import Derived.ProofKit
import Derived.Stop.Joined
import Derived.OpenShut
namespace Go.Proofs.Ytjnhalomkmdcgaa
open Go.ChangeShapes Go.WideShapes Go.ChangeAt Go.RowKit

theorem own : ownKnob Try.prog.godebug = none := by kernel_rfl
theorem tLaidOut : laidOutB Try.prog = true := by kernel_rfl
theorem cells22t : Try.prog.cellsOf 22 = 1 := by kernel_rfl
theorem cells24t : Try.prog.cellsOf 24 = 1 := by kernel_rfl
theorem cells39t : Try.prog.cellsOf 39 = 3 := by kernel_rfl
theorem cells46t : Try.prog.cellsOf 46 = 3 := by kernel_rfl
theorem cells34t : Try.prog.cellsOf 34 = 1 := by kernel_rfl
theorem cells41t : Try.prog.cellsOf 41 = 1 := by kernel_rfl
theorem cells3t : Try.prog.cellsOf 3 = 1 := by kernel_rfl
theorem cells4t : Try.prog.cellsOf 4 = 1 := by kernel_rfl
section
variable {H : Type} {enc : TypeId × Value → H} {W : World}
set_option maxRecDepth 100000 in
/-- A row of ids that came in. -/
theorem ids_of {r : Reach} {b0 : Nat} {v : Value} {d : DataW H} {ps : List MemPlace} (hv : Value.okWide Try.prog W r b0 34 v) (h : DataW.Trod enc Try.prog W 0 (fun _ => true) true 34 v d ps) : ∃ p l c, v = .slice p l.length c ∧ TRow W.heap.size W p l c ∧ c ≤ maxLen := by
  obtain ⟨a0, n0, c0, rfl⟩ := okWide_slice Try.underlying34 hv
  obtain ⟨fuel, hf⟩ := h
  exact row_of Try.underlying34 Try.underlying41 cells41t (by simpa [Value.cells] using hf)
set_option maxRecDepth 100000 in
/-- Rows of ids that came in. -/
theorem idrows_of {r : Reach} {b0 : Nat} {v : Value} {d : DataW H} {ps : List MemPlace} (hv : Value.okWide Try.prog W r b0 25 v) (h : DataW.Trod enc Try.prog W 0 (fun _ => true) true 25 v d ps) : ∃ p R c, v = .slice p R.length c ∧ RRow W.heap.size W p R ∧ R.length ≤ c ∧ c ≤ maxLen := by
  obtain ⟨a0, n0, c0, rfl⟩ := okWide_slice Try.underlying25 hv
  obtain ⟨fuel, hf⟩ := h
  exact rows_of Try.underlying25 Try.underlying34 cells34t Try.underlying41 cells41t (by simpa [Value.cells] using hf)
set_option maxRecDepth 100000 in
/-- Steps that came in. -/
theorem stepsrow_of {r : Reach} {b0 : Nat} {v : Value} {d : DataW H} {ps : List MemPlace} (hv : Value.okWide Try.prog W r b0 44 v) (h : DataW.Trod enc Try.prog W 0 (fun _ => true) true 44 v d ps) : ∃ p S c, v = .slice p S.length c ∧ PRow W.heap.size W p S ∧ S.length ≤ c ∧ c ≤ maxLen := by
  obtain ⟨a0, n0, c0, rfl⟩ := okWide_slice Try.underlying44 hv
  obtain ⟨fuel, hf⟩ := h
  exact steps_of Try.underlying44 Try.underlying46 cells46t rfl rfl rfl Try.underlying4 cells4t Try.underlying3 cells3t Try.underlying34 cells34t Try.underlying41 cells41t (by simpa [Value.cells] using hf)
set_option maxRecDepth 100000 in
/-- A lookup that came in. -/
theorem lookup_of {r : Reach} {b0 : Nat} {v : Value} {d : DataW H} {ps : List MemPlace} (hv : Value.okWide Try.prog W r b0 24 v) (h : DataW.Trod enc Try.prog W 0 (fun _ => true) true 24 v d ps) : ∃ p L c, v = .agg #[.slice p L.length c] ∧ ERow W.heap.size W p L ∧ L.length ≤ maxLen := by
  obtain ⟨v0, y0, n, rfl, hf⟩ := open_agg1 Try.underlying24 rfl cells22t cells24t hv h
  obtain ⟨p, L, c, rfl, hE, h1, h2⟩ := entries_of Try.underlying22 Try.underlying39 cells39t rfl rfl rfl rfl rfl Try.underlying3 cells3t Try.underlying34 cells34t Try.underlying41 cells41t hf
  exact ⟨p, L, c, rfl, hE, by omega⟩
end
end Go.Proofs.Ytjnhalomkmdcgaa
