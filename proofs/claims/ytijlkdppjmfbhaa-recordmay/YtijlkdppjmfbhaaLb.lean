/- Readings of what comes in: rows of numbers and of spots, two records. -/
import Derived.Test.YtijlkdppjmfbhaaLa
namespace Go.Proofs.Ytijlkdppjmfbhaa
open Go.ChangeShapes Go.WideShapes Go.ChangeAt Go.RowKit
section
variable {H : Type} {enc : TypeId × Value → H} {W : World}
set_option maxRecDepth 100000 in
theorem nums_of {r : Reach} {b0 : Nat} {v : Value} {d : DataW H} {ps : List MemPlace} (hv : Value.okWide Try.prog W r b0 26 v) (h : DataW.Trod enc Try.prog W 0 (fun _ => true) true 26 v d ps) :
    ∃ p l c, v = .slice p l.length c ∧ IRow .i64 W.heap.size W p l ∧ l.length ≤ c ∧ l.length ≤ maxLen ∧ ∀ z ∈ l, wfI z := by
  obtain ⟨a0, n0, c0, rfl⟩ := okWide_slice Try.underlying26 hv
  obtain ⟨fuel, hf⟩ := h
  exact ints_of Try.underlying26 Try.underlying3 cells3t (by simpa [Value.cells] using hf)
set_option maxRecDepth 100000 in
theorem spotsr_of {r : Reach} {b0 : Nat} {v : Value} {d : DataW H} {ps : List MemPlace} (hv : Value.okWide Try.prog W r b0 22 v) (h : DataW.Trod enc Try.prog W 0 (fun _ => true) true 22 v d ps) :
    ∃ p l c, v = .slice p l.length c ∧ SRow W.heap.size W p l ∧ l.length ≤ c ∧ l.length ≤ maxLen ∧ wfL l := by
  obtain ⟨a0, n0, c0, rfl⟩ := okWide_slice Try.underlying22 hv
  obtain ⟨fuel, hf⟩ := h
  exact spots_of (by simpa [Value.cells] using hf)
theorem cells25t : Try.prog.cellsOf 25 = 2 := by kernel_rfl
set_option maxRecDepth 100000 in
theorem two_of {r : Reach} {b0 : Nat} {v : Value} {d : DataW H} {ps : List MemPlace} (hv : Value.okWide Try.prog W r b0 25 v) (h : DataW.Trod enc Try.prog W 0 (fun _ => true) true 25 v d ps) :
    ∃ p l c q m e, v = .agg #[.slice p l.length c, .slice q m.length e] ∧ SRow W.heap.size W p l ∧ l.length ≤ c ∧ l.length ≤ maxLen ∧ wfL l ∧ SRow W.heap.size W q m ∧ m.length ≤ e ∧ m.length ≤ maxLen ∧ wfL m := by
  simp only [Value.okWide, Try.underlying25] at hv
  obtain ⟨cs, rfl, h2, _⟩ := hv
  rw [cells25t] at h2
  obtain ⟨c0, c1, rfl⟩ := Joins.array2 h2
  obtain ⟨fuel, hf⟩ := h
  obtain ⟨xs, m, _, _, _, hxl, hx⟩ := DataW.trod_array Try.underlying25 hf
  have h0 := hx 0 (by omega)
  have h1 := hx 1 (by omega)
  rw [List.getElem?_eq_getElem (by omega), cells24t] at h0 h1
  obtain ⟨p, l, c, e0, g0⟩ := rec_trod (by simpa [Value.cells] using h0)
  obtain ⟨q, m, d, e1, g1⟩ := rec_trod (by simpa [Value.cells] using h1)
  subst e0 e1
  exact ⟨p, l, c, q, m, d, rfl, g0.1, g0.2.1, g0.2.2.1, g0.2.2.2, g1⟩
end
end Go.Proofs.Ytijlkdppjmfbhaa
