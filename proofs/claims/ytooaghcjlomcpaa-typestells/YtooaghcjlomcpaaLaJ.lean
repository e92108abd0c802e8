/- A row of ids that came in, and how long it can be. -/
import Derived.Test.YtooaghcjlomcpaaLaI
namespace Go.Proofs.Ytooaghcjlomcpaa
open Go.ChangeShapes Go.WideShapes Go.ChangeAt Go.RowKit
theorem ids_ofL {H : Type} {enc : TypeId × Value → H} {W : World} {r : Reach} {b0 : Nat} {v : Value} {d : DataW H} {ps : List MemPlace} (hv : Value.okWide Try.prog W r b0 22 v) (h : DataW.Trod enc Try.prog W 0 (fun _ => true) true 22 v d ps) : ∃ p l c, v = .slice p l.length c ∧ InR W p l c ∧ l.length ≤ 9223372036854775807 := by
  obtain ⟨a0, n0, c0, rfl⟩ := okWide_slice Try.underlying22 hv
  obtain ⟨fuel, hf⟩ := h
  obtain ⟨p, l, c, e, h1, h2, h4, h3⟩ := ints_of Try.underlying22 Try.underlying33 cells33t (by simpa [Value.cells] using hf)
  exact ⟨p, l, c, e, ⟨h1, h2, fun z hz => u64_bd (h3 z hz)⟩, by unfold maxLen at h4; omega⟩
end Go.Proofs.Ytooaghcjlomcpaa
