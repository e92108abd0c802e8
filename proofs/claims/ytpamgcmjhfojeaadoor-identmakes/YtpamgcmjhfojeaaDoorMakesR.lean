/- A row of two numbers each that reads as data: what the walk of IdentMakes is told of it. -/
import Derived.Test.YtpamgcmjhfojeaaDoorMakesA
import Derived.Test.YtpamgcmjhfojeaaDoorRows
import Derived.ProofKit
import Derived.OpenShut
import Derived.Deep.Slices
import Derived.ChangeOld
import Derived.Below
namespace Go.Proofs.YtpamgcmjhfojeaaDoor
open Go.ChangeShapes Go.WideShapes Go.ChangeAt Go.RowKit

theorem laidOut : laidOutB Tryd.prog = true := by kernel_rfl
theorem cells24 : Tryd.prog.cellsOf 24 = 2 := by kernel_rfl
theorem cells3 : Tryd.prog.cellsOf 3 = 1 := by kernel_rfl
/-- A row of two numbers each that reads as data is a row of cells that hold numbers. -/
theorem isPairs_of {H : Type} {enc : TypeId × Value → H} {W : World} {spare : Nat → Bool} {held : Bool} {fuel : Nat} {a0 : Option Addr} {len0 cap0 : Nat} {x : DataW H × List MemPlace}
    (hf : DataW.trod enc Tryd.prog W 0 spare held fuel 22 (Value.cells (.slice a0 len0 cap0)).toList = some x) : IsPairs W a0 len0 cap0 := by
  rcases Deep.open_slice Tryd.underlying22 hf with ⟨hcs, _⟩ | ⟨a, len, cap, m, n, D, Pl, hcs, _, hl, hm, hmm, _, hx⟩
  · simp [Value.cells] at hcs
    obtain ⟨rfl, rfl, rfl⟩ := hcs
    exact .inl ⟨rfl, rfl, rfl⟩
  · simp [Value.cells] at hcs
    obtain ⟨rfl, rfl, rfl⟩ := hcs
    have key : ∀ i, i < len0 → ∃ u v : Int, W.cell? (a.add (i * 2)) = some (.int .i64 u) ∧ W.cell? ((a.add (i * 2)).add 1) = some (.int .i64 v) := by
      intro i hi
      obtain ⟨cs, h1, h2⟩ := hx i (by rw [hmm]; split <;> omega)
      rw [cells24] at h1
      obtain ⟨_, hlen, hcell⟩ := World.cells?_some h1
      obtain ⟨xs, m1, _, _, _, hn2, hel⟩ := DataW.trod_array Tryd.underlying24 h2
      rw [cells3] at hel
      match cs, hlen, hcell, hel with
      | [c0, c1], _, hcell, hel =>
        match xs, hn2, hel with
        | [x0, x1], _, hel =>
          have r0 := hel 0 (by omega)
          have r1 := hel 1 (by omega)
          simp at r0 r1
          obtain ⟨u, e0, _, _⟩ := DataW.trod_int Tryd.underlying3 r0
          obtain ⟨v, e1, _, _⟩ := DataW.trod_int Tryd.underlying3 r1
          simp at e0 e1
          subst e0 e1
          have q0 := hcell 0 (by omega)
          have q1 := hcell 1 (by omega)
          simp [Addr.add] at q0
          simp at q1
          exact ⟨u, v, by simpa [Addr.add] using q0, q1⟩
    refine .inr ⟨a, rfl, hl, hm, fun i hi => ?_⟩
    obtain ⟨u0, v0, z0, _⟩ := key 0 (by omega)
    obtain ⟨b, off, spot⟩ := a
    have hspot : spot = none := by simpa [Addr.add] using World.cell?_spot z0
    subst hspot
    obtain ⟨u, v, g0, g1⟩ := key i hi
    have ea : (⟨b, off, none⟩ : Addr).add (i * 2) = ⟨b, off + i * 2, none⟩ := by
      unfold Addr.add; split
      · rename_i e; rw [e]; rfl
      · rfl
    rw [ea] at g0 g1
    have eb : (⟨b, off + i * 2, none⟩ : Addr).add 1 = ⟨b, off + i * 2 + 1, none⟩ := rfl
    rw [eb] at g1
    refine ⟨rfl, ?_, u, v, g0, g1⟩
    rcases Nat.lt_or_ge b W.heap.size with h' | h'
    · exact h'
    · simp [World.cell?, Array.getElem?_eq_none h'] at g0

end Go.Proofs.YtpamgcmjhfojeaaDoor
