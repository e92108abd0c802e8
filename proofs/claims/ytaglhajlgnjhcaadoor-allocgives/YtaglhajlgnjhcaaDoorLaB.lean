/- What the rows' condition and readings give the walks. -/
import Derived.Test.YtaglhajlgnjhcaaDoorRows
import Derived.Test.YtaglhajlgnjhcaaDoorOwA
import Derived.ProofKit
import Derived.LaidMore
import Derived.Stop.Joined
import Derived.Stop.LaidErr
import Derived.Lib.LaidTab
import Derived.Lib.SmallJoins
import Derived.Deep.SlicePairs
import Derived.OpenShut
namespace Go.Proofs.YtaglhajlgnjhcaaDoor
open Go.ChangeShapes Go.WideShapes Go.ChangeAt Go.RowKit

def laid1 : List (String × DataW Unit) := [("windrose/alloc.fresh", Rows.laid_windrose_alloc_fresh)]
theorem own : ownKnob Tryd.prog.godebug = none := by kernel_rfl
theorem gFresh : Tryd.prog.globalNamed "windrose/alloc.fresh" = some 0 := by kernel_rfl
theorem tFresh : (Tryd.prog.globals[0]?).map (·.type) = some 61 := by kernel_rfl
theorem cells61 : Tryd.prog.cellsOf 61 = 2 := by kernel_rfl
theorem cells25 : Tryd.prog.cellsOf 25 = 3 := by kernel_rfl
theorem cells3t : Tryd.prog.cellsOf 3 = 1 := by kernel_rfl
theorem cells4t : Tryd.prog.cellsOf 4 = 1 := by kernel_rfl
theorem cells41 : Tryd.prog.cellsOf 41 = 1 := by kernel_rfl
theorem tLaidOut : laidOutB Tryd.prog = true := by kernel_rfl
set_option maxRecDepth 100000 in
/-- The door's own heap meets the condition. -/
theorem door_met (os : Os) (args : Array Value) : laidMetH Tryd.prog laid1 ((World.doorLaid Tryd.prog 400 os).forCall (fun _ _ => 0) ⟨#[], args, []⟩).memory :=
  laidMetH_of_parts3 (fuel := 8) (laidMet_of_run' 8 (by kernel_rfl) (by kernel_rfl)) (by kernel_rfl) (by kernel_rfl)

/-- The variable 'fresh' holds what its text lays. -/
theorem fr_of_laid {W : World} (h : laidMetH Tryd.prog laid1 W) : Fr W := by
  rw [MakeChecks.laidMetH_plain _ _ _ (by kernel_rfl)] at h
  obtain ⟨ps, ⟨g', t', cs, fuel, p, q, hg', ht', hvar, hd, _, _⟩, _⟩ := h
  obtain rfl := Option.some.inj (gFresh.symm.trans hg')
  obtain rfl := Option.some.inj (tFresh.symm.trans ht')
  obtain ⟨y0, y1, n, hx, hl, h0, h1⟩ := trod_struct2 Tryd.underlying61 hd
  rw [cells61] at hl
  obtain ⟨c0, c1, rfl⟩ := Joins.array2 (show cs.size = 2 by simpa using hl)
  simp [cells3t, cells4t] at h0 h1
  obtain ⟨k, hk, rfl, _⟩ := DataW.trod_int Tryd.underlying3 h0
  obtain ⟨b, hb, rfl⟩ := DataW.trod_bool Tryd.underlying4 h1
  simp [Rows.laid_windrose_alloc_fresh] at hx hk hb
  obtain ⟨⟨rfl, rfl⟩, _⟩ := hx
  subst hk hb
  have e0 := World.var?_cell gFresh hvar 0
  have e1 := World.var?_cell gFresh hvar 1
  exact ⟨World.block_lt_of_cell? _ ⟨0, 0, none⟩ (by simpa using e0), by simpa using e0, by simpa using e1⟩

section
variable {H : Type} {enc : TypeId × Value → H} {W : World}
def gOf (v : Value) : Int := match v with | .int _ n => n | _ => 0
def bOf (v : Value) : Bool := match v with | .bool b => b | _ => false
theorem addr_spot {w : World} {a : Addr} {v : Value} (h : w.cell? (a.add 0) = some v) : ∃ b off, a = ⟨b, off, none⟩ := by
  obtain ⟨b, off, sp⟩ := a
  cases sp with
  | none => exact ⟨b, off, rfl⟩
  | some s =>
    exfalso; revert h
    unfold World.cell? Addr.add
    simp only [if_true, Option.isSome_some]
    split <;> simp
/-- A row of slots that came in. -/
theorem slots_of {fuel : Nat} {v : Value} {x : DataW H × List MemPlace} (h : DataW.trod enc Tryd.prog W 0 (fun _ => true) true fuel 22 [v] = some x) :
    ∃ p l c, v = .slice p l.length c ∧ SRow W.heap.size W p l ∧ (AdOk p ∨ l.length = 0) ∧ l.length ≤ c := by
  rcases Deep.open_slice_pairs Tryd.underlying22 Tryd.underlying61 cells61 rfl rfl cells3t cells4t h with ⟨hv, _⟩ | ⟨a, len, cap, m, n, V0, V1, D0, D1, P0, P1, hv, _, hl, _, hm, _, hc⟩
  · exact ⟨none, [], 0, by simpa using hv, SRow.nil, .inr rfl, by simp⟩
  · have hm' : m = cap := by simpa using hm
    refine ⟨some a, (List.range len).map fun i => (gOf (V0 i), bOf (V1 i)), cap, by simpa using hv, ?_, ?_, by simpa using hl⟩
    · intro h0
      have h0' : 0 < len := by simpa using h0
      obtain ⟨b, off, rfl⟩ := addr_spot (by simpa using (hc 0 (by omega)).1)
      have hb := World.block_lt_of_cell? _ _ (hc 0 (by omega)).1
      rw [addr_add] at hb
      refine ⟨b, off, rfl, by simpa using hb, fun k hk => ?_⟩
      have hk' : k < len := by simpa using hk
      obtain ⟨e0, e1, t0, t1⟩ := hc k (by omega)
      obtain ⟨z, hz, _, _⟩ := DataW.trod_int Tryd.underlying3 t0
      obtain ⟨y, hy, _⟩ := DataW.trod_bool Tryd.underlying4 t1
      simp at hz hy
      rw [addr_add, hz] at e0
      rw [addr_add, hy] at e1
      have s0 : sG ((List.range len).map fun i => (gOf (V0 i), bOf (V1 i))) k = z := by simp [sG, hk', hz, gOf]
      have s1 : sA ((List.range len).map fun i => (gOf (V0 i), bOf (V1 i))) k = y := by simp [sA, hk', hy, bOf]
      rw [s0, s1]
      exact ⟨e0, by simpa [Nat.add_assoc] using e1⟩
    · by_cases h0 : 0 < len
      · obtain ⟨b, off, rfl⟩ := addr_spot (by simpa using (hc 0 (by omega)).1)
        exact .inl (.inr ⟨b, off, rfl⟩)
      · exact .inr (by simp; omega)
/-- A row of numbers that came in. -/
theorem ints_of {t e : TypeId} {k : IntKind} {fuel : Nat} {v : Value} {x : DataW H × List MemPlace} (ht : Tryd.prog.underlying t = some (.slice e)) (he : Tryd.prog.underlying e = some (.int k)) (hc : Tryd.prog.cellsOf e = 1) (h : DataW.trod enc Tryd.prog W 0 (fun _ => true) true fuel t [v] = some x) :
    ∃ p l c, v = .slice p l.length c ∧ IRow k W.heap.size W p l ∧ (AdOk p ∨ l.length = 0) ∧ l.length ≤ c ∧ ∀ z ∈ l, (Lit.int k z).wf = true := by
  rcases open_ints ht he hc h with ⟨hv, _⟩ | ⟨a, len, cap, zs, hv, _, hl, _, hz, _, hcs, hw⟩
  · exact ⟨none, [], 0, by simpa using hv, IRow.nil, .inr rfl, by simp, by simp⟩
  · have hz' : zs.length = cap := by simpa using hz
    have hlen : (zs.take len).length = len := by simp; omega
    refine ⟨some a, zs.take len, cap, by rw [hlen]; simpa using hv, ?_, ?_, by omega, fun z hz => hw z (List.mem_of_mem_take hz)⟩
    · intro h0
      have h0' : 0 < len := by omega
      obtain ⟨b, off, rfl⟩ := addr_spot (hcs 0 (by omega))
      have hb := World.block_lt_of_cell? _ _ (hcs 0 (by omega))
      rw [addr_add] at hb
      refine ⟨b, off, rfl, by simpa using hb, fun i hi => ?_⟩
      have e0 := hcs i (by omega)
      rw [addr_add] at e0
      rw [e0, iG_take (by omega)]; rfl
    · by_cases h0 : 0 < len
      · obtain ⟨b, off, rfl⟩ := addr_spot (hcs 0 (by omega))
        exact .inl (.inr ⟨b, off, rfl⟩)
      · exact .inr (by omega)
theorem one25 : Deep.oneCellFields Tryd.prog #[{ name := "Most", type := 3, offset := 0, embedded := false, tag := "", pkgPath := "", byteOffset := 0 }, { name := "Slots", type := 22, offset := 1, embedded := false, tag := "", pkgPath := "", byteOffset := 8 }, { name := "Free", type := 23, offset := 2, embedded := false, tag := "", pkgPath := "", byteOffset := 32 }] = true := by kernel_rfl
set_option maxRecDepth 100000 in
/-- An allocator that came in. -/
theorem alloc_of {r : Reach} {b0 : Nat} {v : Value} {d : DataW H} {ps : List MemPlace} (hv : Value.okWide Tryd.prog W r b0 25 v) (h : DataW.Trod enc Tryd.prog W 0 (fun _ => true) true 25 v d ps) :
    ∃ (m : Int) (p : Option Addr) (l : List (Int × Bool)) (c : Nat) (q : Option Addr) (f : List Int) (d : Nat), v = .agg #[.int .i64 m, .slice p l.length c, .slice q f.length d] ∧ SRow W.heap.size W p l ∧ IRow .i64 W.heap.size W q f ∧ (AdOk p ∨ l.length = 0) ∧ (AdOk q ∨ f.length = 0) ∧ l.length ≤ c ∧ f.length ≤ d := by
  obtain ⟨v0, v1, v2, y0, y1, y2, n, rfl, _, _, h0, h1, h2⟩ := Joins.open_agg3 Tryd.underlying25 one25 cells25 hv h
  obtain ⟨m, hm, _, _⟩ := DataW.trod_int Tryd.underlying3 h0
  obtain ⟨p, l, c, rfl, hs, hp, hc⟩ := slots_of h1
  obtain ⟨q, f, d, rfl, hi, hq, hd, _⟩ := ints_of Tryd.underlying23 Tryd.underlying3 cells3t h2
  simp at hm
  subst hm
  exact ⟨m, p, l, c, q, f, d, rfl, hs, hi, hp, hq, hc, hd⟩
end
end Go.Proofs.YtaglhajlgnjhcaaDoor
