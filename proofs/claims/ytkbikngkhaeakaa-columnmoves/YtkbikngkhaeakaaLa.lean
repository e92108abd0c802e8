/- Readings of what comes in. -/
import Derived.Test.YtkbikngkhaeakaaRows
import Derived.Test.YtkbikngkhaeakaaMem
import Derived.ProofKit
import Derived.LaidMore
import Derived.Stop.Joined
import Derived.Deep.Slices
import Derived.Lib.SmallJoins
import Derived.OpenShut
namespace Go.Proofs.Ytkbikngkhaeakaa
open Go.ChangeShapes Go.WideShapes Go.ChangeAt Go.RowKit

theorem own : ownKnob Try.prog.godebug = none := by kernel_rfl
theorem tLaidOut : laidOutB Try.prog = true := by kernel_rfl
theorem cells3t : Try.prog.cellsOf 3 = 1 := by kernel_rfl
theorem cells38t : Try.prog.cellsOf 38 = 1 := by kernel_rfl
theorem cells40t : Try.prog.cellsOf 40 = 1 := by kernel_rfl
theorem cells24t : Try.prog.cellsOf 24 = 3 := by kernel_rfl
theorem cells52t : Try.prog.cellsOf 52 = 2 := by kernel_rfl
theorem u64_bd {n : Int} (h : (Lit.int .u64 n).wf = true) : 0 ≤ n ∧ n < 18446744073709551616 := by
  have a1 : IntKind.u64.min = 0 := by decide
  have b1 : IntKind.u64.max = 18446744073709551615 := by decide
  simp [Lit.wf, a1, b1] at h; omega
section
variable {H : Type} {enc : TypeId × Value → H} {W : World}
theorem addr_spot {w : World} {a : Addr} {v : Value} (h : w.cell? (a.add 0) = some v) : ∃ b off, a = ⟨b, off, none⟩ := by
  obtain ⟨b, off, sp⟩ := a
  cases sp with
  | none => exact ⟨b, off, rfl⟩
  | some s =>
    exfalso; revert h
    unfold World.cell? Addr.add
    simp only [if_true, Option.isSome_some]
    split <;> simp
/-- A row of numbers that came in. -/
theorem ints_of {t e : TypeId} {k : IntKind} {fuel : Nat} {v : Value} {x : DataW H × List MemPlace} (ht : Try.prog.underlying t = some (.slice e)) (he : Try.prog.underlying e = some (.int k)) (hc : Try.prog.cellsOf e = 1) (h : DataW.trod enc Try.prog W 0 (fun _ => true) true fuel t [v] = some x) :
    ∃ p l c, v = .slice p l.length c ∧ IRow k W.heap.size W p l ∧ l.length ≤ c ∧ l.length ≤ maxLen ∧ ∀ z ∈ l, (Lit.int k z).wf = true := by
  rcases open_ints ht he hc h with ⟨hv, _⟩ | ⟨a, len, cap, zs, hv, _, hl, hm, hz, _, hcs, hw⟩
  · exact ⟨none, [], 0, by simpa using hv, IRow.nil, by simp, by simp, by simp⟩
  · have hz' : zs.length = cap := by simpa using hz
    have hlen : (zs.take len).length = len := by simp; omega
    refine ⟨some a, zs.take len, cap, by rw [hlen]; simpa using hv, ?_, by omega, by omega, fun z hz => hw z (List.mem_of_mem_take hz)⟩
    intro h0
    have h0' : 0 < len := by omega
    obtain ⟨b, off, rfl⟩ := addr_spot (hcs 0 (by omega))
    have hb := World.block_lt_of_cell? _ _ (hcs 0 (by omega))
    rw [addr_add] at hb
    refine ⟨b, off, rfl, by simpa using hb, fun i hi => ?_⟩
    have e0 := hcs i (by omega)
    rw [addr_add] at e0
    rw [e0, iG_take (by omega)]; rfl
theorem rowU_of {t fuel : Nat} {v : Value} {x : DataW H × List MemPlace} (ht : Try.prog.underlying t = some (.slice 40)) (h : DataW.trod enc Try.prog W 0 (fun _ => true) true fuel t [v] = some x) : ∃ p l c, v = .slice p l.length c ∧ IRow .u64 W.heap.size W p l ∧ l.length ≤ c ∧ l.length ≤ maxLen ∧ U64 l ∧ True := by
  obtain ⟨p, l, c, e, h1, h2, h4, h3⟩ := ints_of ht Try.underlying40 cells40t h
  exact ⟨p, l, c, e, h1, h2, h4, fun z hz => u64_bd (h3 z hz), trivial⟩
theorem val_trod {fuel : Nat} {v : Value} {x : DataW H × List MemPlace} (h : DataW.trod enc Try.prog W 0 (fun _ => true) true fuel 38 [v] = some x) : ∃ p l c, v = .slice p l.length c ∧ InR W p l c ∧ l.length ≤ maxLen := by
  obtain ⟨p, l, c, e, h1, h2, h4, h3, _⟩ := rowU_of Try.underlying38 h
  exact ⟨p, l, c, e, ⟨h1, h2, h3⟩, h4⟩
set_option maxRecDepth 100000 in
/-- A value that came in. -/
theorem val_of {r : Reach} {b0 : Nat} {v : Value} {d : DataW H} {ps : List MemPlace} (hv : Value.okWide Try.prog W r b0 38 v) (h : DataW.Trod enc Try.prog W 0 (fun _ => true) true 38 v d ps) : ∃ p l c, v = .slice p l.length c ∧ InR W p l c ∧ l.length ≤ maxLen := by
  obtain ⟨a0, n0, c0, rfl⟩ := okWide_slice Try.underlying38 hv
  obtain ⟨fuel, hf⟩ := h
  exact val_trod (by simpa [Value.cells] using hf)
set_option maxRecDepth 100000 in
/-- A row of numbers that came in. -/
theorem nums_of {r : Reach} {b0 : Nat} {v : Value} {d : DataW H} {ps : List MemPlace} (hv : Value.okWide Try.prog W r b0 25 v) (h : DataW.Trod enc Try.prog W 0 (fun _ => true) true 25 v d ps) : ∃ p l c, v = .slice p l.length c ∧ IRow .i64 W.heap.size W p l ∧ l.length ≤ maxLen := by
  obtain ⟨a0, n0, c0, rfl⟩ := okWide_slice Try.underlying25 hv
  obtain ⟨fuel, hf⟩ := h
  obtain ⟨p, l, c, e, h1, _, h2, _⟩ := ints_of Try.underlying25 Try.underlying3 cells3t (by simpa [Value.cells] using hf)
  exact ⟨p, l, c, e, h1, h2⟩
/-- A row of values that came in. -/
theorem vals_trod {fuel : Nat} {v : Value} {x : DataW H × List MemPlace} (h : DataW.trod enc Try.prog W 0 (fun _ => true) true fuel 35 [v] = some x) : ∃ (p : Option Addr) (R : List RR) (c : Nat), v = .slice p R.length c ∧ VRow W.heap.size W p R ∧ R.length ≤ c ∧ R.length ≤ maxLen ∧ ∀ k, k < R.length → InR W (rP R k) (rL R k) (rC R k) ∧ (rL R k).length ≤ maxLen := by
  rcases Deep.open_slice1 Try.underlying35 cells38t h with ⟨hv, _⟩ | ⟨a, len, cap, m, n, V, D, Pl, hv, _, hl, hm, hmm, _, hx⟩
  · exact ⟨none, [], 0, by simpa using hv, (fun h => by simp at h), by simp, by simp, fun k hk => by simp at hk⟩
  · have hmm' : m = cap := by simpa using hmm
    have hx' : ∀ i, i < len → ∃ r : RR, V i = .slice r.1 r.2.1.length r.2.2 ∧ InR W r.1 r.2.1 r.2.2 ∧ r.2.1.length ≤ maxLen := fun i hi => by
      obtain ⟨p, l, c, e, h⟩ := val_trod (hx i (by omega)).2
      exact ⟨(p, l, c), e, h⟩
    obtain ⟨f, hf⟩ := Deep.choose_lt (α := RR) (p := fun i r => V i = .slice r.1 r.2.1.length r.2.2 ∧ InR W r.1 r.2.1 r.2.2 ∧ r.2.1.length ≤ maxLen) hx'
    have hg : ∀ k, k < len → ((List.range len).map f).getD k (none, [], 0) = f k := fun k hk => by simp [hk]
    refine ⟨some a, (List.range len).map f, cap, by simpa using hv, ?_, by simpa using hl, by simp; omega, ?_⟩
    · intro h0
      have h0' : 0 < len := by simpa using h0
      obtain ⟨b, off, rfl⟩ := addr_spot (hx 0 (by omega)).1
      have hb := World.block_lt_of_cell? _ _ (hx 0 (by omega)).1
      rw [addr_add] at hb
      refine ⟨b, off, rfl, by simpa using hb, fun k hk => ?_⟩
      have hk' : k < len := by simpa using hk
      have e0 := (hx k (by omega)).1
      rw [addr_add, (hf k hk').1] at e0
      unfold rP rL rC
      rw [hg k hk']
      exact ⟨e0, (hf k hk').2.1.i⟩
    · intro k hk
      have hk' : k < len := by simpa using hk
      unfold rP rL rC
      rw [hg k hk']
      exact (hf k hk').2
set_option maxRecDepth 100000 in
theorem vals_of {r : Reach} {b0 : Nat} {v : Value} {d : DataW H} {ps : List MemPlace} (hv : Value.okWide Try.prog W r b0 35 v) (h : DataW.Trod enc Try.prog W 0 (fun _ => true) true 35 v d ps) : ∃ (p : Option Addr) (R : List RR) (c : Nat), v = .slice p R.length c ∧ VRow W.heap.size W p R ∧ R.length ≤ c ∧ R.length ≤ maxLen ∧ ∀ k, k < R.length → InR W (rP R k) (rL R k) (rC R k) ∧ (rL R k).length ≤ maxLen := by
  obtain ⟨a0, n0, c0, rfl⟩ := okWide_slice Try.underlying35 hv
  obtain ⟨fuel, hf⟩ := h
  exact vals_trod (by simpa [Value.cells] using hf)
set_option maxRecDepth 100000 in
/-- A column that came in. -/
theorem col_of {r : Reach} {b0 : Nat} {v : Value} {d : DataW H} {ps : List MemPlace} (hv : Value.okWide Try.prog W r b0 24 v) (h : DataW.Trod enc Try.prog W 0 (fun _ => true) true 24 v d ps) :
    ∃ (wd rs : Int) (p : Option Addr) (l : List Int) (c : Nat), v = .agg #[.int .i64 wd, .int .i64 rs, .slice p l.length c] ∧ InR W p l c ∧ l.length ≤ maxLen := by
  obtain ⟨v0, v1, v2, y0, y1, y2, n, rfl, _, _, h0, h1, h2⟩ := Joins.open_agg3 Try.underlying24 (by kernel_rfl) cells24t hv h
  obtain ⟨wd, hw, _, _⟩ := DataW.trod_int Try.underlying3 h0
  obtain ⟨rs, hr, _, _⟩ := DataW.trod_int Try.underlying3 h1
  obtain ⟨p, l, c, rfl, hi, hc, hu, hm, _⟩ := rowU_of Try.underlying22 h2
  simp at hw hr
  subst hw hr
  exact ⟨wd, rs, p, l, c, rfl, ⟨hi, hc, hm⟩, hu⟩
set_option maxRecDepth 100000 in
/-- A row and values that came in. -/
theorem put_of {r : Reach} {b0 : Nat} {v : Value} {d : DataW H} {ps : List MemPlace} (hv : Value.okWide Try.prog W r b0 52 v) (h : DataW.Trod enc Try.prog W 0 (fun _ => true) true 52 v d ps) :
    ∃ (row : Int) (p : Option Addr) (R : List RR) (c : Nat), v = .agg #[.int .i64 row, .slice p R.length c] ∧ VRow W.heap.size W p R ∧ R.length ≤ c ∧ R.length ≤ maxLen ∧ ∀ k, k < R.length → InR W (rP R k) (rL R k) (rC R k) ∧ (rL R k).length ≤ maxLen := by
  obtain ⟨v0, v1, y0, y1, n, rfl, _, _, h0, h1⟩ := Joins.open_agg2 Try.underlying52 (by kernel_rfl) cells52t hv h
  obtain ⟨row, hw, _, _⟩ := DataW.trod_int Try.underlying3 h0
  obtain ⟨p, R, c, rfl, g⟩ := vals_trod h1
  simp at hw
  subst hw
  exact ⟨row, p, R, c, rfl, g⟩
end
end Go.Proofs.Ytkbikngkhaeakaa
