/- What the rows' condition and readings give the walks. -/
import Derived.Test.YtofobpijkceldaaDoorRows
import Derived.Test.YtofobpijkceldaaDoorVaK
import Derived.ProofKit
import Derived.LaidMore
import Derived.Stop.Joined
import Derived.Stop.LaidErr
import Derived.Lib.LaidTab
import Derived.Deep.Slices
import Derived.SliceStrings
import Derived.OpenShut
namespace Go.Proofs.YtofobpijkceldaaDoor
open Go.ChangeShapes Go.WideShapes Go.ChangeAt Go.RowKit

def laid3 : List (String × DataW Unit) := [("math/bits.deBruijn32tab", Rows.laid_math_bits_deBruijn32tab), ("math/bits.deBruijn64tab", Rows.laid_math_bits_deBruijn64tab), ("internal/strconv.uint64pow10", Rows.laid_internal_strconv_uint64pow10)]
theorem own : ownKnob Tryd.prog.godebug = none := by kernel_rfl
theorem gTab : Tryd.prog.globalNamed "math/bits.deBruijn64tab" = some 3 := by kernel_rfl
theorem tTab : (Tryd.prog.globals[3]?).map (·.type) = some 98 := by kernel_rfl
theorem cells98 : Tryd.prog.cellsOf 98 = 64 := by kernel_rfl
theorem cells5t : Tryd.prog.cellsOf 5 = 1 := by kernel_rfl
theorem cells33t : Tryd.prog.cellsOf 33 = 1 := by kernel_rfl
theorem cells3t : Tryd.prog.cellsOf 3 = 1 := by kernel_rfl
theorem cells26t : Tryd.prog.cellsOf 26 = 1 := by kernel_rfl
theorem cells9t : Tryd.prog.cellsOf 9 = 1 := by kernel_rfl
theorem cells47t : Tryd.prog.cellsOf 47 = 24 := by kernel_rfl
theorem tLaidOut : laidOutB Tryd.prog = true := by kernel_rfl
set_option maxRecDepth 100000 in
/-- The door's own heap meets the condition. -/
theorem door_met (os : Os) (args : Array Value) : laidMetH Tryd.prog laid3 ((World.doorLaid Tryd.prog 400 os).forCall (fun _ _ => 0) ⟨#[], args, []⟩).memory :=
  laidMetH_of_parts3 (fuel := 8) (laidMet_of_run' 8 (by kernel_rfl) (by kernel_rfl)) (by kernel_rfl) (by kernel_rfl)
def tabZ : List Int := [0, 1, 56, 2, 57, 49, 28, 3, 61, 58, 42, 50, 38, 29, 17, 4, 62, 47, 59, 36, 45, 43, 51, 22, 53, 39, 33, 30, 24, 18, 12, 5, 63, 55, 48, 27, 60, 41, 37, 16, 46, 35, 44, 21, 52, 32, 23, 11, 54, 26, 40, 15, 34, 20, 31, 10, 25, 14, 19, 9, 13, 8, 7, 6]
theorem tb_of_laid {W : World} (h : laidMetH Tryd.prog laid3 W) : Tb W := by
  rw [MakeChecks.laidMetH_plain _ _ _ (by kernel_rfl)] at h
  have ht : Lib.TabIs Tryd.prog W "math/bits.deBruijn64tab" .u8 tabZ := Lib.tabIs_of_head gTab tTab Tryd.underlying98 Tryd.underlying5 cells5t cells98 (rest := [("internal/strconv.uint64pow10", Rows.laid_internal_strconv_uint64pow10)]) h.tail
  have hc := ht.cell gTab 15 (by decide)
  exact ⟨hc, World.block_lt_of_cell? _ _ hc⟩
theorem u64_bd {n : Int} (h : (Lit.int .u64 n).wf = true) : 0 ≤ n ∧ n < 18446744073709551616 := by
  have a1 : IntKind.u64.min = 0 := by decide
  have b1 : IntKind.u64.max = 18446744073709551615 := by decide
  simp [Lit.wf, a1, b1] at h; omega

/-- The k-th of a row of rows: where it lies, what it holds, its room. -/
abbrev RR := Option Addr × List Int × Nat
def rP (R : List RR) (k : Nat) : Option Addr := (R.getD k (none, [], 0)).1
def rL (R : List RR) (k : Nat) : List Int := (R.getD k (none, [], 0)).2.1
def rC (R : List RR) (k : Nat) : Nat := (R.getD k (none, [], 0)).2.2
/-- A row of values that came in. -/
def VRow (N : Nat) (W : World) (p : Option Addr) (R : List RR) : Prop :=
  0 < R.length → ∃ b off, p = some ⟨b, off, none⟩ ∧ b < N ∧ ∀ k, k < R.length → W.cell? ⟨b, off + k, none⟩ = some (.slice (rP R k) (rL R k).length (rC R k)) ∧ InR W (rP R k) (rL R k) (rC R k)
theorem VRow.to {W W' : World} {p : Option Addr} {R : List RR} (h : VRow W.heap.size W p R) (hb : Below W.heap.size W W') : VRow W'.heap.size W' p R := by
  intro h0
  obtain ⟨b, off, rfl, hN, hc⟩ := h h0
  refine ⟨b, off, rfl, Nat.lt_of_lt_of_le hN hb.size, fun k hk => ⟨(hb.cell (p := ⟨b, off + k, none⟩) hN).trans (hc k hk).1, (hc k hk).2.to hb⟩⟩
/-- A row of texts that came in. -/
def sG (T : List ByteArray) (k : Nat) : ByteArray := T.getD k ByteArray.empty
def TRow (N : Nat) (W : World) (p : Option Addr) (T : List ByteArray) : Prop :=
  0 < T.length → ∃ b off, p = some ⟨b, off, none⟩ ∧ b < N ∧ ∀ k, k < T.length → W.cell? ⟨b, off + k, none⟩ = some (.string (sG T k)) ∧ (sG T k).size ≤ maxLen
theorem TRow.to {W W' : World} {p : Option Addr} {T : List ByteArray} (h : TRow W.heap.size W p T) (hb : Below W.heap.size W W') : TRow W'.heap.size W' p T := by
  intro h0
  obtain ⟨b, off, rfl, hN, hc⟩ := h h0
  exact ⟨b, off, rfl, Nat.lt_of_lt_of_le hN hb.size, fun k hk => ⟨(hb.cell (p := ⟨b, off + k, none⟩) hN).trans (hc k hk).1, (hc k hk).2⟩⟩

section
variable {H : Type} {enc : TypeId × Value → H} {W : World}
theorem addr_spot {w : World} {a : Addr} {v : Value} (h : w.cell? (a.add 0) = some v) : ∃ b off, a = ⟨b, off, none⟩ := by
  obtain ⟨b, off, sp⟩ := a
  cases sp with
  | none => exact ⟨b, off, rfl⟩
  | some s =>
    exfalso; revert h
    unfold World.cell? Addr.add
    simp only [if_true, Option.isSome_some]
    split <;> simp
/-- A row of numbers that came in. -/
theorem ints_of {t e : TypeId} {k : IntKind} {fuel : Nat} {v : Value} {x : DataW H × List MemPlace} (ht : Tryd.prog.underlying t = some (.slice e)) (he : Tryd.prog.underlying e = some (.int k)) (hc : Tryd.prog.cellsOf e = 1) (h : DataW.trod enc Tryd.prog W 0 (fun _ => true) true fuel t [v] = some x) :
    ∃ p l c, v = .slice p l.length c ∧ IRow k W.heap.size W p l ∧ l.length ≤ c ∧ l.length ≤ maxLen ∧ ∀ z ∈ l, (Lit.int k z).wf = true := by
  rcases open_ints ht he hc h with ⟨hv, _⟩ | ⟨a, len, cap, zs, hv, _, hl, hm, hz, _, hcs, hw⟩
  · exact ⟨none, [], 0, by simpa using hv, IRow.nil, by simp, by simp, by simp⟩
  · have hz' : zs.length = cap := by simpa using hz
    have hlen : (zs.take len).length = len := by simp; omega
    refine ⟨some a, zs.take len, cap, by rw [hlen]; simpa using hv, ?_, by omega, by omega, fun z hz => hw z (List.mem_of_mem_take hz)⟩
    intro h0
    have h0' : 0 < len := by omega
    obtain ⟨b, off, rfl⟩ := addr_spot (hcs 0 (by omega))
    have hb := World.block_lt_of_cell? _ _ (hcs 0 (by omega))
    rw [addr_add] at hb
    refine ⟨b, off, rfl, by simpa using hb, fun i hi => ?_⟩
    have e0 := hcs i (by omega)
    rw [addr_add] at e0
    rw [e0, iG_take (by omega)]; rfl
theorem val_trod {fuel : Nat} {v : Value} {x : DataW H × List MemPlace} (h : DataW.trod enc Tryd.prog W 0 (fun _ => true) true fuel 26 [v] = some x) : ∃ p l c, v = .slice p l.length c ∧ InR W p l c := by
  obtain ⟨p, l, c, e, h1, h2, _, h3⟩ := ints_of Tryd.underlying26 Tryd.underlying33 cells33t h
  exact ⟨p, l, c, e, h1, h2, fun z hz => u64_bd (h3 z hz)⟩
/-- A value that came in. -/
theorem val_of {r : Reach} {b0 : Nat} {v : Value} {d : DataW H} {ps : List MemPlace} (hv : Value.okWide Tryd.prog W r b0 26 v) (h : DataW.Trod enc Tryd.prog W 0 (fun _ => true) true 26 v d ps) : ∃ p l c, v = .slice p l.length c ∧ InR W p l c := by
  obtain ⟨a0, n0, c0, rfl⟩ := okWide_slice Tryd.underlying26 hv
  obtain ⟨fuel, hf⟩ := h
  exact val_trod (by simpa [Value.cells] using hf)
/-- A row of numbers that came in. -/
theorem nums_of {r : Reach} {b0 : Nat} {v : Value} {d : DataW H} {ps : List MemPlace} (hv : Value.okWide Tryd.prog W r b0 23 v) (h : DataW.Trod enc Tryd.prog W 0 (fun _ => true) true 23 v d ps) : ∃ p l c, v = .slice p l.length c ∧ IRow .i64 W.heap.size W p l ∧ l.length ≤ maxLen := by
  obtain ⟨a0, n0, c0, rfl⟩ := okWide_slice Tryd.underlying23 hv
  obtain ⟨fuel, hf⟩ := h
  obtain ⟨p, l, c, e, h1, _, h2, _⟩ := ints_of Tryd.underlying23 Tryd.underlying3 cells3t (by simpa [Value.cells] using hf)
  exact ⟨p, l, c, e, h1, h2⟩
/-- A row of values that came in. -/
theorem vals_of {r : Reach} {b0 : Nat} {v : Value} {d : DataW H} {ps : List MemPlace} (hv : Value.okWide Tryd.prog W r b0 22 v) (h : DataW.Trod enc Tryd.prog W 0 (fun _ => true) true 22 v d ps) : ∃ p R c, v = .slice p R.length c ∧ VRow W.heap.size W p R ∧ R.length ≤ maxLen := by
  obtain ⟨a0, n0, c0, rfl⟩ := okWide_slice Tryd.underlying22 hv
  obtain ⟨fuel, hf⟩ := h
  rcases Deep.open_slice1 Tryd.underlying22 cells26t (by simpa [Value.cells] using hf) with ⟨hv, _⟩ | ⟨a, len, cap, m, n, V, D, Pl, hv, _, hl, hm, hmm, _, hx⟩
  · exact ⟨none, [], 0, by simpa using hv, (fun h => by simp at h), by simp⟩
  · have hmm' : m = cap := by simpa using hmm
    have hx' : ∀ i, i < len → ∃ r : RR, V i = .slice r.1 r.2.1.length r.2.2 ∧ InR W r.1 r.2.1 r.2.2 := fun i hi => by
      obtain ⟨p, l, c, e, h⟩ := val_trod (hx i (by omega)).2
      exact ⟨(p, l, c), e, h⟩
    obtain ⟨f, hf⟩ := Deep.choose_lt (α := RR) (p := fun i r => V i = .slice r.1 r.2.1.length r.2.2 ∧ InR W r.1 r.2.1 r.2.2) hx'
    refine ⟨some a, (List.range len).map f, cap, by simpa using hv, ?_, by simp; omega⟩
    intro h0
    have h0' : 0 < len := by simpa using h0
    obtain ⟨b, off, rfl⟩ := addr_spot (hx 0 (by omega)).1
    have hb := World.block_lt_of_cell? _ _ (hx 0 (by omega)).1
    rw [addr_add] at hb
    refine ⟨b, off, rfl, by simpa using hb, fun k hk => ?_⟩
    have hk' : k < len := by simpa using hk
    have e0 := (hx k (by omega)).1
    rw [addr_add, (hf k hk').1] at e0
    have e1 : ((List.range len).map f).getD k (none, [], 0) = f k := by simp [hk']
    unfold rP rL rC
    rw [e1]
    exact ⟨e0, (hf k hk').2⟩
/-- A row of texts that came in. -/
theorem texts_of {r : Reach} {b0 : Nat} {v : Value} {d : DataW H} {ps : List MemPlace} (hv : Value.okWide Tryd.prog W r b0 38 v) (h : DataW.Trod enc Tryd.prog W 0 (fun _ => true) true 38 v d ps) : ∃ p T c, v = .slice p T.length c ∧ TRow W.heap.size W p T ∧ T.length ≤ maxLen := by
  obtain ⟨a0, n0, c0, rfl⟩ := okWide_slice Tryd.underlying38 hv
  obtain ⟨fuel, hf⟩ := h
  rcases open_strings Tryd.underlying38 Tryd.underlying9 cells9t (by simpa [Value.cells] using hf) with ⟨hv, _⟩ | ⟨a, len, cap, ss, hv, _, hl, hm, hz, _, hcs, hw⟩
  · exact ⟨none, [], 0, by simpa using hv, (fun h => by simp at h), by simp⟩
  · have hz' : ss.length = cap := by simpa using hz
    have hlen : (ss.take len).length = len := by simp; omega
    refine ⟨some a, ss.take len, cap, by rw [hlen]; simpa using hv, ?_, by omega⟩
    intro h0
    have h0' : 0 < len := by omega
    obtain ⟨b, off, rfl⟩ := addr_spot (hcs 0 (by omega))
    have hb := World.block_lt_of_cell? _ _ (hcs 0 (by omega))
    rw [addr_add] at hb
    refine ⟨b, off, rfl, by simpa using hb, fun i hi => ?_⟩
    have e0 := hcs i (by omega)
    rw [addr_add] at e0
    have e1 : sG (ss.take len) i = ss.getD i ByteArray.empty := by
      unfold sG; rw [List.getD_eq_getElem?_getD, List.getD_eq_getElem?_getD, List.getElem?_take_of_lt (by omega)]
    rw [e0, e1]
    refine ⟨rfl, hw _ ?_⟩
    have hi' : i < ss.length := by omega
    rw [List.getD_eq_getElem?_getD, List.getElem?_eq_getElem hi']
    exact List.getElem_mem hi'
def gOf (v : Value) : Int := match v with | .int _ n => n | _ => 0
/-- Widths that came in. -/
theorem widths_of {r : Reach} {b0 : Nat} {v : Value} {d : DataW H} {ps : List MemPlace} (hv : Value.okWide Tryd.prog W r b0 47 v) (h : DataW.Trod enc Tryd.prog W 0 (fun _ => true) true 47 v d ps) : ∃ ws : List Int, ws.length = 24 ∧ v = .agg (wsA ws) := by
  simp only [Value.okWide, Tryd.underlying47] at hv
  obtain ⟨cs, rfl, h2, _⟩ := hv
  rw [cells47t] at h2
  obtain ⟨fuel, hf⟩ := h
  obtain ⟨xs, m, _, _, _, hxl, hx⟩ := DataW.trod_array Tryd.underlying47 hf
  have hat : ∀ i (hi : i < 24), cs[i]? = some (.int .i64 (gOf (cs[i]'(by omega)))) := by
    intro i hi
    have h1 := hx i hi
    rw [List.getElem?_eq_getElem (by omega), cells3t] at h1
    have e : ((Value.agg cs).cells.toList.drop (i * 1)).take 1 = [cs[i]'(by omega)] := by
      simp only [Value.cells, Nat.mul_one]
      rw [List.drop_eq_getElem_cons (by simpa using (by omega : i < cs.size))]
      simp
    rw [e] at h1
    obtain ⟨a, ha, _, _⟩ := DataW.trod_int Tryd.underlying3 h1
    simp at ha
    rw [Array.getElem?_eq_getElem (by omega), ha]; rfl
  refine ⟨(List.range 24).map fun i => gOf (cs.getD i (.int .i64 0)), by simp, ?_⟩
  congr 1
  apply Array.ext_getElem?
  intro i
  by_cases hi : i < 24
  · rw [hat i hi]
    have hi' : i < cs.size := by omega
    simp [wsA, hi, hi']
  · rw [Array.getElem?_eq_none (by omega), Array.getElem?_eq_none (by simp [wsA]; omega)]
end
end Go.Proofs.YtofobpijkceldaaDoor
