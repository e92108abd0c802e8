/- Rows of ids and of texts that read as data: what the walk of IdentTells is told of them. -/
import Derived.Test.YtpamgcmjhfojeaaDoorTellsW
import Derived.Test.YtpamgcmjhfojeaaDoorLaid
import Derived.ProofKit
import Derived.OpenShut
import Derived.SliceStrings
import Derived.ChangeOld
import Derived.Below
namespace Go.Proofs.YtpamgcmjhfojeaaDoor
open Go.ChangeShapes Go.WideShapes Go.ChangeAt Go.RowKit

theorem tLaidOut : laidOutB Tryd.prog = true := by kernel_rfl
theorem tCells26 : Tryd.prog.cellsOf 26 = 1 := by kernel_rfl
theorem tCells9 : Tryd.prog.cellsOf 9 = 1 := by kernel_rfl

/-- What the walk is told of a row of ids: it is nil, or it leads to a row of cells. -/
def IsIds (w : World) (a : Option Addr) (len cap : Nat) : Prop :=
  (a = none ∧ len = 0 ∧ cap = 0) ∨ (∃ x : Addr, a = some x ∧ len = 0) ∨ (∃ b off, a = some ⟨b, off, none⟩ ∧ len ≤ cap ∧ cap ≤ maxLen ∧ IdsAt w b off len)

theorem add_none (b off i : Nat) : (⟨b, off, none⟩ : Addr).add i = ⟨b, off + i, none⟩ := by
  unfold Addr.add; split
  · rename_i e; rw [e]; rfl
  · rfl
theorem cell_lt {w : World} {a : Addr} {v : Value} (h : w.cell? a = some v) : a.block < w.heap.size := by
  rcases Nat.lt_or_ge a.block w.heap.size with h' | h'
  · exact h'
  · simp [World.cell?, Array.getElem?_eq_none h'] at h

theorem isIds_of {H : Type} {enc : TypeId × Value → H} {W : World} {spare : Nat → Bool} {held : Bool} {fuel : Nat} {a0 : Option Addr} {len0 cap0 : Nat} {x : DataW H × List MemPlace}
    (hf : DataW.trod enc Tryd.prog W 0 spare held fuel 34 (Value.cells (.slice a0 len0 cap0)).toList = some x) : IsIds W a0 len0 cap0 := by
  rcases open_ints Tryd.underlying34 Tryd.underlying26 tCells26 hf with ⟨hcs, _⟩ | ⟨a, len, cap, zs, hcs, _, hl, hm, hz, _, hcell, hwz⟩
  · simp [Value.cells] at hcs
    obtain ⟨rfl, rfl, rfl⟩ := hcs
    exact .inl ⟨rfl, rfl, rfl⟩
  · simp [Value.cells] at hcs
    obtain ⟨rfl, rfl, rfl⟩ := hcs
    have hle : len0 ≤ zs.length := by rw [hz]; split <;> omega
    by_cases h0 : len0 = 0
    · exact .inr (.inl ⟨a, rfl, h0⟩)
    · obtain ⟨b, off, spot⟩ := a
      have z0 := hcell 0 (by omega)
      have hspot : spot = none := by simpa [Addr.add] using World.cell?_spot z0
      subst hspot
      refine .inr (.inr ⟨b, off, rfl, hl, hm, fun i hi => ?_⟩)
      have zi := hcell i (by omega)
      rw [add_none] at zi
      have hmem : zs.getD i 0 ∈ zs := by
        rw [List.getD_eq_getElem?_getD, List.getElem?_eq_getElem (show i < zs.length by omega)]
        exact List.getElem_mem _
      exact ⟨cell_lt zi, _, (u64_bd (hwz _ hmem)).1, (u64_bd (hwz _ hmem)).2, zi⟩

theorem isTexts_of {H : Type} {enc : TypeId × Value → H} {W : World} {spare : Nat → Bool} {held : Bool} {fuel : Nat} {a0 : Option Addr} {len0 cap0 : Nat} {x : DataW H × List MemPlace}
    (hf : DataW.trod enc Tryd.prog W 0 spare held fuel 35 (Value.cells (.slice a0 len0 cap0)).toList = some x) : IsTexts W a0 len0 := by
  rcases open_strings Tryd.underlying35 Tryd.underlying9 tCells9 hf with ⟨hcs, _⟩ | ⟨a, len, cap, ss, hcs, _, hl, hm, hz, _, hcell, hws⟩
  · simp [Value.cells] at hcs
    obtain ⟨rfl, rfl, rfl⟩ := hcs
    intro i hi; omega
  · simp [Value.cells] at hcs
    obtain ⟨rfl, rfl, rfl⟩ := hcs
    have hle : len0 ≤ ss.length := by rw [hz]; split <;> omega
    intro i hi
    obtain ⟨b, off, spot⟩ := a
    have z0 := hcell 0 (by omega)
    have hspot : spot = none := by simpa [Addr.add] using World.cell?_spot z0
    subst hspot
    have zi := hcell i (by omega)
    rw [add_none] at zi
    have hmem : ss.getD i ByteArray.empty ∈ ss := by
      rw [List.getD_eq_getElem?_getD, List.getElem?_eq_getElem (show i < ss.length by omega)]
      exact List.getElem_mem _
    exact ⟨b, off, _, rfl, cell_lt zi, hws _ hmem, zi⟩

theorem tellsWalk (a1 : Option Addr) (len1 cap1 : Nat) (a2 : Option Addr) (len2 cap2 : Nat) (w : World) (ht : Tab w) (h1 : IsIds w a1 len1 cap1) (h2 : IsTexts w a2 len2) :
    Calls Tryd.prog 4 #[.slice a1 len1 cap1, .slice a2 len2 cap2] w fun e w' => e = .returned (.bool true) ∧ Below w.heap.size w w' := by
  rcases h1 with ⟨rfl, rfl, rfl⟩ | ⟨x, rfl, rfl⟩ | ⟨b, off, rfl, hl, hm, hi⟩
  · exact tells_nil a2 len2 cap2 w ht h2
  · exact tells_zero x cap1 a2 len2 cap2 w ht h2
  · exact tells_row b off len1 cap1 a2 len2 cap2 w ht hl (by unfold maxLen at hm; omega) hi h2
end Go.Proofs.YtpamgcmjhfojeaaDoor
