/- ValueOrder: its walk, whole. -/
import Derived.Test.YtofobpijkceldaaDoorOrB
import Derived.Test.YtofobpijkceldaaDoorOrC
import Derived.Test.YtofobpijkceldaaDoorOrD
import Derived.Test.YtofobpijkceldaaDoorOrE
import Derived.Test.YtofobpijkceldaaDoorOrF
namespace Go.Proofs.YtofobpijkceldaaDoor
open Go.RowKit Go.Shelf

theorem order_walk (px : Option Addr) (lx : List Int) (cx : Nat) (py : Option Addr) (ly : List Int) (cy : Nat) (pz : Option Addr) (lz : List Int) (cz : Nat) (w : World) (hT : Tb w) (hx : InR w px lx cx) (hy : InR w py ly cy) (hz : InR w pz lz cz) :
    Calls Tryd.prog 7 #[.slice px lx.length cx, .slice py ly.length cy, .slice pz lz.length cz] w fun e w' => e = .returned (.bool true) ∧ Below w.heap.size w w' := by
  have hS : S0 w w px lx cx py ly cy pz lz cz := ⟨hx, hy, hz, Below.refl _ _⟩
  rcases cmp_01 (lx.take 8) (ly.take 8) with h1 | h1 | h1
  · rcases cmp_01 (ly.take 8) (lz.take 8) with h3 | h3 | h3
    · by_cases hl : (lx.take 8).length = (ly.take 8).length
      · exact or_mme px lx cx py ly cy pz lz cz w hT hS _ _ _ rfl rfl rfl h1 h3 hl
      · exact or_mmn px lx cx py ly cy pz lz cz w hT hS _ _ _ rfl rfl rfl h1 h3 hl
    · by_cases hl : (lx.take 8).length = (ly.take 8).length
      · exact or_mze px lx cx py ly cy pz lz cz w hT hS _ _ _ rfl rfl rfl h1 h3 hl
      · exact or_mzn px lx cx py ly cy pz lz cz w hT hS _ _ _ rfl rfl rfl h1 h3 hl
    · by_cases hl : (lx.take 8).length = (ly.take 8).length
      · exact or_mpe px lx cx py ly cy pz lz cz w hT hS _ _ _ rfl rfl rfl h1 h3 hl
      · exact or_mpn px lx cx py ly cy pz lz cz w hT hS _ _ _ rfl rfl rfl h1 h3 hl
  · rcases cmp_01 (ly.take 8) (lz.take 8) with h3 | h3 | h3
    · exact or_zm px lx cx py ly cy pz lz cz w hT hS _ _ _ rfl rfl rfl h1 h3
    · exact or_zz px lx cx py ly cy pz lz cz w hT hS _ _ _ rfl rfl rfl h1 h3
    · exact or_zp px lx cx py ly cy pz lz cz w hT hS _ _ _ rfl rfl rfl h1 h3
  · by_cases hl : (lx.take 8).length = (ly.take 8).length
    · exact or_pe px lx cx py ly cy pz lz cz w hT hS _ _ _ rfl rfl rfl h1 hl
    · exact or_pn px lx cx py ly cy pz lz cz w hT hS _ _ _ rfl rfl rfl h1 hl
end Go.Proofs.YtofobpijkceldaaDoor
