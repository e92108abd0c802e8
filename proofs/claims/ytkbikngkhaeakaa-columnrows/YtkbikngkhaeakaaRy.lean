/- ColumnRows: the walk, whatever the column. -/
import Derived.Test.YtkbikngkhaeakaaRx
namespace Go.Proofs.Ytkbikngkhaeakaa
open Go.RowKit

theorem rows_walk (wd rs : Int) (p : Option Addr) (l : List Int) (c : Nat) (pn : Option Addr) (ns : List Int) (cn : Nat) (pv : Option Addr) (V : List RR) (d : Nat) (w : World) (h : InR w p l c) (hN : IRow .i64 w.heap.size w pn ns) (hN4 : ns.length ≤ maxLen) (hV : VRow w.heap.size w pv V) (hVd : V.length ≤ d) (hVr : RoomV V) (hVn : V.length ≤ maxLen) (hVl : ∀ k, k < V.length → (rL V k).length ≤ maxLen) :
    Calls Try.prog 4 #[.agg #[.int .i64 wd, .int .i64 rs, .slice p l.length c], .slice pn ns.length cn, .slice pv V.length d] w fun e w' => e = .returned (.bool true) ∧ Below w.heap.size w w' := by
  cases hs : smB wd rs (l.take 60).length
  · exact rows_small wd rs p l c pn ns cn pv V d w h hV hVd hVr hVn hVl hs
  · cases hm : mayB wd rs (l.take 60).length
    · exact rows_bad wd rs p l c pn ns cn pv V d w h hN hN4 hV hVd hVr hVn hVl hs hm
    · have hs' := hs
      unfold smB at hs'
      rw [hm] at hs'
      have h200 : rs ≤ 200 := by simpa using hs'
      obtain ⟨h1, _, h3, _, _⟩ := mayB_t hm
      obtain ⟨W, rfl⟩ : ∃ W : Nat, wd = W := ⟨wd.toNat, by omega⟩
      obtain ⟨R, rfl⟩ : ∃ R : Nat, rs = R := ⟨rs.toNat, by omega⟩
      exact rows_yes W R p l c pn ns cn pv V d w h hN hN4 hV hVd hVr hVn hVl hm (by omega)
end Go.Proofs.Ytkbikngkhaeakaa
