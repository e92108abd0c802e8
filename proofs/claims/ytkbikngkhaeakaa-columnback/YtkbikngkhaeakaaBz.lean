/- ColumnBack: the walk, whatever the column. -/
import Derived.Test.YtkbikngkhaeakaaBy
namespace Go.Proofs.Ytkbikngkhaeakaa
open Go.RowKit

theorem back_walk (wd rs : Int) (p : Option Addr) (l : List Int) (c : Nat) (row : Int) (pv : Option Addr) (v : List Int) (d : Nat) (w : World) (h : InR w p l c) (hv : IRow .u64 w.heap.size w pv v) (hvm : v.length ≤ maxLen) :
    Calls Try.prog 6 #[.agg #[.int .i64 wd, .int .i64 rs, .slice p l.length c], .int .i64 row, .slice pv v.length d] w fun e w' => e = .returned (.bool true) ∧ Below w.heap.size w w' := by
  cases hs : smB wd rs (l.take 60).length
  · exact back_small wd rs p l c row pv v d w h hs
  · cases hm : mayB wd rs (l.take 60).length
    · exact back_bad wd rs p l c row pv v d w h hm
    · have hs' := hs
      unfold smB at hs'
      rw [hm] at hs'
      have h200 : rs ≤ 200 := by simpa using hs'
      obtain ⟨h1, _, h3, _, _⟩ := mayB_t hm
      obtain ⟨W, rfl⟩ : ∃ W : Nat, wd = W := ⟨wd.toNat, by omega⟩
      obtain ⟨R, rfl⟩ : ∃ R : Nat, rs = R := ⟨rs.toNat, by omega⟩
      by_cases hsw : (sA (W : Int) (R : Int) (l.take 60) row).2 = 0
      · obtain ⟨r, rfl, hr, hsa⟩ := sw_yes hm hsw
        exact back_yes W R p l c r pv v d w h hv hvm hm (by omega) hr hsa
      · exact back_out W R p l c row pv v d w h hv hvm hm (by omega) hsw
end Go.Proofs.Ytkbikngkhaeakaa
