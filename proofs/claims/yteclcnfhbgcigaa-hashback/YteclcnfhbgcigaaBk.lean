/- HashBack: its walk. -/
import Derived.Test.YteclcnfhbgcigaaWk
namespace Go.Proofs.Yteclcnfhbgcigaa
open Go.RowKit

theorem uId_lt {h : Nat} (hh : h < 18446744073709551616) (x : Nat) : uId h x < 18446744073709551616 := by unfold uId; exact hBackN_lt hh x 8
theorem same_eq {a b g h : Nat} (e : a = b ↔ g = h) : ((a : Int) == (b : Int)) = ((g : Int) == (h : Int)) := by
  rw [Bool.eq_iff_iff]; simp only [beq_iff_eq, Int.natCast_inj]; exact e

set_option maxRecDepth 20000 in
theorem back_walk (g h x : Nat) (w : World) (hg : g < 18446744073709551616) (hh : h < 18446744073709551616) (hx : x < 18446744073709551616) :
    Calls Try.prog 5 #[.int .u64 (g : Int), .int .u64 (h : Int), .int .u64 (x : Int)] w fun e w' => e = .returned (.bool true) ∧ Below w.heap.size w w' := by
  have A1 := fun (W : World) => hadd13 g x W hg hx
  have A2 := fun (W : World) => hadd13 h x W hh hx
  have A3 := fun (W : World) => hadd13 (uId h x) x W (uId_lt hh x) hx
  have B1 := fun (W : World) => back18 (hId g x) x W hx
  have B2 := fun (W : World) => back18 h x W hx
  rw [uId_hId hg x] at B1
  rw [hId_uId hh x] at A3
  have E := same_eq (hId_inj hg hh x)
  obtain ⟨a, ha⟩ : ∃ a, a = hId g x := ⟨_, rfl⟩
  obtain ⟨b, hb⟩ : ∃ b, b = hId h x := ⟨_, rfl⟩
  obtain ⟨u, hu⟩ : ∃ u, u = uId h x := ⟨_, rfl⟩
  rw [← ha] at A1 B1 E
  rw [← hb] at A2 E
  rw [← hu] at A3 B2
  obtain ⟨t, ht⟩ : ∃ t, t = ((g : Int) == (h : Int)) := ⟨_, rfl⟩
  rw [← ht] at E
  have E2 := ht.symm
  clear ha hb hu ht hg hh hx
  go_enter Try.func5, Try.ntmps5
  go_wp2_with (first
    | (go_at_call 8; refine Calls.mono (wakes8 _) ?_; rintro e w1 ⟨rfl, hb1⟩)
    | (go_at_call_has 13 g; refine Calls.mono (A1 _) ?_; rintro e w2 ⟨rfl, hb2⟩)
    | (go_at_call_has 13 h; refine Calls.mono (A2 _) ?_; rintro e w3 ⟨rfl, hb3⟩)
    | (go_at_call_has 18 a; refine Calls.mono (B1 _) ?_; rintro e w4 ⟨rfl, hb4⟩)
    | (go_at_call_has 18 h; refine Calls.mono (B2 _) ?_; rintro e w5 ⟨rfl, hb5⟩)
    | (go_at_call_has 13 u; refine Calls.mono (A3 _) ?_; rintro e w6 ⟨rfl, hb6⟩))
  go_ret
  exact ⟨rfl, bt hb1 (bt hb2 (bt hb3 (bt hb4 (bt hb5 hb6))))⟩
end Go.Proofs.Yteclcnfhbgcigaa
