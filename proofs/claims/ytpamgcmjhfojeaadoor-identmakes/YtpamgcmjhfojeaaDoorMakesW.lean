/- The walk of IdentMakes: it returns true, whatever the row of two numbers, where the table of powers of ten is laid. -/
import Derived.Test.YtpamgcmjhfojeaaDoorMakesA
namespace Go.Proofs.YtpamgcmjhfojeaaDoor
open Go.RowKit

set_option maxRecDepth 20000 in
set_option maxHeartbeats 8000000 in
theorem makes_row (b off len cap : Nat) (w : World) (ht : Tab w)
    (hc : ∀ i, i < len → b < w.heap.size ∧ ∃ u v : Int, w.cell? ⟨b, off + i * 2, none⟩ = some (.int .i64 u) ∧ w.cell? ⟨b, off + i * 2 + 1, none⟩ = some (.int .i64 v)) :
    Calls Tryd.prog 3 #[.slice (some ⟨b, off, none⟩) len cap] w fun e w' => e = .returned (.bool true) ∧ Below w.heap.size w w' := by
  have hB := Below.refl w.heap.size w
  have HC : Hid (∀ i, i < len → b < w.heap.size ∧ ∃ u v : Int, w.cell? ⟨b, off + i * 2, none⟩ = some (.int .i64 u) ∧ w.cell? ⟨b, off + i * 2 + 1, none⟩ = some (.int .i64 v)) := hc
  clear hc
  go_enter Tryd.func3, Tryd.ntmps3
  go_wp2_with (first
    | (go_at_call 8; refine (wakes_any _ ht).mono ?_; rintro e w1 ⟨rfl, hb⟩; replace hB := bstep hB hb; clear hb))
  go_loopw [21] (fun i wr => ∃ k : Nat, k ≤ len ∧ k ≤ 20 ∧ i = .int .i64 k ∧ Below w.heap.size w wr) (fun i _ => len - (intOf i).toNat)
  case atStart => exact ⟨0, by omega, by omega, rfl, hB⟩
  case round =>
    obtain ⟨k, hk, hk2, rfl, hb⟩ := hrel
    clear hB
    by_cases hlt : k < len
    · obtain ⟨hbl, u, v, e0, e1⟩ := HC.out k hlt
      have hc0 : wr.cell? ⟨b, off + k * 2, none⟩ = some (.int .i64 u) := (hb.cell (p := ⟨b, off + k * 2, none⟩) hbl).trans e0
      have hc1 : wr.cell? ⟨b, off + k * 2 + 1, none⟩ = some (.int .i64 v) := (hb.cell (p := ⟨b, off + k * 2 + 1, none⟩) hbl).trans e1
      clear e0 e1 hbl
      by_cases h20 : k = 20
      · subst h20
        have hb2 := hb.alloc hb.size (.cells #[.int .i64 u, .int .i64 v] 24)
        go_wp2
        go_ret
        exact ⟨rfl, hb2⟩
      · have h20' : ((k : Int) == 20) = false := by simp; omega
        have hp0 := Pr.new u v wr 24
        have hb2 := hb.alloc hb.size (.cells #[.int .i64 u, .int .i64 v] 24)
        rcases outs_cases u v with ⟨_, _, o⟩ | ⟨_, o⟩ | ⟨_, o⟩ | o | o | o | o | o | o
        all_goals
          obtain ⟨c1, c2, c3, c4, c5, v1, v2, v3, v4, v5, v6⟩ := o
          simp only [Bool.and_false, Bool.false_and, Bool.and_self, if_true, Bool.false_eq_true, if_false] at v1 v2 v3 v4 v5 v6
          go_wp2_with (first
            | (go_at_call 9; refine (entity_any _ _ _).mono ?_; rintro e w2 ⟨rfl, hb3⟩; have hp1 := hp0.below hb3; have hB1 := bstep hb2 hb3; have x0 := hp1.c0; have x1 := hp1.c1)
            | (go_at_call 10; refine (component_any _ _).mono ?_; rintro e w3 ⟨rfl, hb4⟩; have hp2 := hp1.below hb4; have hB2 := bstep hB1 hb4; have y0 := hp2.c0; have y1 := hp2.c1)
            | (go_at_call 11; refine (pair_any _ _ _).mono ?_; rintro e w4 ⟨rfl, hb5⟩; have hp3 := hp2.below hb5; have hB3 := bstep hB2 hb5; have z0 := hp3.c0; have z1 := hp3.c1)
            | (go_at_call 12; refine (is12 _ _ _ _).mono ?_; rintro e w5 ⟨rfl, rfl⟩)
            | (go_at_call_has 13 (Value.int .u64 0); refine Calls.mono (made13 0 0 v u _ (by omega) (by omega) (by omega) (by have := inR_le c2; omega) (by have := inR_le c2; omega) (by have := inR_le c1; omega) (by have := inR_le c1; omega)) ?_; rintro e w5 ⟨rfl, rfl⟩)
            | (go_at_call_has 13 (Value.int .u64 4611686018427387904); refine Calls.mono (made13 4611686018427387904 1 0 u _ (by omega) (by omega) (by omega) (by omega) (by omega) (by have := inR_le c3; omega) (by have := inR_le c3; omega)) ?_; rintro e w5 ⟨rfl, rfl⟩)
            | (go_at_call_has 13 (Value.int .u64 9223372036854775808); refine Calls.mono (made13 9223372036854775808 2 u v _ (by omega) (by omega) (by omega) (by have := inR_le c4; omega) (by have := inR_le c4; omega) (by have := inR_le c5; omega) (by have := inR_le c5; omega)) ?_; rintro e w5 ⟨rfl, rfl⟩))
          go_roundw
          case rel => exact ⟨k + 1, by omega, by omega, by go_num, hB3⟩
          case measure => simp [intOf]; omega
    · go_wp2
      go_ret
      exact ⟨rfl, hb⟩
set_option maxRecDepth 20000 in
theorem makes_zero (a : Option Addr) (cap : Nat) (w : World) (ht : Tab w) :
    Calls Tryd.prog 3 #[.slice a 0 cap] w fun e w' => e = .returned (.bool true) ∧ Below w.heap.size w w' := by
  have hB := Below.refl w.heap.size w
  go_enter Tryd.func3, Tryd.ntmps3
  go_wp2_with (first
    | (go_at_call 8; refine (wakes_any _ ht).mono ?_; rintro e w1 ⟨rfl, hb⟩; replace hB := bstep hB hb; clear hb))
  go_loop [21] (fun i => i = .int .i64 0) (fun _ => 0)
  case atStart => rfl
  case round =>
    subst hrel
    go_wp2
    go_ret
    exact ⟨rfl, hB⟩
theorem makesWalk (a : Option Addr) (len cap : Nat) (w : World) (ht : Tab w) (h : IsPairs w a len cap) :
    Calls Tryd.prog 3 #[.slice a len cap] w fun e w' => e = .returned (.bool true) ∧ Below w.heap.size w w' := by
  rcases h with ⟨rfl, rfl, rfl⟩ | ⟨x, rfl, _, _, hx⟩
  · exact makes_zero none 0 w ht
  · by_cases h0 : len = 0
    · subst h0; exact makes_zero (some x) cap w ht
    · obtain ⟨b, off, spot⟩ := x
      have hs : spot = none := (hx 0 (by omega)).1
      subst hs
      exact makes_row b off len cap w ht (fun i hi => (hx i hi).2)
end Go.Proofs.YtpamgcmjhfojeaaDoor
