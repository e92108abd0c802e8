/- HashSlots: its walks. -/
import Derived.Test.YteclcnfhbgcigaaLa
namespace Go.Proofs.Yteclcnfhbgcigaa
open Go.RowKit

set_option maxHeartbeats 1000000 in
set_option maxRecDepth 20000 in
theorem slots_bad (p : Option Addr) (l : List Nat) (c : Nat) (m : Int) (t : Int) (w : World) (hi : InR w p l c) (hm : m < 1) :
    Calls Try.prog 4 #[.slice p l.length c, .int .i64 m, .int .i64 t] w fun e w' => e = .returned (.bool true) ∧ Below w.heap.size w w' := by
  have CS := fun (x : Nat) (W : World) => slot_bad (x : Int) m hm W
  have CP := fun (x : Nat) (W : World) => probe_bad (x : Int) m t (.inl hm) W
  have hl := hi.m
  have HI := hidOg hi
  clear hi
  go_enter Try.func4, Try.ntmps4
  go_wp2_with (first | (go_at_call 8; refine Calls.mono (wakes8 _) ?_; rintro e w1 ⟨rfl, hb1⟩))
  go_loopw [21] (fun i wr => ∃ k : Nat, k ≤ l.length ∧ i = .int .i64 k ∧ Below w.heap.size w wr) (fun i _ => l.length - (intOf i).toNat)
  case atStart => exact ⟨0, Nat.zero_le _, rfl, hb1⟩
  case round =>
    clear hb1
    obtain ⟨k, hk, rfl, hnx⟩ := hrel
    have HX := hidOg hnx
    clear hnx
    by_cases hlt : k < l.length
    · obtain ⟨b, off, rfl, hbB, hcs⟩ := (HI.out.i.below HX.out (Nat.le_refl _)) (by omega)
      have c0 := hcs k hlt
      clear hcs
      have S1 := CS (nG l k)
      have P1 := CP (nG l k)
      obtain ⟨x, hx⟩ : ∃ x, x = nG l k := ⟨_, rfl⟩
      rw [← hx] at c0 S1 P1
      clear hx CS CP
      by_cases h20 : k = 20
      · subst h20
        go_wp2
        go_ret
        exact ⟨rfl, HX.out⟩
      · go_wp2_with (first | (go_at_call 15; refine Calls.mono (S1 _) ?_; rintro e w2 ⟨rfl, hw⟩; rw [hw]; clear hw w2) | (go_at_call 16; refine Calls.mono (P1 _) ?_; rintro e w2 ⟨rfl, hw⟩; rw [hw]; clear hw w2))
        go_roundw
        case rel => exact ⟨k + 1, by omega, by go_num, HX.out⟩
        case measure => simp [intOf]; omega
    · obtain rfl : k = l.length := by omega
      go_wp2
      go_ret
      exact ⟨rfl, HX.out⟩
set_option maxHeartbeats 1000000 in
set_option maxRecDepth 20000 in
theorem slots_neg (p : Option Addr) (l : List Nat) (c : Nat) (m : Nat) (t : Int) (w : World) (hi : InR w p l c) (h1 : 1 ≤ m) (hm : m < 9223372036854775808) (ht : t < 0) :
    Calls Try.prog 4 #[.slice p l.length c, .int .i64 (m : Int), .int .i64 t] w fun e w' => e = .returned (.bool true) ∧ Below w.heap.size w w' := by
  have CS := fun (x : Nat) (W : World) => slot_ok x m h1 hm W
  have CP := fun (x : Nat) (W : World) => probe_bad (x : Int) m t (.inr (.inr ht)) W
  have hl := hi.m
  have HI := hidOg hi
  clear hi
  go_enter Try.func4, Try.ntmps4
  go_wp2_with (first | (go_at_call 8; refine Calls.mono (wakes8 _) ?_; rintro e w1 ⟨rfl, hb1⟩))
  go_loopw [21] (fun i wr => ∃ k : Nat, k ≤ l.length ∧ i = .int .i64 k ∧ Below w.heap.size w wr) (fun i _ => l.length - (intOf i).toNat)
  case atStart => exact ⟨0, Nat.zero_le _, rfl, hb1⟩
  case round =>
    clear hb1
    obtain ⟨k, hk, rfl, hnx⟩ := hrel
    have HX := hidOg hnx
    clear hnx
    by_cases hlt : k < l.length
    · obtain ⟨b, off, rfl, hbB, hcs⟩ := (HI.out.i.below HX.out (Nat.le_refl _)) (by omega)
      have c0 := hcs k hlt
      clear hcs
      have S1 := CS (nG l k)
      have P1 := CP (nG l k)
      have hr : nG l k % m < m := Nat.mod_lt _ h1
      obtain ⟨x, hx⟩ : ∃ x, x = nG l k := ⟨_, rfl⟩
      rw [← hx] at c0 S1 P1 hr
      clear hx CS CP
      by_cases h20 : k = 20
      · subst h20
        go_wp2
        go_ret
        exact ⟨rfl, HX.out⟩
      · go_wp2_with (first | (go_at_call 15; refine Calls.mono (S1 _) ?_; rintro e w2 ⟨rfl, hw⟩; rw [hw]; clear hw w2) | (go_at_call 16; refine Calls.mono (P1 _) ?_; rintro e w2 ⟨rfl, hw⟩; rw [hw]; clear hw w2))
        go_roundw
        case rel => exact ⟨k + 1, by omega, by go_num, HX.out⟩
        case measure => simp [intOf]; omega
    · obtain rfl : k = l.length := by omega
      go_wp2
      go_ret
      exact ⟨rfl, HX.out⟩
set_option maxHeartbeats 1000000 in
set_option maxRecDepth 20000 in
theorem slots_far (p : Option Addr) (l : List Nat) (c : Nat) (m : Nat) (t : Nat) (w : World) (hi : InR w p l c) (h1 : 1 ≤ m) (hm : m < 9223372036854775808) (ht : 1099511627776 < m) :
    Calls Try.prog 4 #[.slice p l.length c, .int .i64 (m : Int), .int .i64 (t : Int)] w fun e w' => e = .returned (.bool true) ∧ Below w.heap.size w w' := by
  have CS := fun (x : Nat) (W : World) => slot_ok x m h1 hm W
  have CP := fun (x : Nat) (W : World) => probe_bad (x : Int) m t (.inr (.inl (by omega))) W
  have hl := hi.m
  have HI := hidOg hi
  clear hi
  go_enter Try.func4, Try.ntmps4
  go_wp2_with (first | (go_at_call 8; refine Calls.mono (wakes8 _) ?_; rintro e w1 ⟨rfl, hb1⟩))
  go_loopw [21] (fun i wr => ∃ k : Nat, k ≤ l.length ∧ i = .int .i64 k ∧ Below w.heap.size w wr) (fun i _ => l.length - (intOf i).toNat)
  case atStart => exact ⟨0, Nat.zero_le _, rfl, hb1⟩
  case round =>
    clear hb1
    obtain ⟨k, hk, rfl, hnx⟩ := hrel
    have HX := hidOg hnx
    clear hnx
    by_cases hlt : k < l.length
    · obtain ⟨b, off, rfl, hbB, hcs⟩ := (HI.out.i.below HX.out (Nat.le_refl _)) (by omega)
      have c0 := hcs k hlt
      clear hcs
      have S1 := CS (nG l k)
      have P1 := CP (nG l k)
      have hr : nG l k % m < m := Nat.mod_lt _ h1
      obtain ⟨x, hx⟩ : ∃ x, x = nG l k := ⟨_, rfl⟩
      rw [← hx] at c0 S1 P1 hr
      clear hx CS CP
      by_cases h20 : k = 20
      · subst h20
        go_wp2
        go_ret
        exact ⟨rfl, HX.out⟩
      · go_wp2_with (first | (go_at_call 15; refine Calls.mono (S1 _) ?_; rintro e w2 ⟨rfl, hw⟩; rw [hw]; clear hw w2) | (go_at_call 16; refine Calls.mono (P1 _) ?_; rintro e w2 ⟨rfl, hw⟩; rw [hw]; clear hw w2))
        go_roundw
        case rel => exact ⟨k + 1, by omega, by go_num, HX.out⟩
        case measure => simp [intOf]; omega
    · obtain rfl : k = l.length := by omega
      go_wp2
      go_ret
      exact ⟨rfl, HX.out⟩
set_option maxHeartbeats 1000000 in
set_option maxRecDepth 20000 in
theorem slots_ok (p : Option Addr) (l : List Nat) (c : Nat) (m : Nat) (t : Nat) (w : World) (hi : InR w p l c) (h1 : 1 ≤ m) (hm : m ≤ 1099511627776) (ht : t < 9223372036854775808) :
    Calls Try.prog 4 #[.slice p l.length c, .int .i64 (m : Int), .int .i64 (t : Int)] w fun e w' => e = .returned (.bool true) ∧ Below w.heap.size w w' := by
  have CS := fun (x : Nat) (W : World) => slot_ok x m h1 (by omega) W
  have CP := fun (x : Nat) (W : World) => probe_ok x m t h1 hm ht W
  have CR := fun (x : Nat) (W : World) => refProbe17 x m t h1 hm W
  have hl := hi.m
  have HI := hidOg hi
  clear hi
  go_enter Try.func4, Try.ntmps4
  go_wp2_with (first | (go_at_call 8; refine Calls.mono (wakes8 _) ?_; rintro e w1 ⟨rfl, hb1⟩))
  go_loopw [21] (fun i wr => ∃ k : Nat, k ≤ l.length ∧ i = .int .i64 k ∧ Below w.heap.size w wr) (fun i _ => l.length - (intOf i).toNat)
  case atStart => exact ⟨0, Nat.zero_le _, rfl, hb1⟩
  case round =>
    clear hb1
    obtain ⟨k, hk, rfl, hnx⟩ := hrel
    have HX := hidOg hnx
    clear hnx
    by_cases hlt : k < l.length
    · obtain ⟨b, off, rfl, hbB, hcs⟩ := (HI.out.i.below HX.out (Nat.le_refl _)) (by omega)
      have c0 := hcs k hlt
      clear hcs
      have S1 := CS (nG l k)
      have P1 := CP (nG l k)
      have R1 := CR (nG l k)
      have hr : nG l k % m < m := Nat.mod_lt _ h1
      obtain ⟨x, hx⟩ : ∃ x, x = nG l k := ⟨_, rfl⟩
      rw [← hx] at c0 S1 P1 R1 hr
      clear hx CS CP CR
      obtain ⟨y, hy⟩ : ∃ y, y = (x % m + t) % m := ⟨_, rfl⟩
      rw [← hy] at P1 R1
      clear hy
      by_cases h20 : k = 20
      · subst h20
        go_wp2
        go_ret
        exact ⟨rfl, HX.out⟩
      · go_wp2_with (first | (go_at_call 15; refine Calls.mono (S1 _) ?_; rintro e w2 ⟨rfl, hw⟩; rw [hw]; clear hw w2) | (go_at_call 16; refine Calls.mono (P1 _) ?_; rintro e w2 ⟨rfl, hw⟩; rw [hw]; clear hw w2) | (go_at_call 17; refine Calls.mono (R1 _) ?_; rintro e w2 ⟨rfl, hw⟩; rw [hw]; clear hw w2))
        go_roundw
        case rel => exact ⟨k + 1, by omega, by go_num, HX.out⟩
        case measure => simp [intOf]; omega
    · obtain rfl : k = l.length := by omega
      go_wp2
      go_ret
      exact ⟨rfl, HX.out⟩
theorem slots_walk (p : Option Addr) (l : List Nat) (c : Nat) (m t : Int) (w : World) (hi : InR w p l c) (hm : -9223372036854775808 ≤ m ∧ m < 9223372036854775808) (ht : -9223372036854775808 ≤ t ∧ t < 9223372036854775808) :
    Calls Try.prog 4 #[.slice p l.length c, .int .i64 m, .int .i64 t] w fun e w' => e = .returned (.bool true) ∧ Below w.heap.size w w' := by
  by_cases h1 : m < 1
  · exact slots_bad p l c m t w hi h1
  · obtain ⟨n, rfl⟩ : ∃ n : Nat, m = (n : Int) := ⟨m.toNat, by omega⟩
    by_cases h2 : t < 0
    · exact slots_neg p l c n t w hi (by omega) (by omega) h2
    · obtain ⟨u, rfl⟩ : ∃ u : Nat, t = (u : Int) := ⟨t.toNat, by omega⟩
      by_cases h3 : 1099511627776 < n
      · exact slots_far p l c n u w hi (by omega) (by omega) h3
      · exact slots_ok p l c n u w hi (by omega) (by omega) (by omega)
end Go.Proofs.Yteclcnfhbgcigaa
