/- Slot, Probe, the document's Probe, the orders of bytes, what is done to a hash. -/
import Derived.Test.YtjnhalomkmdcgaaProg
import Derived.Test.YtjnhalomkmdcgaaHm
import Derived.WalkKit
import Derived.WalkSpells
import Derived.WalkSmall
import Derived.Below
import Derived.Sort.AtCall
import Derived.Deep.QuietTactic
import Derived.BigQuiet
import Derived.WalkMore
import Derived.ScopeJumps
import Derived.WalkMore
import Derived.ScopeJumps
import Derived.WalkMore
import Derived.ScopeJumps
import Derived.WalkMore
import Derived.ScopeJumps
import Derived.WalkMore
import Derived.ScopeJumps
import Derived.WalkMore
import Derived.ScopeJumps
import Derived.WalkMore
import Derived.ScopeJumps
namespace Go.Proofs.Ytjnhalomkmdcgaa
open Go.RowKit

theorem wrapu_small (n : Int) (h0 : 0 ≤ n) (h1 : n < 18446744073709551616) : IntKind.u64.wrap n = n := by
  simp [IntKind.wrap, IntKind.bits, IntKind.signed]; omega
theorem wrapu_nat (n : Nat) : IntKind.u64.wrap (n : Int) = ((n % 18446744073709551616 : Nat) : Int) := by
  simp [IntKind.wrap, IntKind.bits, IntKind.signed]

theorem slot_bad (h m : Int) (hm : m < 1) (w : World) : Calls Try.prog 85 #[.int .u64 h, .int .i64 m] w fun e w' => e = .returned (.tuple #[.int .i64 0, .int .i64 2]) ∧ w' = w := by
  go_enter Try.func85, Try.ntmps85
  go_wp2
  go_ret2
  exact ⟨rfl, rfl⟩
theorem slot_ok (h m : Nat) (h1 : 1 ≤ m) (hm : m < 9223372036854775808) (w : World) : Calls Try.prog 85 #[.int .u64 (h : Int), .int .i64 (m : Int)] w fun e w' => e = .returned (.tuple #[.int .i64 ((h % m : Nat) : Int), .int .i64 0]) ∧ w' = w := by
  have hb : h % m < m := Nat.mod_lt _ h1
  go_enter Try.func85, Try.ntmps85
  go_wp2
  go_ret2
  exact ⟨rfl, rfl⟩
theorem fromLowest27 (k : Int) (w : World) : Calls Try.prog 89 #[.int .i64 k] w fun e w' => e = .returned (.int .i64 k) ∧ w' = w := by
  go_enter Try.func89, Try.ntmps89
  go_wp2
  go_ret
  exact ⟨rfl, rfl⟩
theorem add26 (h b : Nat) (hh : h < 18446744073709551616) (hb : b < 256) (w : World) : Calls Try.prog 86 #[.int .u64 (h : Int), .int .u64 (b : Int)] w fun e w' => e = .returned (.int .u64 (hAdd h b : Nat)) ∧ w' = w := by
  have e1 := u64_xor_nat h b hh (by omega)
  have e2 : Hid (((hAdd h b : Nat) : Int) = IntKind.u64.wrap (((h ^^^ b : Nat) : Int) * 1099511628211)) := by
    unfold Hid hAdd; rw [← wrapu_nat]; simp
  go_enter Try.func86, Try.ntmps86
  go_wp2
  go_ret
  exact ⟨by rw [e2.out]; rfl, rfl⟩
theorem probe_bad (h m t : Int) (hb : m < 1 ∨ 1099511627776 < m ∨ t < 0) (w : World) : Calls Try.prog 75 #[.int .u64 h, .int .i64 m, .int .i64 t] w fun e w' => e = .returned (.tuple #[.int .i64 0, .int .i64 2]) ∧ w' = w := by
  by_cases h1 : 1099511627776 < m
  · clear hb
    go_enter Try.func75, Try.ntmps75
    go_wp2
    go_ret2
    exact ⟨rfl, rfl⟩
  · by_cases h2 : t < 0
    · clear hb
      go_enter Try.func75, Try.ntmps75
      go_wp2
      go_ret2
      exact ⟨rfl, rfl⟩
    · have h3 : m < 1 := by omega
      clear hb
      go_enter Try.func75, Try.ntmps75
      go_wp2_with (first | (go_at_call 85; refine Calls.mono (slot_bad h m h3 _) ?_; rintro e w1 ⟨rfl, hw⟩; rw [hw]; clear hw w1))
      go_ret2
      exact ⟨rfl, rfl⟩
theorem probe_ok (h m t : Nat) (h1 : 1 ≤ m) (hm : m ≤ 1099511627776) (ht : t < 9223372036854775808) (w : World) : Calls Try.prog 75 #[.int .u64 (h : Int), .int .i64 (m : Int), .int .i64 (t : Int)] w fun e w' => e = .returned (.tuple #[.int .i64 (((h % m + t) % m : Nat) : Int), .int .i64 0]) ∧ w' = w := by
  have S1 := fun (W : World) => slot_ok h m h1 (by omega) W
  have S2 := fun (W : World) => slot_ok (h % m + t) m h1 (by omega) W
  have hb : h % m < m := Nat.mod_lt _ h1
  obtain ⟨a, ha⟩ : ∃ a, a = h % m := ⟨_, rfl⟩
  rw [← ha] at S1 S2 hb ⊢
  obtain ⟨r, hr⟩ : ∃ r, r = (a + t) % m := ⟨_, rfl⟩
  rw [← hr] at S2 ⊢
  have e1 : ((a : Int) + (t : Int)) = ((a + t : Nat) : Int) := by omega
  obtain ⟨s, hs⟩ : ∃ s, s = a + t := ⟨_, rfl⟩
  rw [← hs] at S2 e1
  have e0 : IntKind.u64.wrap ((s : Nat) : Int) = (s : Int) := wrapu_small _ (by omega) (by omega)
  clear hr ha hs
  go_enter Try.func75, Try.ntmps75
  go_wp2_with (first | (go_at_call_has 85 h; refine Calls.mono (S1 _) ?_; rintro e w1 ⟨rfl, hw⟩; rw [hw]; clear hw w1) | (go_at_call 85; refine Calls.mono (S2 _) ?_; rintro e w1 ⟨rfl, hw⟩; rw [hw]; clear hw w1))
  go_ret2
  exact ⟨rfl, rfl⟩
theorem refProbe17 (h m t : Nat) (h1 : 1 ≤ m) (hm : m ≤ 1099511627776) (w : World) : Calls Try.prog 54 #[.int .u64 (h : Int), .int .i64 (m : Int), .int .i64 (t : Int)] w fun e w' => e = .returned (.int .i64 (((h % m + t) % m : Nat) : Int)) ∧ w' = w := by
  have hb : h % m < m := Nat.mod_lt _ h1
  have hc : t % m < m := Nat.mod_lt _ h1
  have e3 : Hid ((h % m + t) % m = (h % m + t % m) % m) := by unfold Hid; rw [Nat.add_mod_mod]
  go_enter Try.func54, Try.ntmps54
  go_wp2
  go_ret
  exact ⟨by rw [e3.out]; rfl, rfl⟩
/-- How the number that undoes the prime is come to. -/
def unS : Nat → Nat
  | 0 => 1099511628211 | 1 => 17822581009352754363 | 2 => 4138864268038235515 | 3 => 2867680748993156475 | 4 => 7916009107578328443 | _ => 14886173955864302971
def unK (v : Value) : Nat := match v with
  | .int _ q => if q = 1099511628211 then 5 else if q = 17822581009352754363 then 4 else if q = 4138864268038235515 then 3 else if q = 2867680748993156475 then 2 else if q = 7916009107578328443 then 1 else 0
  | _ => 0
end Go.Proofs.Ytjnhalomkmdcgaa
