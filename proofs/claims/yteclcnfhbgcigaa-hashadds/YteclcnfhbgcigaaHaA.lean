/- Slot, Probe, the document's Probe, the orders of bytes, what is done to a hash. -/
import Derived.Test.YteclcnfhbgcigaaProg
import Derived.Test.YteclcnfhbgcigaaHm
import Derived.WalkKit
import Derived.WalkSpells
import Derived.WalkSmall
import Derived.Below
import Derived.Sort.AtCall
import Derived.Deep.QuietTactic
import Derived.BigQuiet
import Derived.WalkMore
import Derived.ScopeJumps
import Derived.WalkMore
import Derived.ScopeJumps
import Derived.WalkMore
import Derived.ScopeJumps
import Derived.WalkMore
import Derived.ScopeJumps
import Derived.WalkMore
import Derived.ScopeJumps
import Derived.WalkMore
import Derived.ScopeJumps
import Derived.WalkMore
import Derived.ScopeJumps
namespace Go.Proofs.Yteclcnfhbgcigaa
open Go.RowKit

theorem wrapu_small (n : Int) (h0 : 0 ≤ n) (h1 : n < 18446744073709551616) : IntKind.u64.wrap n = n := by
  simp [IntKind.wrap, IntKind.bits, IntKind.signed]; omega
theorem wrapu_nat (n : Nat) : IntKind.u64.wrap (n : Int) = ((n % 18446744073709551616 : Nat) : Int) := by
  simp [IntKind.wrap, IntKind.bits, IntKind.signed]

theorem slot_bad (h m : Int) (hm : m < 1) (w : World) : Calls Try.prog 15 #[.int .u64 h, .int .i64 m] w fun e w' => e = .returned (.tuple #[.int .i64 0, .int .i64 2]) ∧ w' = w := by
  go_enter Try.func15, Try.ntmps15
  go_wp2
  go_ret2
  exact ⟨rfl, rfl⟩
theorem slot_ok (h m : Nat) (h1 : 1 ≤ m) (hm : m < 9223372036854775808) (w : World) : Calls Try.prog 15 #[.int .u64 (h : Int), .int .i64 (m : Int)] w fun e w' => e = .returned (.tuple #[.int .i64 ((h % m : Nat) : Int), .int .i64 0]) ∧ w' = w := by
  have hb : h % m < m := Nat.mod_lt _ h1
  go_enter Try.func15, Try.ntmps15
  go_wp2
  go_ret2
  exact ⟨rfl, rfl⟩
theorem fromLowest27 (k : Int) (w : World) : Calls Try.prog 27 #[.int .i64 k] w fun e w' => e = .returned (.int .i64 k) ∧ w' = w := by
  go_enter Try.func27, Try.ntmps27
  go_wp2
  go_ret
  exact ⟨rfl, rfl⟩
theorem fromTop25 (k : Nat) (hk : k < 8) (w : World) : Calls Try.prog 25 #[.int .i64 (k : Int)] w fun e w' => e = .returned (.int .i64 ((7 - k : Nat) : Int)) ∧ w' = w := by
  have e1 : Hid (((7 - k : Nat) : Int) = 7 - (k : Int)) := by unfold Hid; omega
  go_enter Try.func25, Try.ntmps25
  go_wp2
  go_ret
  exact ⟨by rw [e1.out]; rfl, rfl⟩
theorem add26 (h b : Nat) (hh : h < 18446744073709551616) (hb : b < 256) (w : World) : Calls Try.prog 26 #[.int .u64 (h : Int), .int .u64 (b : Int)] w fun e w' => e = .returned (.int .u64 (hAdd h b : Nat)) ∧ w' = w := by
  have e1 := u64_xor_nat h b hh (by omega)
  have e2 : Hid (((hAdd h b : Nat) : Int) = IntKind.u64.wrap (((h ^^^ b : Nat) : Int) * 1099511628211)) := by
    unfold Hid hAdd; rw [← wrapu_nat]; simp
  go_enter Try.func26, Try.ntmps26
  go_wp2
  go_ret
  exact ⟨by rw [e2.out]; rfl, rfl⟩
theorem take22 (h b : Nat) (B : Nat) (hb : b < 256) (w : World) (hc : w.cell? ⟨B, 0, none⟩ = some (.int .u64 14886173955864302971)) : Calls Try.prog 22 #[.int .u64 (h : Int), .int .u64 (b : Int), .pointer (some ⟨B, 0, none⟩)] w fun e w' => e = .returned (.int .u64 (hBack h b : Nat)) ∧ w' = w := by
  have e1 : IntKind.u64.wrap ((h : Int) * 14886173955864302971) = ((h * 14886173955864302971 % 18446744073709551616 : Nat) : Int) := by
    rw [← wrapu_nat]; simp
  have e2 := u64_xor_nat (h * 14886173955864302971 % 18446744073709551616) b (Nat.mod_lt _ (by decide)) (by omega)
  have e3 : Hid (hBack h b = (h * 14886173955864302971 % 18446744073709551616) ^^^ b) := rfl
  obtain ⟨q, hq⟩ : ∃ q, q = h * 14886173955864302971 % 18446744073709551616 := ⟨_, rfl⟩
  rw [← hq] at e1 e2 e3
  clear hq
  go_enter Try.func22, Try.ntmps22
  go_wp2
  go_ret
  exact ⟨by rw [e3.out]; rfl, rfl⟩
theorem probe_bad (h m t : Int) (hb : m < 1 ∨ 1099511627776 < m ∨ t < 0) (w : World) : Calls Try.prog 16 #[.int .u64 h, .int .i64 m, .int .i64 t] w fun e w' => e = .returned (.tuple #[.int .i64 0, .int .i64 2]) ∧ w' = w := by
  by_cases h1 : 1099511627776 < m
  · clear hb
    go_enter Try.func16, Try.ntmps16
    go_wp2
    go_ret2
    exact ⟨rfl, rfl⟩
  · by_cases h2 : t < 0
    · clear hb
      go_enter Try.func16, Try.ntmps16
      go_wp2
      go_ret2
      exact ⟨rfl, rfl⟩
    · have h3 : m < 1 := by omega
      clear hb
      go_enter Try.func16, Try.ntmps16
      go_wp2_with (first | (go_at_call 15; refine Calls.mono (slot_bad h m h3 _) ?_; rintro e w1 ⟨rfl, hw⟩; rw [hw]; clear hw w1))
      go_ret2
      exact ⟨rfl, rfl⟩
theorem probe_ok (h m t : Nat) (h1 : 1 ≤ m) (hm : m ≤ 1099511627776) (ht : t < 9223372036854775808) (w : World) : Calls Try.prog 16 #[.int .u64 (h : Int), .int .i64 (m : Int), .int .i64 (t : Int)] w fun e w' => e = .returned (.tuple #[.int .i64 (((h % m + t) % m : Nat) : Int), .int .i64 0]) ∧ w' = w := by
  have S1 := fun (W : World) => slot_ok h m h1 (by omega) W
  have S2 := fun (W : World) => slot_ok (h % m + t) m h1 (by omega) W
  have hb : h % m < m := Nat.mod_lt _ h1
  obtain ⟨a, ha⟩ : ∃ a, a = h % m := ⟨_, rfl⟩
  rw [← ha] at S1 S2 hb ⊢
  obtain ⟨r, hr⟩ : ∃ r, r = (a + t) % m := ⟨_, rfl⟩
  rw [← hr] at S2 ⊢
  have e1 : ((a : Int) + (t : Int)) = ((a + t : Nat) : Int) := by omega
  obtain ⟨s, hs⟩ : ∃ s, s = a + t := ⟨_, rfl⟩
  rw [← hs] at S2 e1
  have e0 : IntKind.u64.wrap ((s : Nat) : Int) = (s : Int) := wrapu_small _ (by omega) (by omega)
  clear hr ha hs
  go_enter Try.func16, Try.ntmps16
  go_wp2_with (first | (go_at_call_has 15 h; refine Calls.mono (S1 _) ?_; rintro e w1 ⟨rfl, hw⟩; rw [hw]; clear hw w1) | (go_at_call 15; refine Calls.mono (S2 _) ?_; rintro e w1 ⟨rfl, hw⟩; rw [hw]; clear hw w1))
  go_ret2
  exact ⟨rfl, rfl⟩
theorem refProbe17 (h m t : Nat) (h1 : 1 ≤ m) (hm : m ≤ 1099511627776) (w : World) : Calls Try.prog 17 #[.int .u64 (h : Int), .int .i64 (m : Int), .int .i64 (t : Int)] w fun e w' => e = .returned (.int .i64 (((h % m + t) % m : Nat) : Int)) ∧ w' = w := by
  have hb : h % m < m := Nat.mod_lt _ h1
  have hc : t % m < m := Nat.mod_lt _ h1
  have e3 : Hid ((h % m + t) % m = (h % m + t % m) % m) := by unfold Hid; rw [Nat.add_mod_mod]
  go_enter Try.func17, Try.ntmps17
  go_wp2
  go_ret
  exact ⟨by rw [e3.out]; rfl, rfl⟩
/-- How the number that undoes the prime is come to. -/
def unS : Nat → Nat
  | 0 => 1099511628211 | 1 => 17822581009352754363 | 2 => 4138864268038235515 | 3 => 2867680748993156475 | 4 => 7916009107578328443 | _ => 14886173955864302971
def unK (v : Value) : Nat := match v with
  | .int _ q => if q = 1099511628211 then 5 else if q = 17822581009352754363 then 4 else if q = 4138864268038235515 then 3 else if q = 2867680748993156475 then 2 else if q = 7916009107578328443 then 1 else 0
  | _ => 0
set_option maxRecDepth 20000 in
theorem undoing21 (w : World) : Calls Try.prog 21 #[.int .u64 1099511628211] w fun e w' => e = .returned (.int .u64 14886173955864302971) ∧ w' = w := by
  go_enter Try.func21, Try.ntmps21
  go_wp2
  refine wp_scope_jumps 0 (fun a' w' => w' = w ∧ ∃ (u1 u2 u4 u5 u6 u7 u8 u9 u10 u11 u12 u13 u14 u15 : Value), a' = { tmps := #[.int .u64 1099511628211, u1, u2, .int .u64 14886173955864302971, u4, u5, u6, u7, u8, u9, u10, u11, u12, u13, u14, u15], defers := [] }) (fun _ _ => 0) rfl ?_ ?_
  · go_wp2
    go_loopw [3] (fun v wr => wr = w ∧ ∃ k, k ≤ 5 ∧ v = .int .u64 (unS k : Nat)) (fun v _ => unK v)
    case atStart => exact ⟨rfl, 0, by omega, rfl⟩
    case round =>
      obtain ⟨rfl, k, hk, rfl⟩ := hrel
      have hk' : k = 0 ∨ k = 1 ∨ k = 2 ∨ k = 3 ∨ k = 4 ∨ k = 5 := by omega
      clear hk
      rcases hk' with rfl | rfl | rfl | rfl | rfl | rfl
      · have q0 : IntKind.u64.wrap 1208925820571204291060521 = 956575116354345 := by decide
        have q1 : IntKind.u64.wrap (2 - 956575116354345) = 18445787498593197273 := by decide
        have q2 : IntKind.u64.wrap (1099511628211 * 18445787498593197273) = 17822581009352754363 := by decide
        have q3 : IntKind.u64.wrap (-956575116354343) = 18445787498593197273 := by decide
        have q4 : IntKind.u64.wrap 20281357846212315205564555068603 = 17822581009352754363 := by decide
        simp only [unS]
        go_wp2
        exact ⟨⟨trivial, 1, by omega, rfl⟩, by decide⟩
      · have q0 : IntKind.u64.wrap 19596135064515894768919664134593 = 6920941875927976385 := by decide
        have q1 : IntKind.u64.wrap (2 - 6920941875927976385) = 11525802197781575233 := by decide
        have q2 : IntKind.u64.wrap (17822581009352754363 * 11525802197781575233) = 4138864268038235515 := by decide
        have q3 : IntKind.u64.wrap (-6920941875927976383) = 11525802197781575233 := by decide
        have q4 : IntKind.u64.wrap 205419543367738141690112989681453491579 = 4138864268038235515 := by decide
        simp only [unS]
        go_wp2
        exact ⟨⟨trivial, 2, by omega, rfl⟩, by decide⟩
      · have q0 : IntKind.u64.wrap 4550729390295049057901136113665 = 10631971298137403393 := by decide
        have q1 : IntKind.u64.wrap (2 - 10631971298137403393) = 7814772775572148225 := by decide
        have q2 : IntKind.u64.wrap (4138864268038235515 * 7814772775572148225) = 2867680748993156475 := by decide
        have q3 : IntKind.u64.wrap (-10631971298137403391) = 7814772775572148225 := by decide
        have q4 : IntKind.u64.wrap 32344283803653549406134104807039210875 = 2867680748993156475 := by decide
        simp only [unS]
        go_wp2
        exact ⟨⟨trivial, 3, by omega, rfl⟩, by decide⟩
      · have q0 : IntKind.u64.wrap 3153048329514805474723547316225 = 10830771944563933185 := by decide
        have q1 : IntKind.u64.wrap (2 - 10830771944563933185) = 7615972129145618433 := by decide
        have q2 : IntKind.u64.wrap (2867680748993156475 * 7615972129145618433) = 7916009107578328443 := by decide
        have q3 : IntKind.u64.wrap (-10830771944563933183) = 7615972129145618433 := by decide
        have q4 : IntKind.u64.wrap 21840176659619311702348535048613303675 = 7916009107578328443 := by decide
        simp only [unS]
        go_wp2
        exact ⟨⟨trivial, 4, by omega, rfl⟩, by decide⟩
      · have q0 : IntKind.u64.wrap 8703744062806552965580662505473 = 11691063157677096961 := by decide
        have q1 : IntKind.u64.wrap (2 - 11691063157677096961) = 6755680916032454657 := by decide
        have q2 : IntKind.u64.wrap (7916009107578328443 * 6755680916032454657) = 14886173955864302971 := by decide
        have q3 : IntKind.u64.wrap (-11691063157677096959) = 6755680916032454657 := by decide
        have q4 : IntKind.u64.wrap 53478031659206015797950424538250909051 = 14886173955864302971 := by decide
        simp only [unS]
        go_wp2
        exact ⟨⟨trivial, 5, by omega, rfl⟩, by decide⟩
      · have q0 : IntKind.u64.wrap 16367521364044542611416814714881 = 1 := by decide
        simp only [unS]
        go_wp2
        go_step3
        exact ⟨rfl, rfl, _, _, _, _, _, _, _, _, _, _, _, _, _, _, rfl⟩
  · rintro a w' ⟨rfl, u1, u2, u4, u5, u6, u7, u8, u9, u10, u11, u12, u13, u14, u15, rfl⟩
    go_wp2
    unfold Exit.jump
    dsimp only
    go_ret
    exact ⟨rfl, rfl⟩
end Go.Proofs.Yteclcnfhbgcigaa
