/- Contracts of the document's answer: Is and Made of windroseref01. -/
import Derived.Test.YtjnhalomkmdcgaaPlainB
namespace Go.Proofs.Ytjnhalomkmdcgaa
open Go.RowKit

theorem is12 (n lo hi : Int) (w : World) :
    Calls Try.prog 78 #[.int .i64 n, .int .i64 lo, .int .i64 hi] w fun e w' => e = .returned (.bool (inR lo hi n)) ∧ w' = w := by
  by_cases h1 : lo ≤ n
  · by_cases h2 : n ≤ hi
    · go_enter Try.func78, Try.ntmps78
      go_wp2
      go_ret
      exact ⟨by simp [inR, h1, h2], rfl⟩
    · go_enter Try.func78, Try.ntmps78
      go_wp2
      go_ret
      exact ⟨by simp [inR, h1]; omega, rfl⟩
  · have hd : decide (lo ≤ n) = false := by simpa using h1
    have H : Hid (¬ lo ≤ n) := h1
    go_enter Try.func78, Try.ntmps78
    go_wp2
    go_ret
    exact ⟨by have := H.out; simp [inR]; omega, rfl⟩
theorem made13 (m h a b : Int) (w : World) (hm : m = h * 4611686018427387904) (h0 : 0 ≤ h) (h2 : h ≤ 2) (a0 : 0 ≤ a) (a1 : a < 1073741824) (b0 : 0 ≤ b) (b1 : b < 1073741824) :
    Calls Try.prog 31 #[.int .u64 m, .int .i64 a, .int .i64 b] w fun e w' => e = .returned (.int .u64 (mk h a b)) ∧ w' = w := by
  have E : Hid (mk h a b = m + a * 4294967296 + b) := by unfold Hid mk; omega
  have m0 : 0 ≤ m := by omega
  have m1 : m ≤ 9223372036854775808 := by omega
  clear hm h0 h2
  go_enter Try.func31, Try.ntmps31
  go_wp2
  go_ret
  rw [E.out]
  exact ⟨rfl, rfl⟩
theorem halves_any (x : Int) (w : World) (h0 : 0 ≤ x) (h1 : x < 18446744073709551616) :
    Calls Try.prog 77 #[.int .u64 x] w fun e w' => e = .returned (.tuple #[.int .i64 (fA x), .int .i64 (fB x)]) ∧ w' = w := by
  have E1 : Hid (fA x = x / 4294967296 % 1073741824) := rfl
  have E2 : Hid (fB x = x % 1073741824) := rfl
  go_enter Try.func77, Try.ntmps77
  go_wp2
  go_ret2
  rw [E1.out, E2.out]
  exact ⟨rfl, rfl⟩

theorem hd0 (x : Int) (h0 : 0 ≤ x) (h1 : x < 18446744073709551616) : (x == mk 0 (fA x) (fB x)) = isHd x 0 := by
  rw [Bool.eq_iff_iff]; simp [isHd]; unfold mk fH fS fA fB; omega
theorem hd1 (x : Int) (_h0 : 0 ≤ x) (_h1 : x < 18446744073709551616) : (x == mk 1 0 (fB x)) = (isHd x 1 && inR 0 0 (fA x)) := by
  rw [Bool.eq_iff_iff]; simp [isHd, inR]; unfold mk fH fS fA fB; omega
theorem hd2 (x : Int) (h0 : 0 ≤ x) (h1 : x < 18446744073709551616) : (x == mk 2 (fA x) (fB x)) = isHd x 2 := by
  rw [Bool.eq_iff_iff]; simp [isHd]; unfold mk fH fS fA fB; omega
theorem hd_ne (x a b : Int) (h : a ≠ b) (g : isHd x a = true) : isHd x b = false := by
  have := isHd_eq g
  simp [isHd]; omega

theorem fA_bd (x : Int) : 0 ≤ fA x ∧ fA x < 1073741824 := by unfold fA; omega
theorem fB_bd (x : Int) : 0 ≤ fB x ∧ fB x < 1073741824 := by unfold fB; omega

set_option maxHeartbeats 1000000 in
theorem rk_1 (x : Int) (w : World) (h0 : 0 ≤ x) (h1 : x < 18446744073709551616) (r0 : (x == mk 0 (fA x) (fB x)) = true) (b1 : inR 1 1048578 (fB x) = true) (a7 : inR 0 7 (fA x) = true) :
    Calls Try.prog 65 #[.int .u64 x] w fun e w' => e = .returned (.int .i64 1) ∧ w' = w := by
  have H0 : Hid (0 ≤ x) := h0
  have H1 : Hid (x < 18446744073709551616) := h1
  clear h0 h1
  go_enter Try.func65, Try.ntmps65
  go_wp2_with (first
    | (go_at_call 77; refine (halves_any x _ H0.out H1.out).mono ?_; rintro e w1 ⟨rfl, rfl⟩)
    | (go_at_call 78; refine (is12 _ _ _ _).mono ?_; rintro e w1 ⟨rfl, rfl⟩)
    | (go_at_call_has 31 (Value.int .u64 0); refine Calls.mono (made13 0 0 (fA x) (fB x) _ (by omega) (by omega) (by omega) (fA_bd x).1 (fA_bd x).2 (fB_bd x).1 (fB_bd x).2) ?_; rintro e w1 ⟨rfl, rfl⟩)
    | (go_at_call_has 31 (Value.int .u64 4611686018427387904); refine Calls.mono (made13 4611686018427387904 1 0 (fB x) _ (by omega) (by omega) (by omega) (by omega) (by omega) (fB_bd x).1 (fB_bd x).2) ?_; rintro e w1 ⟨rfl, rfl⟩)
    | (go_at_call_has 31 (Value.int .u64 9223372036854775808); refine Calls.mono (made13 9223372036854775808 2 (fA x) (fB x) _ (by omega) (by omega) (by omega) (fA_bd x).1 (fA_bd x).2 (fB_bd x).1 (fB_bd x).2) ?_; rintro e w1 ⟨rfl, rfl⟩))
  go_ret
  exact ⟨rfl, rfl⟩
set_option maxHeartbeats 1000000 in
theorem rk_0a (x : Int) (w : World) (h0 : 0 ≤ x) (h1 : x < 18446744073709551616) (r0 : (x == mk 0 (fA x) (fB x)) = true) (b1 : inR 1 1048578 (fB x) = false) (r1 : (x == mk 1 0 (fB x)) = false) (r2 : (x == mk 2 (fA x) (fB x)) = false) :
    Calls Try.prog 65 #[.int .u64 x] w fun e w' => e = .returned (.int .i64 0) ∧ w' = w := by
  have H0 : Hid (0 ≤ x) := h0
  have H1 : Hid (x < 18446744073709551616) := h1
  clear h0 h1
  go_enter Try.func65, Try.ntmps65
  go_wp2_with (first
    | (go_at_call 77; refine (halves_any x _ H0.out H1.out).mono ?_; rintro e w1 ⟨rfl, rfl⟩)
    | (go_at_call 78; refine (is12 _ _ _ _).mono ?_; rintro e w1 ⟨rfl, rfl⟩)
    | (go_at_call_has 31 (Value.int .u64 0); refine Calls.mono (made13 0 0 (fA x) (fB x) _ (by omega) (by omega) (by omega) (fA_bd x).1 (fA_bd x).2 (fB_bd x).1 (fB_bd x).2) ?_; rintro e w1 ⟨rfl, rfl⟩)
    | (go_at_call_has 31 (Value.int .u64 4611686018427387904); refine Calls.mono (made13 4611686018427387904 1 0 (fB x) _ (by omega) (by omega) (by omega) (by omega) (by omega) (fB_bd x).1 (fB_bd x).2) ?_; rintro e w1 ⟨rfl, rfl⟩)
    | (go_at_call_has 31 (Value.int .u64 9223372036854775808); refine Calls.mono (made13 9223372036854775808 2 (fA x) (fB x) _ (by omega) (by omega) (by omega) (fA_bd x).1 (fA_bd x).2 (fB_bd x).1 (fB_bd x).2) ?_; rintro e w1 ⟨rfl, rfl⟩))
  go_ret
  exact ⟨rfl, rfl⟩
set_option maxHeartbeats 1000000 in
theorem rk_0b (x : Int) (w : World) (h0 : 0 ≤ x) (h1 : x < 18446744073709551616) (r0 : (x == mk 0 (fA x) (fB x)) = true) (b1 : inR 1 1048578 (fB x) = true) (a7 : inR 0 7 (fA x) = false) (r1 : (x == mk 1 0 (fB x)) = false) (r2 : (x == mk 2 (fA x) (fB x)) = false) :
    Calls Try.prog 65 #[.int .u64 x] w fun e w' => e = .returned (.int .i64 0) ∧ w' = w := by
  have H0 : Hid (0 ≤ x) := h0
  have H1 : Hid (x < 18446744073709551616) := h1
  clear h0 h1
  go_enter Try.func65, Try.ntmps65
  go_wp2_with (first
    | (go_at_call 77; refine (halves_any x _ H0.out H1.out).mono ?_; rintro e w1 ⟨rfl, rfl⟩)
    | (go_at_call 78; refine (is12 _ _ _ _).mono ?_; rintro e w1 ⟨rfl, rfl⟩)
    | (go_at_call_has 31 (Value.int .u64 0); refine Calls.mono (made13 0 0 (fA x) (fB x) _ (by omega) (by omega) (by omega) (fA_bd x).1 (fA_bd x).2 (fB_bd x).1 (fB_bd x).2) ?_; rintro e w1 ⟨rfl, rfl⟩)
    | (go_at_call_has 31 (Value.int .u64 4611686018427387904); refine Calls.mono (made13 4611686018427387904 1 0 (fB x) _ (by omega) (by omega) (by omega) (by omega) (by omega) (fB_bd x).1 (fB_bd x).2) ?_; rintro e w1 ⟨rfl, rfl⟩)
    | (go_at_call_has 31 (Value.int .u64 9223372036854775808); refine Calls.mono (made13 9223372036854775808 2 (fA x) (fB x) _ (by omega) (by omega) (by omega) (fA_bd x).1 (fA_bd x).2 (fB_bd x).1 (fB_bd x).2) ?_; rintro e w1 ⟨rfl, rfl⟩))
  go_ret
  exact ⟨rfl, rfl⟩
set_option maxHeartbeats 1000000 in
theorem rk_2 (x : Int) (w : World) (h0 : 0 ≤ x) (h1 : x < 18446744073709551616) (r0 : (x == mk 0 (fA x) (fB x)) = false) (r1 : (x == mk 1 0 (fB x)) = true) (b24 : inR 1 24 (fB x) = true) :
    Calls Try.prog 65 #[.int .u64 x] w fun e w' => e = .returned (.int .i64 2) ∧ w' = w := by
  have H0 : Hid (0 ≤ x) := h0
  have H1 : Hid (x < 18446744073709551616) := h1
  clear h0 h1
  go_enter Try.func65, Try.ntmps65
  go_wp2_with (first
    | (go_at_call 77; refine (halves_any x _ H0.out H1.out).mono ?_; rintro e w1 ⟨rfl, rfl⟩)
    | (go_at_call 78; refine (is12 _ _ _ _).mono ?_; rintro e w1 ⟨rfl, rfl⟩)
    | (go_at_call_has 31 (Value.int .u64 0); refine Calls.mono (made13 0 0 (fA x) (fB x) _ (by omega) (by omega) (by omega) (fA_bd x).1 (fA_bd x).2 (fB_bd x).1 (fB_bd x).2) ?_; rintro e w1 ⟨rfl, rfl⟩)
    | (go_at_call_has 31 (Value.int .u64 4611686018427387904); refine Calls.mono (made13 4611686018427387904 1 0 (fB x) _ (by omega) (by omega) (by omega) (by omega) (by omega) (fB_bd x).1 (fB_bd x).2) ?_; rintro e w1 ⟨rfl, rfl⟩)
    | (go_at_call_has 31 (Value.int .u64 9223372036854775808); refine Calls.mono (made13 9223372036854775808 2 (fA x) (fB x) _ (by omega) (by omega) (by omega) (fA_bd x).1 (fA_bd x).2 (fB_bd x).1 (fB_bd x).2) ?_; rintro e w1 ⟨rfl, rfl⟩))
  go_ret
  exact ⟨rfl, rfl⟩
set_option maxHeartbeats 1000000 in
theorem rk_0c (x : Int) (w : World) (h0 : 0 ≤ x) (h1 : x < 18446744073709551616) (r0 : (x == mk 0 (fA x) (fB x)) = false) (r1 : (x == mk 1 0 (fB x)) = true) (b24 : inR 1 24 (fB x) = false) (r2 : (x == mk 2 (fA x) (fB x)) = false) :
    Calls Try.prog 65 #[.int .u64 x] w fun e w' => e = .returned (.int .i64 0) ∧ w' = w := by
  have H0 : Hid (0 ≤ x) := h0
  have H1 : Hid (x < 18446744073709551616) := h1
  clear h0 h1
  go_enter Try.func65, Try.ntmps65
  go_wp2_with (first
    | (go_at_call 77; refine (halves_any x _ H0.out H1.out).mono ?_; rintro e w1 ⟨rfl, rfl⟩)
    | (go_at_call 78; refine (is12 _ _ _ _).mono ?_; rintro e w1 ⟨rfl, rfl⟩)
    | (go_at_call_has 31 (Value.int .u64 0); refine Calls.mono (made13 0 0 (fA x) (fB x) _ (by omega) (by omega) (by omega) (fA_bd x).1 (fA_bd x).2 (fB_bd x).1 (fB_bd x).2) ?_; rintro e w1 ⟨rfl, rfl⟩)
    | (go_at_call_has 31 (Value.int .u64 4611686018427387904); refine Calls.mono (made13 4611686018427387904 1 0 (fB x) _ (by omega) (by omega) (by omega) (by omega) (by omega) (fB_bd x).1 (fB_bd x).2) ?_; rintro e w1 ⟨rfl, rfl⟩)
    | (go_at_call_has 31 (Value.int .u64 9223372036854775808); refine Calls.mono (made13 9223372036854775808 2 (fA x) (fB x) _ (by omega) (by omega) (by omega) (fA_bd x).1 (fA_bd x).2 (fB_bd x).1 (fB_bd x).2) ?_; rintro e w1 ⟨rfl, rfl⟩))
  go_ret
  exact ⟨rfl, rfl⟩
set_option maxHeartbeats 1000000 in
theorem rk_0d (x : Int) (w : World) (h0 : 0 ≤ x) (h1 : x < 18446744073709551616) (r0 : (x == mk 0 (fA x) (fB x)) = false) (r1 : (x == mk 1 0 (fB x)) = false) (r2 : (x == mk 2 (fA x) (fB x)) = false) :
    Calls Try.prog 65 #[.int .u64 x] w fun e w' => e = .returned (.int .i64 0) ∧ w' = w := by
  have H0 : Hid (0 ≤ x) := h0
  have H1 : Hid (x < 18446744073709551616) := h1
  clear h0 h1
  go_enter Try.func65, Try.ntmps65
  go_wp2_with (first
    | (go_at_call 77; refine (halves_any x _ H0.out H1.out).mono ?_; rintro e w1 ⟨rfl, rfl⟩)
    | (go_at_call 78; refine (is12 _ _ _ _).mono ?_; rintro e w1 ⟨rfl, rfl⟩)
    | (go_at_call_has 31 (Value.int .u64 0); refine Calls.mono (made13 0 0 (fA x) (fB x) _ (by omega) (by omega) (by omega) (fA_bd x).1 (fA_bd x).2 (fB_bd x).1 (fB_bd x).2) ?_; rintro e w1 ⟨rfl, rfl⟩)
    | (go_at_call_has 31 (Value.int .u64 4611686018427387904); refine Calls.mono (made13 4611686018427387904 1 0 (fB x) _ (by omega) (by omega) (by omega) (by omega) (by omega) (fB_bd x).1 (fB_bd x).2) ?_; rintro e w1 ⟨rfl, rfl⟩)
    | (go_at_call_has 31 (Value.int .u64 9223372036854775808); refine Calls.mono (made13 9223372036854775808 2 (fA x) (fB x) _ (by omega) (by omega) (by omega) (fA_bd x).1 (fA_bd x).2 (fB_bd x).1 (fB_bd x).2) ?_; rintro e w1 ⟨rfl, rfl⟩))
  go_ret
  exact ⟨rfl, rfl⟩
set_option maxHeartbeats 1000000 in
theorem rk_3 (x : Int) (w : World) (h0 : 0 ≤ x) (h1 : x < 18446744073709551616) (r0 : (x == mk 0 (fA x) (fB x)) = false) (r1 : (x == mk 1 0 (fB x)) = false) (r2 : (x == mk 2 (fA x) (fB x)) = true) (a1 : inR 1 1048578 (fA x) = true) (b1 : inR 1 1048578 (fB x) = true) :
    Calls Try.prog 65 #[.int .u64 x] w fun e w' => e = .returned (.int .i64 3) ∧ w' = w := by
  have H0 : Hid (0 ≤ x) := h0
  have H1 : Hid (x < 18446744073709551616) := h1
  clear h0 h1
  go_enter Try.func65, Try.ntmps65
  go_wp2_with (first
    | (go_at_call 77; refine (halves_any x _ H0.out H1.out).mono ?_; rintro e w1 ⟨rfl, rfl⟩)
    | (go_at_call 78; refine (is12 _ _ _ _).mono ?_; rintro e w1 ⟨rfl, rfl⟩)
    | (go_at_call_has 31 (Value.int .u64 0); refine Calls.mono (made13 0 0 (fA x) (fB x) _ (by omega) (by omega) (by omega) (fA_bd x).1 (fA_bd x).2 (fB_bd x).1 (fB_bd x).2) ?_; rintro e w1 ⟨rfl, rfl⟩)
    | (go_at_call_has 31 (Value.int .u64 4611686018427387904); refine Calls.mono (made13 4611686018427387904 1 0 (fB x) _ (by omega) (by omega) (by omega) (by omega) (by omega) (fB_bd x).1 (fB_bd x).2) ?_; rintro e w1 ⟨rfl, rfl⟩)
    | (go_at_call_has 31 (Value.int .u64 9223372036854775808); refine Calls.mono (made13 9223372036854775808 2 (fA x) (fB x) _ (by omega) (by omega) (by omega) (fA_bd x).1 (fA_bd x).2 (fB_bd x).1 (fB_bd x).2) ?_; rintro e w1 ⟨rfl, rfl⟩))
  go_ret
  exact ⟨rfl, rfl⟩
set_option maxHeartbeats 1000000 in
theorem rk_4a (x : Int) (w : World) (h0 : 0 ≤ x) (h1 : x < 18446744073709551616) (r0 : (x == mk 0 (fA x) (fB x)) = false) (r1 : (x == mk 1 0 (fB x)) = false) (r2 : (x == mk 2 (fA x) (fB x)) = true) (a1 : inR 1 1048578 (fA x) = true) (b1 : inR 1 1048578 (fB x) = false) (a0 : inR 0 1048578 (fA x) = true) (b0 : inR 0 1048578 (fB x) = true) :
    Calls Try.prog 65 #[.int .u64 x] w fun e w' => e = .returned (.int .i64 4) ∧ w' = w := by
  have H0 : Hid (0 ≤ x) := h0
  have H1 : Hid (x < 18446744073709551616) := h1
  clear h0 h1
  go_enter Try.func65, Try.ntmps65
  go_wp2_with (first
    | (go_at_call 77; refine (halves_any x _ H0.out H1.out).mono ?_; rintro e w1 ⟨rfl, rfl⟩)
    | (go_at_call 78; refine (is12 _ _ _ _).mono ?_; rintro e w1 ⟨rfl, rfl⟩)
    | (go_at_call_has 31 (Value.int .u64 0); refine Calls.mono (made13 0 0 (fA x) (fB x) _ (by omega) (by omega) (by omega) (fA_bd x).1 (fA_bd x).2 (fB_bd x).1 (fB_bd x).2) ?_; rintro e w1 ⟨rfl, rfl⟩)
    | (go_at_call_has 31 (Value.int .u64 4611686018427387904); refine Calls.mono (made13 4611686018427387904 1 0 (fB x) _ (by omega) (by omega) (by omega) (by omega) (by omega) (fB_bd x).1 (fB_bd x).2) ?_; rintro e w1 ⟨rfl, rfl⟩)
    | (go_at_call_has 31 (Value.int .u64 9223372036854775808); refine Calls.mono (made13 9223372036854775808 2 (fA x) (fB x) _ (by omega) (by omega) (by omega) (fA_bd x).1 (fA_bd x).2 (fB_bd x).1 (fB_bd x).2) ?_; rintro e w1 ⟨rfl, rfl⟩))
  go_ret
  exact ⟨rfl, rfl⟩
set_option maxHeartbeats 1000000 in
theorem rk_0e (x : Int) (w : World) (h0 : 0 ≤ x) (h1 : x < 18446744073709551616) (r0 : (x == mk 0 (fA x) (fB x)) = false) (r1 : (x == mk 1 0 (fB x)) = false) (r2 : (x == mk 2 (fA x) (fB x)) = true) (a1 : inR 1 1048578 (fA x) = true) (b1 : inR 1 1048578 (fB x) = false) (a0 : inR 0 1048578 (fA x) = true) (b0 : inR 0 1048578 (fB x) = false) :
    Calls Try.prog 65 #[.int .u64 x] w fun e w' => e = .returned (.int .i64 0) ∧ w' = w := by
  have H0 : Hid (0 ≤ x) := h0
  have H1 : Hid (x < 18446744073709551616) := h1
  clear h0 h1
  go_enter Try.func65, Try.ntmps65
  go_wp2_with (first
    | (go_at_call 77; refine (halves_any x _ H0.out H1.out).mono ?_; rintro e w1 ⟨rfl, rfl⟩)
    | (go_at_call 78; refine (is12 _ _ _ _).mono ?_; rintro e w1 ⟨rfl, rfl⟩)
    | (go_at_call_has 31 (Value.int .u64 0); refine Calls.mono (made13 0 0 (fA x) (fB x) _ (by omega) (by omega) (by omega) (fA_bd x).1 (fA_bd x).2 (fB_bd x).1 (fB_bd x).2) ?_; rintro e w1 ⟨rfl, rfl⟩)
    | (go_at_call_has 31 (Value.int .u64 4611686018427387904); refine Calls.mono (made13 4611686018427387904 1 0 (fB x) _ (by omega) (by omega) (by omega) (by omega) (by omega) (fB_bd x).1 (fB_bd x).2) ?_; rintro e w1 ⟨rfl, rfl⟩)
    | (go_at_call_has 31 (Value.int .u64 9223372036854775808); refine Calls.mono (made13 9223372036854775808 2 (fA x) (fB x) _ (by omega) (by omega) (by omega) (fA_bd x).1 (fA_bd x).2 (fB_bd x).1 (fB_bd x).2) ?_; rintro e w1 ⟨rfl, rfl⟩))
  go_ret
  exact ⟨rfl, rfl⟩
set_option maxHeartbeats 1000000 in
theorem rk_4b (x : Int) (w : World) (h0 : 0 ≤ x) (h1 : x < 18446744073709551616) (r0 : (x == mk 0 (fA x) (fB x)) = false) (r1 : (x == mk 1 0 (fB x)) = false) (r2 : (x == mk 2 (fA x) (fB x)) = true) (a1 : inR 1 1048578 (fA x) = false) (a0 : inR 0 1048578 (fA x) = true) (b0 : inR 0 1048578 (fB x) = true) :
    Calls Try.prog 65 #[.int .u64 x] w fun e w' => e = .returned (.int .i64 4) ∧ w' = w := by
  have H0 : Hid (0 ≤ x) := h0
  have H1 : Hid (x < 18446744073709551616) := h1
  clear h0 h1
  go_enter Try.func65, Try.ntmps65
  go_wp2_with (first
    | (go_at_call 77; refine (halves_any x _ H0.out H1.out).mono ?_; rintro e w1 ⟨rfl, rfl⟩)
    | (go_at_call 78; refine (is12 _ _ _ _).mono ?_; rintro e w1 ⟨rfl, rfl⟩)
    | (go_at_call_has 31 (Value.int .u64 0); refine Calls.mono (made13 0 0 (fA x) (fB x) _ (by omega) (by omega) (by omega) (fA_bd x).1 (fA_bd x).2 (fB_bd x).1 (fB_bd x).2) ?_; rintro e w1 ⟨rfl, rfl⟩)
    | (go_at_call_has 31 (Value.int .u64 4611686018427387904); refine Calls.mono (made13 4611686018427387904 1 0 (fB x) _ (by omega) (by omega) (by omega) (by omega) (by omega) (fB_bd x).1 (fB_bd x).2) ?_; rintro e w1 ⟨rfl, rfl⟩)
    | (go_at_call_has 31 (Value.int .u64 9223372036854775808); refine Calls.mono (made13 9223372036854775808 2 (fA x) (fB x) _ (by omega) (by omega) (by omega) (fA_bd x).1 (fA_bd x).2 (fB_bd x).1 (fB_bd x).2) ?_; rintro e w1 ⟨rfl, rfl⟩))
  go_ret
  exact ⟨rfl, rfl⟩
set_option maxHeartbeats 1000000 in
theorem rk_0f (x : Int) (w : World) (h0 : 0 ≤ x) (h1 : x < 18446744073709551616) (r0 : (x == mk 0 (fA x) (fB x)) = false) (r1 : (x == mk 1 0 (fB x)) = false) (r2 : (x == mk 2 (fA x) (fB x)) = true) (a1 : inR 1 1048578 (fA x) = false) (a0 : inR 0 1048578 (fA x) = true) (b0 : inR 0 1048578 (fB x) = false) :
    Calls Try.prog 65 #[.int .u64 x] w fun e w' => e = .returned (.int .i64 0) ∧ w' = w := by
  have H0 : Hid (0 ≤ x) := h0
  have H1 : Hid (x < 18446744073709551616) := h1
  clear h0 h1
  go_enter Try.func65, Try.ntmps65
  go_wp2_with (first
    | (go_at_call 77; refine (halves_any x _ H0.out H1.out).mono ?_; rintro e w1 ⟨rfl, rfl⟩)
    | (go_at_call 78; refine (is12 _ _ _ _).mono ?_; rintro e w1 ⟨rfl, rfl⟩)
    | (go_at_call_has 31 (Value.int .u64 0); refine Calls.mono (made13 0 0 (fA x) (fB x) _ (by omega) (by omega) (by omega) (fA_bd x).1 (fA_bd x).2 (fB_bd x).1 (fB_bd x).2) ?_; rintro e w1 ⟨rfl, rfl⟩)
    | (go_at_call_has 31 (Value.int .u64 4611686018427387904); refine Calls.mono (made13 4611686018427387904 1 0 (fB x) _ (by omega) (by omega) (by omega) (by omega) (by omega) (fB_bd x).1 (fB_bd x).2) ?_; rintro e w1 ⟨rfl, rfl⟩)
    | (go_at_call_has 31 (Value.int .u64 9223372036854775808); refine Calls.mono (made13 9223372036854775808 2 (fA x) (fB x) _ (by omega) (by omega) (by omega) (fA_bd x).1 (fA_bd x).2 (fB_bd x).1 (fB_bd x).2) ?_; rintro e w1 ⟨rfl, rfl⟩))
  go_ret
  exact ⟨rfl, rfl⟩
set_option maxHeartbeats 1000000 in
theorem rk_0g (x : Int) (w : World) (h0 : 0 ≤ x) (h1 : x < 18446744073709551616) (r0 : (x == mk 0 (fA x) (fB x)) = false) (r1 : (x == mk 1 0 (fB x)) = false) (r2 : (x == mk 2 (fA x) (fB x)) = true) (a1 : inR 1 1048578 (fA x) = false) (a0 : inR 0 1048578 (fA x) = false) :
    Calls Try.prog 65 #[.int .u64 x] w fun e w' => e = .returned (.int .i64 0) ∧ w' = w := by
  have H0 : Hid (0 ≤ x) := h0
  have H1 : Hid (x < 18446744073709551616) := h1
  clear h0 h1
  go_enter Try.func65, Try.ntmps65
  go_wp2_with (first
    | (go_at_call 77; refine (halves_any x _ H0.out H1.out).mono ?_; rintro e w1 ⟨rfl, rfl⟩)
    | (go_at_call 78; refine (is12 _ _ _ _).mono ?_; rintro e w1 ⟨rfl, rfl⟩)
    | (go_at_call_has 31 (Value.int .u64 0); refine Calls.mono (made13 0 0 (fA x) (fB x) _ (by omega) (by omega) (by omega) (fA_bd x).1 (fA_bd x).2 (fB_bd x).1 (fB_bd x).2) ?_; rintro e w1 ⟨rfl, rfl⟩)
    | (go_at_call_has 31 (Value.int .u64 4611686018427387904); refine Calls.mono (made13 4611686018427387904 1 0 (fB x) _ (by omega) (by omega) (by omega) (by omega) (by omega) (fB_bd x).1 (fB_bd x).2) ?_; rintro e w1 ⟨rfl, rfl⟩)
    | (go_at_call_has 31 (Value.int .u64 9223372036854775808); refine Calls.mono (made13 9223372036854775808 2 (fA x) (fB x) _ (by omega) (by omega) (by omega) (fA_bd x).1 (fA_bd x).2 (fB_bd x).1 (fB_bd x).2) ?_; rintro e w1 ⟨rfl, rfl⟩))
  go_ret
  exact ⟨rfl, rfl⟩

theorem refKind_any (x : Int) (w : World) (h0 : 0 ≤ x) (h1 : x < 18446744073709551616) :
    Calls Try.prog 65 #[.int .u64 x] w fun e w' => e = .returned (.int .i64 (kindOf x)) ∧ w' = w := by
  have r0 := hd0 x h0 h1
  have r1 := hd1 x h0 h1
  have r2 := hd2 x h0 h1
  have m1 : inR 1 1048578 (fA x) = true → inR 0 1048578 (fA x) = true := by simp [inR]; omega
  have m2 : inR 1 1048578 (fB x) = true → inR 0 1048578 (fB x) = true := by simp [inR]; omega
  cases q0 : isHd x 0
  · cases q1 : isHd x 1 && inR 0 0 (fA x)
    · cases q2 : isHd x 2
      · have k : kindOf x = 0 := by simp [kindOf, isEnt, isCom, isPai, isPat, q0, q1, q2]
        rw [k]; exact rk_0d x w h0 h1 (by rw [r0, q0]) (by rw [r1, q1]) (by rw [r2, q2])
      · cases a1 : inR 1 1048578 (fA x)
        · cases a0 : inR 0 1048578 (fA x)
          · have k : kindOf x = 0 := by simp [kindOf, isEnt, isCom, isPai, isPat, q0, q1, q2, a1, a0]
            rw [k]; exact rk_0g x w h0 h1 (by rw [r0, q0]) (by rw [r1, q1]) (by rw [r2, q2]) a1 a0
          · cases b0 : inR 0 1048578 (fB x)
            · have k : kindOf x = 0 := by simp [kindOf, isEnt, isCom, isPai, isPat, q0, q1, q2, a1, a0, b0]
              rw [k]; exact rk_0f x w h0 h1 (by rw [r0, q0]) (by rw [r1, q1]) (by rw [r2, q2]) a1 a0 b0
            · have k : kindOf x = 4 := by simp [kindOf, isEnt, isCom, isPai, isPat, q0, q1, q2, a1, a0, b0]
              rw [k]; exact rk_4b x w h0 h1 (by rw [r0, q0]) (by rw [r1, q1]) (by rw [r2, q2]) a1 a0 b0
        · have a0 := m1 a1
          cases b1 : inR 1 1048578 (fB x)
          · cases b0 : inR 0 1048578 (fB x)
            · have k : kindOf x = 0 := by simp [kindOf, isEnt, isCom, isPai, isPat, q0, q1, q2, a1, a0, b0, b1]
              rw [k]; exact rk_0e x w h0 h1 (by rw [r0, q0]) (by rw [r1, q1]) (by rw [r2, q2]) a1 b1 a0 b0
            · have k : kindOf x = 4 := by simp [kindOf, isEnt, isCom, isPai, isPat, q0, q1, q2, a1, a0, b0, b1]
              rw [k]; exact rk_4a x w h0 h1 (by rw [r0, q0]) (by rw [r1, q1]) (by rw [r2, q2]) a1 b1 a0 b0
          · have k : kindOf x = 3 := by simp [kindOf, isEnt, isCom, isPai, q0, q1, q2, a1, b1]
            rw [k]; exact rk_3 x w h0 h1 (by rw [r0, q0]) (by rw [r1, q1]) (by rw [r2, q2]) a1 b1
    · have q1' : isHd x 1 = true := by rw [Bool.and_eq_true] at q1; exact q1.1
      have q2 := hd_ne x 1 2 (by decide) q1'
      cases c : inR 1 24 (fB x)
      · have k : kindOf x = 0 := by simp [kindOf, isEnt, isCom, isPai, isPat, q0, q1, q2, c]
        rw [k]; exact rk_0c x w h0 h1 (by rw [r0, q0]) (by rw [r1, q1]) c (by rw [r2, q2])
      · have k : kindOf x = 2 := by simp [kindOf, isEnt, isCom, q0, q1, c]
        rw [k]; exact rk_2 x w h0 h1 (by rw [r0, q0]) (by rw [r1, q1]) c
  · have q1 := hd_ne x 0 1 (by decide) q0
    have q2 := hd_ne x 0 2 (by decide) q0
    cases b1 : inR 1 1048578 (fB x)
    · have k : kindOf x = 0 := by simp [kindOf, isEnt, isCom, isPai, isPat, q1, q2, b1]
      rw [k]; exact rk_0a x w h0 h1 (by rw [r0, q0]) b1 (by rw [r1, q1]; rfl) (by rw [r2, q2])
    · cases a7 : inR 0 7 (fA x)
      · have k : kindOf x = 0 := by simp [kindOf, isEnt, isCom, isPai, isPat, q1, q2, a7]
        rw [k]; exact rk_0b x w h0 h1 (by rw [r0, q0]) b1 a7 (by rw [r1, q1]; rfl) (by rw [r2, q2])
      · have k : kindOf x = 1 := by simp [kindOf, isEnt, q0, b1, a7]
        rw [k]; exact rk_1 x w h0 h1 (by rw [r0, q0]) b1 a7

end Go.Proofs.Ytjnhalomkmdcgaa
