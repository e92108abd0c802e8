/- Contracts of the document's answer: Takes, Digits, one and Text of windroseref01. -/
import Derived.Test.YtooaghcjlomcpaaRfA
namespace Go.Proofs.Ytooaghcjlomcpaa
open Go.RowKit

set_option maxHeartbeats 1000000 in
theorem rt_lt0 (p x : Int) (w : World) (h0 : 0 ≤ p) (h1 : p < 18446744073709551616) (h2 : 0 ≤ x) (h3 : x < 18446744073709551616) (kp : kindOf p < 4) (kx : kindOf x = 0) :
    Calls Try.prog 59 #[.int .u64 p, .int .u64 x] w fun e w' => e = .returned (.bool false) ∧ w' = w := by
  have H0 : Hid (0 ≤ p) := h0
  have H1 : Hid (p < 18446744073709551616) := h1
  have H2 : Hid (0 ≤ x) := h2
  have H3 : Hid (x < 18446744073709551616) := h3
  clear h0 h1 h2 h3
  go_enter Try.func59, Try.ntmps59
  go_wp2_with (first
    | (go_at_call_has 52 p; refine (refKind_any p _ H0.out H1.out).mono ?_; rintro e w1 ⟨rfl, rfl⟩)
    | (go_at_call_has 52 x; refine (refKind_any x _ H2.out H3.out).mono ?_; rintro e w1 ⟨rfl, rfl⟩)
    | (go_at_call_has 85 p; refine (halves_any p _ H0.out H1.out).mono ?_; rintro e w1 ⟨rfl, rfl⟩)
    | (go_at_call_has 85 x; refine (halves_any x _ H2.out H3.out).mono ?_; rintro e w1 ⟨rfl, rfl⟩))
  go_ret
  exact ⟨rfl, rfl⟩
set_option maxHeartbeats 1000000 in
theorem rt_lt1 (p x : Int) (w : World) (h0 : 0 ≤ p) (h1 : p < 18446744073709551616) (h2 : 0 ≤ x) (h3 : x < 18446744073709551616) (kp : kindOf p < 4) (kx : 0 < kindOf x) :
    Calls Try.prog 59 #[.int .u64 p, .int .u64 x] w fun e w' => e = .returned (.bool (p == x)) ∧ w' = w := by
  have H0 : Hid (0 ≤ p) := h0
  have H1 : Hid (p < 18446744073709551616) := h1
  have H2 : Hid (0 ≤ x) := h2
  have H3 : Hid (x < 18446744073709551616) := h3
  clear h0 h1 h2 h3
  go_enter Try.func59, Try.ntmps59
  go_wp2_with (first
    | (go_at_call_has 52 p; refine (refKind_any p _ H0.out H1.out).mono ?_; rintro e w1 ⟨rfl, rfl⟩)
    | (go_at_call_has 52 x; refine (refKind_any x _ H2.out H3.out).mono ?_; rintro e w1 ⟨rfl, rfl⟩)
    | (go_at_call_has 85 p; refine (halves_any p _ H0.out H1.out).mono ?_; rintro e w1 ⟨rfl, rfl⟩)
    | (go_at_call_has 85 x; refine (halves_any x _ H2.out H3.out).mono ?_; rintro e w1 ⟨rfl, rfl⟩))
  go_ret
  exact ⟨rfl, rfl⟩
set_option maxHeartbeats 1000000 in
theorem rt_4n (p x : Int) (w : World) (h0 : 0 ≤ p) (h1 : p < 18446744073709551616) (h2 : 0 ≤ x) (h3 : x < 18446744073709551616) (kp : kindOf p = 4) (kx : (kindOf x == 3) = false) :
    Calls Try.prog 59 #[.int .u64 p, .int .u64 x] w fun e w' => e = .returned (.bool false) ∧ w' = w := by
  have H0 : Hid (0 ≤ p) := h0
  have H1 : Hid (p < 18446744073709551616) := h1
  have H2 : Hid (0 ≤ x) := h2
  have H3 : Hid (x < 18446744073709551616) := h3
  clear h0 h1 h2 h3
  go_enter Try.func59, Try.ntmps59
  go_wp2_with (first
    | (go_at_call_has 52 p; refine (refKind_any p _ H0.out H1.out).mono ?_; rintro e w1 ⟨rfl, rfl⟩)
    | (go_at_call_has 52 x; refine (refKind_any x _ H2.out H3.out).mono ?_; rintro e w1 ⟨rfl, rfl⟩)
    | (go_at_call_has 85 p; refine (halves_any p _ H0.out H1.out).mono ?_; rintro e w1 ⟨rfl, rfl⟩)
    | (go_at_call_has 85 x; refine (halves_any x _ H2.out H3.out).mono ?_; rintro e w1 ⟨rfl, rfl⟩))
  go_ret
  exact ⟨rfl, rfl⟩
set_option maxHeartbeats 1000000 in
theorem rt_ff (p x : Int) (w : World) (h0 : 0 ≤ p) (h1 : p < 18446744073709551616) (h2 : 0 ≤ x) (h3 : x < 18446744073709551616) (kp : kindOf p = 4) (kx : kindOf x = 3) (c1 : (fA p == 0) = false) (c2 : (fA p == fA x) = false) :
    Calls Try.prog 59 #[.int .u64 p, .int .u64 x] w fun e w' => e = .returned (.bool false) ∧ w' = w := by
  have H0 : Hid (0 ≤ p) := h0
  have H1 : Hid (p < 18446744073709551616) := h1
  have H2 : Hid (0 ≤ x) := h2
  have H3 : Hid (x < 18446744073709551616) := h3
  clear h0 h1 h2 h3
  go_enter Try.func59, Try.ntmps59
  go_wp2_with (first
    | (go_at_call_has 52 p; refine (refKind_any p _ H0.out H1.out).mono ?_; rintro e w1 ⟨rfl, rfl⟩)
    | (go_at_call_has 52 x; refine (refKind_any x _ H2.out H3.out).mono ?_; rintro e w1 ⟨rfl, rfl⟩)
    | (go_at_call_has 85 p; refine (halves_any p _ H0.out H1.out).mono ?_; rintro e w1 ⟨rfl, rfl⟩)
    | (go_at_call_has 85 x; refine (halves_any x _ H2.out H3.out).mono ?_; rintro e w1 ⟨rfl, rfl⟩))
  go_ret
  exact ⟨rfl, rfl⟩
set_option maxHeartbeats 1000000 in
theorem rt_t_t (p x : Int) (w : World) (h0 : 0 ≤ p) (h1 : p < 18446744073709551616) (h2 : 0 ≤ x) (h3 : x < 18446744073709551616) (kp : kindOf p = 4) (kx : kindOf x = 3) (c1 : (fA p == 0) = true) (c3 : (fB p == 0) = true) :
    Calls Try.prog 59 #[.int .u64 p, .int .u64 x] w fun e w' => e = .returned (.bool true) ∧ w' = w := by
  have H0 : Hid (0 ≤ p) := h0
  have H1 : Hid (p < 18446744073709551616) := h1
  have H2 : Hid (0 ≤ x) := h2
  have H3 : Hid (x < 18446744073709551616) := h3
  clear h0 h1 h2 h3
  go_enter Try.func59, Try.ntmps59
  go_wp2_with (first
    | (go_at_call_has 52 p; refine (refKind_any p _ H0.out H1.out).mono ?_; rintro e w1 ⟨rfl, rfl⟩)
    | (go_at_call_has 52 x; refine (refKind_any x _ H2.out H3.out).mono ?_; rintro e w1 ⟨rfl, rfl⟩)
    | (go_at_call_has 85 p; refine (halves_any p _ H0.out H1.out).mono ?_; rintro e w1 ⟨rfl, rfl⟩)
    | (go_at_call_has 85 x; refine (halves_any x _ H2.out H3.out).mono ?_; rintro e w1 ⟨rfl, rfl⟩))
  go_ret
  exact ⟨rfl, rfl⟩
set_option maxHeartbeats 1000000 in
theorem rt_t_ft (p x : Int) (w : World) (h0 : 0 ≤ p) (h1 : p < 18446744073709551616) (h2 : 0 ≤ x) (h3 : x < 18446744073709551616) (kp : kindOf p = 4) (kx : kindOf x = 3) (c1 : (fA p == 0) = true) (c3 : (fB p == 0) = false) (c4 : (fB p == fB x) = true) :
    Calls Try.prog 59 #[.int .u64 p, .int .u64 x] w fun e w' => e = .returned (.bool true) ∧ w' = w := by
  have H0 : Hid (0 ≤ p) := h0
  have H1 : Hid (p < 18446744073709551616) := h1
  have H2 : Hid (0 ≤ x) := h2
  have H3 : Hid (x < 18446744073709551616) := h3
  clear h0 h1 h2 h3
  go_enter Try.func59, Try.ntmps59
  go_wp2_with (first
    | (go_at_call_has 52 p; refine (refKind_any p _ H0.out H1.out).mono ?_; rintro e w1 ⟨rfl, rfl⟩)
    | (go_at_call_has 52 x; refine (refKind_any x _ H2.out H3.out).mono ?_; rintro e w1 ⟨rfl, rfl⟩)
    | (go_at_call_has 85 p; refine (halves_any p _ H0.out H1.out).mono ?_; rintro e w1 ⟨rfl, rfl⟩)
    | (go_at_call_has 85 x; refine (halves_any x _ H2.out H3.out).mono ?_; rintro e w1 ⟨rfl, rfl⟩))
  go_ret
  exact ⟨rfl, rfl⟩
set_option maxHeartbeats 1000000 in
theorem rt_t_ff (p x : Int) (w : World) (h0 : 0 ≤ p) (h1 : p < 18446744073709551616) (h2 : 0 ≤ x) (h3 : x < 18446744073709551616) (kp : kindOf p = 4) (kx : kindOf x = 3) (c1 : (fA p == 0) = true) (c3 : (fB p == 0) = false) (c4 : (fB p == fB x) = false) :
    Calls Try.prog 59 #[.int .u64 p, .int .u64 x] w fun e w' => e = .returned (.bool false) ∧ w' = w := by
  have H0 : Hid (0 ≤ p) := h0
  have H1 : Hid (p < 18446744073709551616) := h1
  have H2 : Hid (0 ≤ x) := h2
  have H3 : Hid (x < 18446744073709551616) := h3
  clear h0 h1 h2 h3
  go_enter Try.func59, Try.ntmps59
  go_wp2_with (first
    | (go_at_call_has 52 p; refine (refKind_any p _ H0.out H1.out).mono ?_; rintro e w1 ⟨rfl, rfl⟩)
    | (go_at_call_has 52 x; refine (refKind_any x _ H2.out H3.out).mono ?_; rintro e w1 ⟨rfl, rfl⟩)
    | (go_at_call_has 85 p; refine (halves_any p _ H0.out H1.out).mono ?_; rintro e w1 ⟨rfl, rfl⟩)
    | (go_at_call_has 85 x; refine (halves_any x _ H2.out H3.out).mono ?_; rintro e w1 ⟨rfl, rfl⟩))
  go_ret
  exact ⟨rfl, rfl⟩
set_option maxHeartbeats 1000000 in
theorem rt_ft_t (p x : Int) (w : World) (h0 : 0 ≤ p) (h1 : p < 18446744073709551616) (h2 : 0 ≤ x) (h3 : x < 18446744073709551616) (kp : kindOf p = 4) (kx : kindOf x = 3) (c1 : (fA p == 0) = false) (c2 : (fA p == fA x) = true) (c3 : (fB p == 0) = true) :
    Calls Try.prog 59 #[.int .u64 p, .int .u64 x] w fun e w' => e = .returned (.bool true) ∧ w' = w := by
  have H0 : Hid (0 ≤ p) := h0
  have H1 : Hid (p < 18446744073709551616) := h1
  have H2 : Hid (0 ≤ x) := h2
  have H3 : Hid (x < 18446744073709551616) := h3
  clear h0 h1 h2 h3
  go_enter Try.func59, Try.ntmps59
  go_wp2_with (first
    | (go_at_call_has 52 p; refine (refKind_any p _ H0.out H1.out).mono ?_; rintro e w1 ⟨rfl, rfl⟩)
    | (go_at_call_has 52 x; refine (refKind_any x _ H2.out H3.out).mono ?_; rintro e w1 ⟨rfl, rfl⟩)
    | (go_at_call_has 85 p; refine (halves_any p _ H0.out H1.out).mono ?_; rintro e w1 ⟨rfl, rfl⟩)
    | (go_at_call_has 85 x; refine (halves_any x _ H2.out H3.out).mono ?_; rintro e w1 ⟨rfl, rfl⟩))
  go_ret
  exact ⟨rfl, rfl⟩
set_option maxHeartbeats 1000000 in
theorem rt_ft_ft (p x : Int) (w : World) (h0 : 0 ≤ p) (h1 : p < 18446744073709551616) (h2 : 0 ≤ x) (h3 : x < 18446744073709551616) (kp : kindOf p = 4) (kx : kindOf x = 3) (c1 : (fA p == 0) = false) (c2 : (fA p == fA x) = true) (c3 : (fB p == 0) = false) (c4 : (fB p == fB x) = true) :
    Calls Try.prog 59 #[.int .u64 p, .int .u64 x] w fun e w' => e = .returned (.bool true) ∧ w' = w := by
  have H0 : Hid (0 ≤ p) := h0
  have H1 : Hid (p < 18446744073709551616) := h1
  have H2 : Hid (0 ≤ x) := h2
  have H3 : Hid (x < 18446744073709551616) := h3
  clear h0 h1 h2 h3
  go_enter Try.func59, Try.ntmps59
  go_wp2_with (first
    | (go_at_call_has 52 p; refine (refKind_any p _ H0.out H1.out).mono ?_; rintro e w1 ⟨rfl, rfl⟩)
    | (go_at_call_has 52 x; refine (refKind_any x _ H2.out H3.out).mono ?_; rintro e w1 ⟨rfl, rfl⟩)
    | (go_at_call_has 85 p; refine (halves_any p _ H0.out H1.out).mono ?_; rintro e w1 ⟨rfl, rfl⟩)
    | (go_at_call_has 85 x; refine (halves_any x _ H2.out H3.out).mono ?_; rintro e w1 ⟨rfl, rfl⟩))
  go_ret
  exact ⟨rfl, rfl⟩
set_option maxHeartbeats 1000000 in
theorem rt_ft_ff (p x : Int) (w : World) (h0 : 0 ≤ p) (h1 : p < 18446744073709551616) (h2 : 0 ≤ x) (h3 : x < 18446744073709551616) (kp : kindOf p = 4) (kx : kindOf x = 3) (c1 : (fA p == 0) = false) (c2 : (fA p == fA x) = true) (c3 : (fB p == 0) = false) (c4 : (fB p == fB x) = false) :
    Calls Try.prog 59 #[.int .u64 p, .int .u64 x] w fun e w' => e = .returned (.bool false) ∧ w' = w := by
  have H0 : Hid (0 ≤ p) := h0
  have H1 : Hid (p < 18446744073709551616) := h1
  have H2 : Hid (0 ≤ x) := h2
  have H3 : Hid (x < 18446744073709551616) := h3
  clear h0 h1 h2 h3
  go_enter Try.func59, Try.ntmps59
  go_wp2_with (first
    | (go_at_call_has 52 p; refine (refKind_any p _ H0.out H1.out).mono ?_; rintro e w1 ⟨rfl, rfl⟩)
    | (go_at_call_has 52 x; refine (refKind_any x _ H2.out H3.out).mono ?_; rintro e w1 ⟨rfl, rfl⟩)
    | (go_at_call_has 85 p; refine (halves_any p _ H0.out H1.out).mono ?_; rintro e w1 ⟨rfl, rfl⟩)
    | (go_at_call_has 85 x; refine (halves_any x _ H2.out H3.out).mono ?_; rintro e w1 ⟨rfl, rfl⟩))
  go_ret
  exact ⟨rfl, rfl⟩

theorem refTakes_any (p x : Int) (w : World) (h0 : 0 ≤ p) (h1 : p < 18446744073709551616) (h2 : 0 ≤ x) (h3 : x < 18446744073709551616) :
    Calls Try.prog 59 #[.int .u64 p, .int .u64 x] w fun e w' => e = .returned (.bool (takesB p x)) ∧ w' = w := by
  by_cases kp : kindOf p = 4
  · have E : takesB p x = (kindOf x == 3 && coversB p x) := by unfold takesB; rw [kp]; rfl
    by_cases kx : kindOf x = 3
    · have E2 : takesB p x = ((fA p == 0 || fA p == fA x) && (fB p == 0 || fB p == fB x)) := by rw [E, kx]; rfl
      rw [E2]
      cases c1 : (fA p == 0)
      · cases c2 : (fA p == fA x)
        · exact rt_ff p x w h0 h1 h2 h3 kp kx c1 c2
        · cases c3 : (fB p == 0)
          · cases c4 : (fB p == fB x)
            · exact rt_ft_ff p x w h0 h1 h2 h3 kp kx c1 c2 c3 c4
            · exact rt_ft_ft p x w h0 h1 h2 h3 kp kx c1 c2 c3 c4
          · exact rt_ft_t p x w h0 h1 h2 h3 kp kx c1 c2 c3
      · cases c3 : (fB p == 0)
        · cases c4 : (fB p == fB x)
          · exact rt_t_ff p x w h0 h1 h2 h3 kp kx c1 c3 c4
          · exact rt_t_ft p x w h0 h1 h2 h3 kp kx c1 c3 c4
        · exact rt_t_t p x w h0 h1 h2 h3 kp kx c1 c3
    · have k : (kindOf x == 3) = false := by simp [kx]
      rw [E, k]
      exact rt_4n p x w h0 h1 h2 h3 kp k
  · have kl : kindOf p < 4 := by rcases kind_cases p with h | h | h | h | h <;> omega
    by_cases kx : kindOf x = 0
    · have E : takesB p x = false := by
        unfold takesB
        split
        · rfl
        · rename_i hp
          rw [beq_eq_false_iff_ne]
          intro e; subst e; exact hp kx
      rw [E]
      exact rt_lt0 p x w h0 h1 h2 h3 kl kx
    · have kl2 : 0 < kindOf x := by rcases kind_cases x with h | h | h | h | h <;> omega
      have E : takesB p x = (p == x) := by
        unfold takesB
        split
        · rename_i hp
          symm
          rw [beq_eq_false_iff_ne]
          intro e; subst e; exact kx hp
        · rfl
      rw [E]
      exact rt_lt1 p x w h0 h1 h2 h3 kl kl2

end Go.Proofs.Ytooaghcjlomcpaa
