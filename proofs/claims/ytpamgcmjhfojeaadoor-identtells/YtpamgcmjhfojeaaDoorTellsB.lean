/- Contracts of the document's answer: Takes, Digits, one and Text of windroseref01. -/
import Derived.Test.YtpamgcmjhfojeaaDoorTellsA
import Derived.Laws.IdiomStrings
namespace Go.Proofs.YtpamgcmjhfojeaaDoor
open Go.RowKit

set_option maxHeartbeats 1000000 in
theorem rt_lt0 (p x : Int) (w : World) (h0 : 0 ≤ p) (h1 : p < 18446744073709551616) (h2 : 0 ≤ x) (h3 : x < 18446744073709551616) (kp : kindOf p < 4) (kx : kindOf x = 0) :
    Calls Tryd.prog 21 #[.int .u64 p, .int .u64 x] w fun e w' => e = .returned (.bool false) ∧ w' = w := by
  have H0 : Hid (0 ≤ p) := h0
  have H1 : Hid (p < 18446744073709551616) := h1
  have H2 : Hid (0 ≤ x) := h2
  have H3 : Hid (x < 18446744073709551616) := h3
  clear h0 h1 h2 h3
  go_enter Tryd.func21, Tryd.ntmps21
  go_wp2_with (first
    | (go_at_call_has 17 p; refine (refKind_any p _ H0.out H1.out).mono ?_; rintro e w1 ⟨rfl, rfl⟩)
    | (go_at_call_has 17 x; refine (refKind_any x _ H2.out H3.out).mono ?_; rintro e w1 ⟨rfl, rfl⟩)
    | (go_at_call_has 27 p; refine (halves_any p _ H0.out H1.out).mono ?_; rintro e w1 ⟨rfl, rfl⟩)
    | (go_at_call_has 27 x; refine (halves_any x _ H2.out H3.out).mono ?_; rintro e w1 ⟨rfl, rfl⟩))
  go_ret
  exact ⟨rfl, rfl⟩
set_option maxHeartbeats 1000000 in
theorem rt_lt1 (p x : Int) (w : World) (h0 : 0 ≤ p) (h1 : p < 18446744073709551616) (h2 : 0 ≤ x) (h3 : x < 18446744073709551616) (kp : kindOf p < 4) (kx : 0 < kindOf x) :
    Calls Tryd.prog 21 #[.int .u64 p, .int .u64 x] w fun e w' => e = .returned (.bool (p == x)) ∧ w' = w := by
  have H0 : Hid (0 ≤ p) := h0
  have H1 : Hid (p < 18446744073709551616) := h1
  have H2 : Hid (0 ≤ x) := h2
  have H3 : Hid (x < 18446744073709551616) := h3
  clear h0 h1 h2 h3
  go_enter Tryd.func21, Tryd.ntmps21
  go_wp2_with (first
    | (go_at_call_has 17 p; refine (refKind_any p _ H0.out H1.out).mono ?_; rintro e w1 ⟨rfl, rfl⟩)
    | (go_at_call_has 17 x; refine (refKind_any x _ H2.out H3.out).mono ?_; rintro e w1 ⟨rfl, rfl⟩)
    | (go_at_call_has 27 p; refine (halves_any p _ H0.out H1.out).mono ?_; rintro e w1 ⟨rfl, rfl⟩)
    | (go_at_call_has 27 x; refine (halves_any x _ H2.out H3.out).mono ?_; rintro e w1 ⟨rfl, rfl⟩))
  go_ret
  exact ⟨rfl, rfl⟩
set_option maxHeartbeats 1000000 in
theorem rt_4n (p x : Int) (w : World) (h0 : 0 ≤ p) (h1 : p < 18446744073709551616) (h2 : 0 ≤ x) (h3 : x < 18446744073709551616) (kp : kindOf p = 4) (kx : (kindOf x == 3) = false) :
    Calls Tryd.prog 21 #[.int .u64 p, .int .u64 x] w fun e w' => e = .returned (.bool false) ∧ w' = w := by
  have H0 : Hid (0 ≤ p) := h0
  have H1 : Hid (p < 18446744073709551616) := h1
  have H2 : Hid (0 ≤ x) := h2
  have H3 : Hid (x < 18446744073709551616) := h3
  clear h0 h1 h2 h3
  go_enter Tryd.func21, Tryd.ntmps21
  go_wp2_with (first
    | (go_at_call_has 17 p; refine (refKind_any p _ H0.out H1.out).mono ?_; rintro e w1 ⟨rfl, rfl⟩)
    | (go_at_call_has 17 x; refine (refKind_any x _ H2.out H3.out).mono ?_; rintro e w1 ⟨rfl, rfl⟩)
    | (go_at_call_has 27 p; refine (halves_any p _ H0.out H1.out).mono ?_; rintro e w1 ⟨rfl, rfl⟩)
    | (go_at_call_has 27 x; refine (halves_any x _ H2.out H3.out).mono ?_; rintro e w1 ⟨rfl, rfl⟩))
  go_ret
  exact ⟨rfl, rfl⟩
set_option maxHeartbeats 1000000 in
theorem rt_ff (p x : Int) (w : World) (h0 : 0 ≤ p) (h1 : p < 18446744073709551616) (h2 : 0 ≤ x) (h3 : x < 18446744073709551616) (kp : kindOf p = 4) (kx : kindOf x = 3) (c1 : (fA p == 0) = false) (c2 : (fA p == fA x) = false) :
    Calls Tryd.prog 21 #[.int .u64 p, .int .u64 x] w fun e w' => e = .returned (.bool false) ∧ w' = w := by
  have H0 : Hid (0 ≤ p) := h0
  have H1 : Hid (p < 18446744073709551616) := h1
  have H2 : Hid (0 ≤ x) := h2
  have H3 : Hid (x < 18446744073709551616) := h3
  clear h0 h1 h2 h3
  go_enter Tryd.func21, Tryd.ntmps21
  go_wp2_with (first
    | (go_at_call_has 17 p; refine (refKind_any p _ H0.out H1.out).mono ?_; rintro e w1 ⟨rfl, rfl⟩)
    | (go_at_call_has 17 x; refine (refKind_any x _ H2.out H3.out).mono ?_; rintro e w1 ⟨rfl, rfl⟩)
    | (go_at_call_has 27 p; refine (halves_any p _ H0.out H1.out).mono ?_; rintro e w1 ⟨rfl, rfl⟩)
    | (go_at_call_has 27 x; refine (halves_any x _ H2.out H3.out).mono ?_; rintro e w1 ⟨rfl, rfl⟩))
  go_ret
  exact ⟨rfl, rfl⟩
set_option maxHeartbeats 1000000 in
theorem rt_t_t (p x : Int) (w : World) (h0 : 0 ≤ p) (h1 : p < 18446744073709551616) (h2 : 0 ≤ x) (h3 : x < 18446744073709551616) (kp : kindOf p = 4) (kx : kindOf x = 3) (c1 : (fA p == 0) = true) (c3 : (fB p == 0) = true) :
    Calls Tryd.prog 21 #[.int .u64 p, .int .u64 x] w fun e w' => e = .returned (.bool true) ∧ w' = w := by
  have H0 : Hid (0 ≤ p) := h0
  have H1 : Hid (p < 18446744073709551616) := h1
  have H2 : Hid (0 ≤ x) := h2
  have H3 : Hid (x < 18446744073709551616) := h3
  clear h0 h1 h2 h3
  go_enter Tryd.func21, Tryd.ntmps21
  go_wp2_with (first
    | (go_at_call_has 17 p; refine (refKind_any p _ H0.out H1.out).mono ?_; rintro e w1 ⟨rfl, rfl⟩)
    | (go_at_call_has 17 x; refine (refKind_any x _ H2.out H3.out).mono ?_; rintro e w1 ⟨rfl, rfl⟩)
    | (go_at_call_has 27 p; refine (halves_any p _ H0.out H1.out).mono ?_; rintro e w1 ⟨rfl, rfl⟩)
    | (go_at_call_has 27 x; refine (halves_any x _ H2.out H3.out).mono ?_; rintro e w1 ⟨rfl, rfl⟩))
  go_ret
  exact ⟨rfl, rfl⟩
set_option maxHeartbeats 1000000 in
theorem rt_t_ft (p x : Int) (w : World) (h0 : 0 ≤ p) (h1 : p < 18446744073709551616) (h2 : 0 ≤ x) (h3 : x < 18446744073709551616) (kp : kindOf p = 4) (kx : kindOf x = 3) (c1 : (fA p == 0) = true) (c3 : (fB p == 0) = false) (c4 : (fB p == fB x) = true) :
    Calls Tryd.prog 21 #[.int .u64 p, .int .u64 x] w fun e w' => e = .returned (.bool true) ∧ w' = w := by
  have H0 : Hid (0 ≤ p) := h0
  have H1 : Hid (p < 18446744073709551616) := h1
  have H2 : Hid (0 ≤ x) := h2
  have H3 : Hid (x < 18446744073709551616) := h3
  clear h0 h1 h2 h3
  go_enter Tryd.func21, Tryd.ntmps21
  go_wp2_with (first
    | (go_at_call_has 17 p; refine (refKind_any p _ H0.out H1.out).mono ?_; rintro e w1 ⟨rfl, rfl⟩)
    | (go_at_call_has 17 x; refine (refKind_any x _ H2.out H3.out).mono ?_; rintro e w1 ⟨rfl, rfl⟩)
    | (go_at_call_has 27 p; refine (halves_any p _ H0.out H1.out).mono ?_; rintro e w1 ⟨rfl, rfl⟩)
    | (go_at_call_has 27 x; refine (halves_any x _ H2.out H3.out).mono ?_; rintro e w1 ⟨rfl, rfl⟩))
  go_ret
  exact ⟨rfl, rfl⟩
set_option maxHeartbeats 1000000 in
theorem rt_t_ff (p x : Int) (w : World) (h0 : 0 ≤ p) (h1 : p < 18446744073709551616) (h2 : 0 ≤ x) (h3 : x < 18446744073709551616) (kp : kindOf p = 4) (kx : kindOf x = 3) (c1 : (fA p == 0) = true) (c3 : (fB p == 0) = false) (c4 : (fB p == fB x) = false) :
    Calls Tryd.prog 21 #[.int .u64 p, .int .u64 x] w fun e w' => e = .returned (.bool false) ∧ w' = w := by
  have H0 : Hid (0 ≤ p) := h0
  have H1 : Hid (p < 18446744073709551616) := h1
  have H2 : Hid (0 ≤ x) := h2
  have H3 : Hid (x < 18446744073709551616) := h3
  clear h0 h1 h2 h3
  go_enter Tryd.func21, Tryd.ntmps21
  go_wp2_with (first
    | (go_at_call_has 17 p; refine (refKind_any p _ H0.out H1.out).mono ?_; rintro e w1 ⟨rfl, rfl⟩)
    | (go_at_call_has 17 x; refine (refKind_any x _ H2.out H3.out).mono ?_; rintro e w1 ⟨rfl, rfl⟩)
    | (go_at_call_has 27 p; refine (halves_any p _ H0.out H1.out).mono ?_; rintro e w1 ⟨rfl, rfl⟩)
    | (go_at_call_has 27 x; refine (halves_any x _ H2.out H3.out).mono ?_; rintro e w1 ⟨rfl, rfl⟩))
  go_ret
  exact ⟨rfl, rfl⟩
set_option maxHeartbeats 1000000 in
theorem rt_ft_t (p x : Int) (w : World) (h0 : 0 ≤ p) (h1 : p < 18446744073709551616) (h2 : 0 ≤ x) (h3 : x < 18446744073709551616) (kp : kindOf p = 4) (kx : kindOf x = 3) (c1 : (fA p == 0) = false) (c2 : (fA p == fA x) = true) (c3 : (fB p == 0) = true) :
    Calls Tryd.prog 21 #[.int .u64 p, .int .u64 x] w fun e w' => e = .returned (.bool true) ∧ w' = w := by
  have H0 : Hid (0 ≤ p) := h0
  have H1 : Hid (p < 18446744073709551616) := h1
  have H2 : Hid (0 ≤ x) := h2
  have H3 : Hid (x < 18446744073709551616) := h3
  clear h0 h1 h2 h3
  go_enter Tryd.func21, Tryd.ntmps21
  go_wp2_with (first
    | (go_at_call_has 17 p; refine (refKind_any p _ H0.out H1.out).mono ?_; rintro e w1 ⟨rfl, rfl⟩)
    | (go_at_call_has 17 x; refine (refKind_any x _ H2.out H3.out).mono ?_; rintro e w1 ⟨rfl, rfl⟩)
    | (go_at_call_has 27 p; refine (halves_any p _ H0.out H1.out).mono ?_; rintro e w1 ⟨rfl, rfl⟩)
    | (go_at_call_has 27 x; refine (halves_any x _ H2.out H3.out).mono ?_; rintro e w1 ⟨rfl, rfl⟩))
  go_ret
  exact ⟨rfl, rfl⟩
set_option maxHeartbeats 1000000 in
theorem rt_ft_ft (p x : Int) (w : World) (h0 : 0 ≤ p) (h1 : p < 18446744073709551616) (h2 : 0 ≤ x) (h3 : x < 18446744073709551616) (kp : kindOf p = 4) (kx : kindOf x = 3) (c1 : (fA p == 0) = false) (c2 : (fA p == fA x) = true) (c3 : (fB p == 0) = false) (c4 : (fB p == fB x) = true) :
    Calls Tryd.prog 21 #[.int .u64 p, .int .u64 x] w fun e w' => e = .returned (.bool true) ∧ w' = w := by
  have H0 : Hid (0 ≤ p) := h0
  have H1 : Hid (p < 18446744073709551616) := h1
  have H2 : Hid (0 ≤ x) := h2
  have H3 : Hid (x < 18446744073709551616) := h3
  clear h0 h1 h2 h3
  go_enter Tryd.func21, Tryd.ntmps21
  go_wp2_with (first
    | (go_at_call_has 17 p; refine (refKind_any p _ H0.out H1.out).mono ?_; rintro e w1 ⟨rfl, rfl⟩)
    | (go_at_call_has 17 x; refine (refKind_any x _ H2.out H3.out).mono ?_; rintro e w1 ⟨rfl, rfl⟩)
    | (go_at_call_has 27 p; refine (halves_any p _ H0.out H1.out).mono ?_; rintro e w1 ⟨rfl, rfl⟩)
    | (go_at_call_has 27 x; refine (halves_any x _ H2.out H3.out).mono ?_; rintro e w1 ⟨rfl, rfl⟩))
  go_ret
  exact ⟨rfl, rfl⟩
set_option maxHeartbeats 1000000 in
theorem rt_ft_ff (p x : Int) (w : World) (h0 : 0 ≤ p) (h1 : p < 18446744073709551616) (h2 : 0 ≤ x) (h3 : x < 18446744073709551616) (kp : kindOf p = 4) (kx : kindOf x = 3) (c1 : (fA p == 0) = false) (c2 : (fA p == fA x) = true) (c3 : (fB p == 0) = false) (c4 : (fB p == fB x) = false) :
    Calls Tryd.prog 21 #[.int .u64 p, .int .u64 x] w fun e w' => e = .returned (.bool false) ∧ w' = w := by
  have H0 : Hid (0 ≤ p) := h0
  have H1 : Hid (p < 18446744073709551616) := h1
  have H2 : Hid (0 ≤ x) := h2
  have H3 : Hid (x < 18446744073709551616) := h3
  clear h0 h1 h2 h3
  go_enter Tryd.func21, Tryd.ntmps21
  go_wp2_with (first
    | (go_at_call_has 17 p; refine (refKind_any p _ H0.out H1.out).mono ?_; rintro e w1 ⟨rfl, rfl⟩)
    | (go_at_call_has 17 x; refine (refKind_any x _ H2.out H3.out).mono ?_; rintro e w1 ⟨rfl, rfl⟩)
    | (go_at_call_has 27 p; refine (halves_any p _ H0.out H1.out).mono ?_; rintro e w1 ⟨rfl, rfl⟩)
    | (go_at_call_has 27 x; refine (halves_any x _ H2.out H3.out).mono ?_; rintro e w1 ⟨rfl, rfl⟩))
  go_ret
  exact ⟨rfl, rfl⟩

theorem refTakes_any (p x : Int) (w : World) (h0 : 0 ≤ p) (h1 : p < 18446744073709551616) (h2 : 0 ≤ x) (h3 : x < 18446744073709551616) :
    Calls Tryd.prog 21 #[.int .u64 p, .int .u64 x] w fun e w' => e = .returned (.bool (takesB p x)) ∧ w' = w := by
  by_cases kp : kindOf p = 4
  · have E : takesB p x = (kindOf x == 3 && coversB p x) := by unfold takesB; rw [kp]; rfl
    by_cases kx : kindOf x = 3
    · have E2 : takesB p x = ((fA p == 0 || fA p == fA x) && (fB p == 0 || fB p == fB x)) := by rw [E, kx]; rfl
      rw [E2]
      cases c1 : (fA p == 0)
      · cases c2 : (fA p == fA x)
        · exact rt_ff p x w h0 h1 h2 h3 kp kx c1 c2
        · cases c3 : (fB p == 0)
          · cases c4 : (fB p == fB x)
            · exact rt_ft_ff p x w h0 h1 h2 h3 kp kx c1 c2 c3 c4
            · exact rt_ft_ft p x w h0 h1 h2 h3 kp kx c1 c2 c3 c4
          · exact rt_ft_t p x w h0 h1 h2 h3 kp kx c1 c2 c3
      · cases c3 : (fB p == 0)
        · cases c4 : (fB p == fB x)
          · exact rt_t_ff p x w h0 h1 h2 h3 kp kx c1 c3 c4
          · exact rt_t_ft p x w h0 h1 h2 h3 kp kx c1 c3 c4
        · exact rt_t_t p x w h0 h1 h2 h3 kp kx c1 c3
    · have k : (kindOf x == 3) = false := by simp [kx]
      rw [E, k]
      exact rt_4n p x w h0 h1 h2 h3 kp k
  · have kl : kindOf p < 4 := by rcases kind_cases p with h | h | h | h | h <;> omega
    by_cases kx : kindOf x = 0
    · have E : takesB p x = false := by
        unfold takesB
        split
        · rfl
        · rename_i hp
          rw [beq_eq_false_iff_ne]
          intro e; subst e; exact hp kx
      rw [E]
      exact rt_lt0 p x w h0 h1 h2 h3 kl kx
    · have kl2 : 0 < kindOf x := by rcases kind_cases x with h | h | h | h | h <;> omega
      have E : takesB p x = (p == x) := by
        unfold takesB
        split
        · rename_i hp
          symm
          rw [beq_eq_false_iff_ne]
          intro e; subst e; exact kx hp
        · rfl
      rw [E]
      exact rt_lt1 p x w h0 h1 h2 h3 kl kl2

/-- a text of one digit -/
def byte1 (d : Nat) : ByteArray := ⟨#[UInt8.ofNat (48 + d)]⟩
theorem byte1_size (d : Nat) : (byte1 d).size = 1 := rfl
/-- The row of one byte that 'Digits' makes, read as a text. -/
theorem conv1 (w : World) (d : Nat) (hd : d < 10) (b : Nat) (hb : b = w.heap.size) :
    (convert 62 9 (.slice (some ⟨b, 0, none⟩) 1 1)).run Tryd.prog (w.alloc (.cells #[.int .u8 ((48 : Int) + d)] 5)) = .ok (.string (byte1 d)) (w.alloc (.cells #[.int .u8 ((48 : Int) + d)] 5)) := by
  subst hb
  have e : ((48 : Int) + d) = ((UInt8.ofNat (48 + d)).toNat : Int) := by rw [dig_toNat d hd]; omega
  rw [e]
  refine run_convert_bytes_back (P := Tryd.prog) _ 62 9 5 ⟨w.heap.size, 0, none⟩ 1 [UInt8.ofNat (48 + d)] Tryd.underlying62 Tryd.underlying5 Tryd.underlying9 ?_
  intro j hj
  have hj' : j = 0 := by simp at hj; exact hj
  subst hj'
  simp [Addr.add, go_sem]
theorem digS_step (n : Int) (h0 : 10 ≤ n) : digS n = digS (n / 10) ++ byte1 (n % 10).toNat := by
  apply byteArray_ext
  rw [digS_list n (by omega)]
  have a : (n / 10).toNat = n.toNat / 10 := by omega
  have b : (n % 10).toNat = n.toNat % 10 := by omega
  have c : (digS (n / 10) ++ byte1 (n % 10).toNat).data.toList = (digS (n / 10)).data.toList ++ (byte1 (n % 10).toNat).data.toList := by simp
  rw [c, digS_list (n / 10) (by omega)]
  unfold digL byte1
  rw [Lib.decDigits, dif_neg (by omega), a, b]
theorem digS_one (n : Int) (h0 : 0 ≤ n) (h1 : n < 10) : digS n = byte1 (n % 10).toNat := by
  apply byteArray_ext
  rw [digS_list n (by omega)]
  have b : (n % 10).toNat = n.toNat := by omega
  unfold digL byte1
  rw [Lib.decDigits, dif_pos (by omega), b]

theorem digits_any (u : Nat) : ∀ (n : Int) (w : World), n.toNat = u → 0 ≤ n → n < 1073741824 →
    Calls Tryd.prog 36 #[.int .i64 n] w fun e w' => e = .returned (.string (digS n)) ∧ Below w.heap.size w w' := by
  induction u using Nat.strongRecOn with
  | ind u ih =>
    intro n w hu h0 h1
    obtain ⟨d, hd⟩ : ∃ d : Nat, d = (n % 10).toNat := ⟨_, rfl⟩
    have hd10 : d < 10 := by omega
    have hde : (48 : Int) + n % 10 = 48 + (d : Int) := by omega
    have hc := conv1 w d hd10 w.heap.size rfl
    have hs1 := byte1_size d
    rw [← hde] at hc
    by_cases hl : n < 10
    · have E : Hid (digS n = byte1 d) := by rw [hd]; exact digS_one n h0 hl
      clear hd hde ih hu
      go_enter Tryd.func36, Tryd.ntmps36
      go_wp2
      go_ret
      exact ⟨by rw [E.out]; rfl, (Below.refl _ _).alloc (Nat.le_refl _) _⟩
    · have E : Hid (digS n = digS (n / 10) ++ byte1 d) := by rw [hd]; exact digS_step n (by omega)
      have R := ih (n / 10).toNat (by omega) (n / 10) (w.alloc (.cells #[.int .u8 (48 + n % 10)] 5)) rfl (by omega) (by omega)
      have sz := digS_size (n / 10) (by omega) (by omega)
      clear hd hde ih hu
      go_enter Tryd.func36, Tryd.ntmps36
      go_wp2_with (first | (go_at_call 36; refine R.mono ?_; rintro e w1 ⟨rfl, hb⟩))
      go_ret
      exact ⟨by rw [E.out]; rfl, below1 hb⟩

theorem one_any (n : Int) (w : World) (h0 : 0 ≤ n) (h1 : n < 1073741824) :
    Calls Tryd.prog 37 #[.int .i64 n] w fun e w' => e = .returned (.string (partS n)) ∧ Below w.heap.size w w' := by
  have E : Hid (partS n = if n = 0 then ⟨#[42]⟩ else digS n) := rfl
  by_cases c : n = 0
  · subst c
    go_enter Tryd.func37, Tryd.ntmps37
    go_wp2
    go_ret
    exact ⟨rfl, Below.refl _ _⟩
  · go_enter Tryd.func37, Tryd.ntmps37
    go_wp2_with (first | (go_at_call 36; refine (digits_any _ _ _ rfl h0 h1).mono ?_; rintro e w1 ⟨rfl, hb1⟩))
    go_ret
    exact ⟨by rw [E.out, if_neg c]; rfl, hb1⟩

set_option maxHeartbeats 2000000 in
theorem refText_any (x : Int) (w : World) (h0 : 0 ≤ x) (h1 : x < 18446744073709551616) (kx : kindOf x ≠ 0) :
    Calls Tryd.prog 19 #[.int .u64 x] w fun e w' => e = .returned (.string (textOf x)) ∧ Below w.heap.size w w' := by
  obtain ⟨⟨a0, a1⟩, b0, b1⟩ := p_bd x
  have E : Hid (textOf x = if kindOf x = 1 then ((⟨#[101]⟩ ++ digS (p1 x)) ++ ⟨#[46]⟩) ++ digS (p2 x) else if kindOf x = 2 then ⟨#[99]⟩ ++ digS (p1 x) else if kindOf x = 3 ∨ kindOf x = 4 then ((⟨#[112]⟩ ++ partS (p1 x)) ++ ⟨#[58]⟩) ++ partS (p2 x) else ⟨#[]⟩) := rfl
  have A0 : Hid (0 ≤ p1 x) := a0
  have A1 : Hid (p1 x < 1073741824) := a1
  have B0 : Hid (0 ≤ p2 x) := b0
  have B1 : Hid (p2 x < 1073741824) := b1
  have s1 := digS_size (p1 x) a0 a1
  have s2 := digS_size (p2 x) b0 b1
  have s3 := partS_size (p1 x) a0 a1
  have s4 := partS_size (p2 x) b0 b1
  have hB := Below.refl w.heap.size w
  clear a0 a1 b0 b1
  rcases kind_cases x with k | k | k | k | k
  case inl => exact absurd k kx
  case inr.inl =>
    clear s3 s4 kx
    go_enter Tryd.func19, Tryd.ntmps19
    go_wp2_with (first | (go_at_call 15; refine (refParts_any _ _ h0 h1).mono ?_; rintro e w1 ⟨rfl, rfl⟩) | (go_at_call 17; refine (refKind_any _ _ h0 h1).mono ?_; rintro e w2 ⟨rfl, rfl⟩) | (go_at_call_has 36 (p1 x); refine (digits_any _ _ _ rfl A0.out A1.out).mono ?_; rintro e w3 ⟨rfl, hb⟩; replace hB := bstep hB hb; clear hb) | (go_at_call_has 36 (p2 x); refine (digits_any _ _ _ rfl B0.out B1.out).mono ?_; rintro e w4 ⟨rfl, hb⟩; replace hB := bstep hB hb; clear hb))
    go_ret
    exact ⟨by rw [E.out, k]; rfl, hB⟩
  case inr.inr.inl =>
    clear s2 s3 s4 kx
    go_enter Tryd.func19, Tryd.ntmps19
    go_wp2_with (first | (go_at_call 15; refine (refParts_any _ _ h0 h1).mono ?_; rintro e w1 ⟨rfl, rfl⟩) | (go_at_call 17; refine (refKind_any _ _ h0 h1).mono ?_; rintro e w2 ⟨rfl, rfl⟩) | (go_at_call_has 36 (p1 x); refine (digits_any _ _ _ rfl A0.out A1.out).mono ?_; rintro e w3 ⟨rfl, hb⟩; replace hB := bstep hB hb; clear hb))
    go_ret
    exact ⟨by rw [E.out, k]; rfl, hB⟩
  all_goals
    clear s1 s2 kx
    go_enter Tryd.func19, Tryd.ntmps19
    go_wp2_with (first | (go_at_call 15; refine (refParts_any _ _ h0 h1).mono ?_; rintro e w1 ⟨rfl, rfl⟩) | (go_at_call 17; refine (refKind_any _ _ h0 h1).mono ?_; rintro e w2 ⟨rfl, rfl⟩) | (go_at_call_has 37 (p1 x); refine (one_any _ _ A0.out A1.out).mono ?_; rintro e w3 ⟨rfl, hb⟩; replace hB := bstep hB hb; clear hb) | (go_at_call_has 37 (p2 x); refine (one_any _ _ B0.out B1.out).mono ?_; rintro e w4 ⟨rfl, hb⟩; replace hB := bstep hB hb; clear hb))
    go_ret
    exact ⟨by rw [E.out, k]; rfl, hB⟩
end Go.Proofs.YtpamgcmjhfojeaaDoor
