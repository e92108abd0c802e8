/- Parts, Class, hasNumber, unsigned0, place, atPlace, cmp.Compare, Compare, Made, Next. -/
import Derived.Test.YtglfhgedaknljaaProg
import Derived.Test.YtglfhgedaknljaaPl
import Derived.WalkKit
import Derived.WalkSpells
import Derived.WalkSmall
import Derived.Below
import Derived.Sort.AtCall
import Derived.Deep.QuietTactic
import Derived.BigQuiet
namespace Go.Proofs.Ytglfhgedaknljaa
open Go.RowKit

theorem nat_not (a : Nat) (h : a < 2 ^ 64) : (2 ^ 64 - 1) ^^^ a = 2 ^ 64 - 1 - a := by
  apply Nat.eq_of_testBit_eq
  intro i
  have e : 2 ^ 64 - 1 - a = 2 ^ 64 - (a + 1) := by omega
  rw [e, Nat.testBit_two_pow_sub_succ h, Nat.testBit_xor, Nat.testBit_two_pow_sub_one]
  by_cases hi : i < 64
  · simp [hi]
  · have : a.testBit i = false := Nat.testBit_lt_two_pow (Nat.lt_of_lt_of_le h (Nat.pow_le_pow_right (by omega) (by omega)))
    simp [hi, this]
theorem not64 (a : Int) (h : W64 a) : bits .xor .u64 18446744073709551615 a = 18446744073709551615 - a := by
  obtain ⟨h0, h1⟩ := h
  rw [u64_xor 18446744073709551615 a (by omega) (by omega) h0 h1]
  have e : (18446744073709551615 : Int).toNat = 2 ^ 64 - 1 := by decide
  rw [e, nat_not _ (by omega)]; omega
theorem wrap64_small (n : Int) (h0 : 0 ≤ n) (h1 : n < 1073741824) : wrap64 n = n := by unfold wrap64; omega
theorem wrapu64_small (n : Int) (h0 : 0 ≤ n) (h1 : n < 18446744073709551616) : IntKind.u64.wrap n = n := by
  simp [IntKind.wrap, IntKind.bits, IntKind.signed]; omega

theorem parts10 (x : Int) (w : World) (h : W64 x) : Calls Try.prog 10 #[.int .u64 x] w fun e w' => e = .returned (.tuple #[.bool (ngW x), .int .i64 (exW x), .int .u64 (maW x)]) ∧ w' = w := by
  have e1 : Hid (bits .and .u64 (x / 4503599627370496) 2047 = exW x) := and11 x h
  have e2 : Hid (bits .and .u64 x 4503599627370495 = maW x) := and52 x h
  have e3 : Hid (wrap64 (exW x) = exW x) := wrap64_small _ (exW_bd x).1 (by have := exW_bd x; omega)
  have e4 : Hid ((x / 9223372036854775808 != 0) = ngW x) := by
    unfold Hid ngW; unfold W64 at h
    by_cases q : 9223372036854775808 ≤ x
    · have : ¬ x / 9223372036854775808 = 0 := by omega
      simp [q, this]
    · have : x / 9223372036854775808 = 0 := by omega
      simp [q, this]
  go_enter Try.func10, Try.ntmps10
  go_wp2
  rw [e1.out, e2.out, e3.out, e4.out]
  exact bodyPost_ret (v := .tuple #[.bool (ngW x), .int .i64 (exW x), .int .u64 (maW x)]) (by simp [results, Try.results10, go_sem]) rfl ⟨rfl, rfl⟩

theorem unsigned32 (x : Int) (w : World) : Calls Try.prog 32 #[.int .u64 x] w fun e w' => e = .returned (.int .u64 (unW x)) ∧ w' = w := by
  by_cases q : x = 9223372036854775808
  · subst q
    go_enter Try.func32, Try.ntmps32
    go_wp2
    go_ret
    exact ⟨by simp [unW], rfl⟩
  · have E : Hid (unW x = x) := if_neg q
    go_enter Try.func32, Try.ntmps32
    go_wp2
    go_ret
    exact ⟨by rw [E.out]; rfl, rfl⟩
theorem place34 (x : Int) (w : World) (h : W64 x) : Calls Try.prog 34 #[.int .u64 x] w fun e w' => e = .returned (.int .u64 (plW x)) ∧ w' = w := by
  by_cases q : 9223372036854775808 ≤ x
  · have q' : ¬ x / 9223372036854775808 = 0 := by unfold W64 at h; omega
    have E : Hid (bits .xor .u64 18446744073709551615 x = plW x) := by unfold Hid; rw [not64 x h]; simp [plW, q]
    go_enter Try.func34, Try.ntmps34
    go_wp2
    go_ret
    refine ⟨?_, rfl⟩
    rw [← E.out]; rfl
  · have q' : x / 9223372036854775808 = 0 := by unfold W64 at h; omega
    have E : Hid (bits .or .u64 x 9223372036854775808 = plW x) := by unfold Hid; rw [or63 x h.1 (by omega)]; simp [plW, q]
    go_enter Try.func34, Try.ntmps34
    go_wp2
    go_ret
    refine ⟨?_, rfl⟩
    rw [← E.out]; rfl
theorem atPlace33 (x : Int) (w : World) (h : W64 x) : Calls Try.prog 33 #[.int .u64 x] w fun e w' => e = .returned (.int .u64 (atW x)) ∧ w' = w := by
  by_cases q : 9223372036854775808 ≤ x
  · have q' : ¬ x / 9223372036854775808 = 0 := by unfold W64 at h; omega
    have E : Hid (bits .andNot .u64 x 9223372036854775808 = atW x) := by unfold Hid; rw [anot63 x h q]; simp [atW, q]
    go_enter Try.func33, Try.ntmps33
    go_wp2
    go_ret
    refine ⟨?_, rfl⟩
    rw [← E.out]; rfl
  · have q' : x / 9223372036854775808 = 0 := by unfold W64 at h; omega
    have E : Hid (bits .xor .u64 18446744073709551615 x = atW x) := by unfold Hid; rw [not64 x h]; simp [atW, q]
    go_enter Try.func33, Try.ntmps33
    go_wp2
    go_ret
    refine ⟨?_, rfl⟩
    rw [← E.out]; rfl
theorem nan47 (x : Int) (w : World) : Calls Try.prog 47 #[.int .u64 x] w fun e w' => e = .returned (.bool false) ∧ w' = w := by
  go_enter Try.func47, Try.ntmps47
  go_wp2
  go_ret
  exact ⟨rfl, rfl⟩
theorem cmp36 (x y : Int) (w : World) : Calls Try.prog 36 #[.int .u64 x, .int .u64 y] w fun e w' => e = .returned (.int .i64 (cmI x y)) ∧ w' = w := by
  unfold cmI
  by_cases h : x < y
  · rw [if_pos h]
    go_enter Try.func36, Try.ntmps36
    go_wp2_with (first | (go_at_call 47; refine (nan47 _ _).mono ?_; rintro e w1 ⟨rfl, rfl⟩))
    go_ret
    exact ⟨rfl, rfl⟩
  · rw [if_neg h]
    by_cases h' : y < x
    · rw [if_pos h']
      go_enter Try.func36, Try.ntmps36
      go_wp2_with (first | (go_at_call 47; refine (nan47 _ _).mono ?_; rintro e w1 ⟨rfl, rfl⟩))
      go_ret
      exact ⟨rfl, rfl⟩
    · rw [if_neg h']
      go_enter Try.func36, Try.ntmps36
      go_wp2_with (first | (go_at_call 47; refine (nan47 _ _).mono ?_; rintro e w1 ⟨rfl, rfl⟩))
      go_ret
      exact ⟨rfl, rfl⟩
theorem compare17 (a b : Int) (w : World) (ha : W64 a) (hb : W64 b) : Calls Try.prog 17 #[.int .u64 a, .int .u64 b] w fun e w' => e = .returned (.int .i64 (cmW a b)) ∧ w' = w := by
  go_enter Try.func17, Try.ntmps17
  go_wp2_with (first | (go_at_call 34; refine Calls.mono (place34 _ _ (by assumption)) ?_; rintro e w1 ⟨rfl, rfl⟩) | (go_at_call 36; refine (cmp36 _ _ _).mono ?_; rintro e w1 ⟨rfl, rfl⟩))
  go_ret
  exact ⟨rfl, rfl⟩


theorem class16 (x : Int) (w : World) (h : W64 x) : Calls Try.prog 16 #[.int .u64 x] w fun e w' => e = .returned (.int .i64 (clW x)) ∧ w' = w := by
  have PP := fun (W : World) => parts10 x W h
  obtain ⟨a, ea⟩ : ∃ a, a = ngW x := ⟨_, rfl⟩
  obtain ⟨b, eb⟩ : ∃ b, b = exW x := ⟨_, rfl⟩
  obtain ⟨c, ec⟩ : ∃ c, c = maW x := ⟨_, rfl⟩
  unfold clW
  rw [← eb, ← ec]
  rw [← ea, ← eb, ← ec] at PP
  clear ea eb ec
  by_cases q1 : b = 2047
  · subst q1
    by_cases q2 : c = 0
    · subst q2
      go_enter Try.func16, Try.ntmps16
      go_wp2_with (first | (go_at_call 10; refine (PP _).mono ?_; rintro e w1 ⟨rfl, rfl⟩))
      go_ret
      exact ⟨rfl, rfl⟩
    · rw [if_pos rfl, if_neg q2]
      go_enter Try.func16, Try.ntmps16
      go_wp2_with (first | (go_at_call 10; refine (PP _).mono ?_; rintro e w1 ⟨rfl, rfl⟩))
      go_ret
      exact ⟨rfl, rfl⟩
  · rw [if_neg q1]
    by_cases q3 : b = 0
    · subst q3
      by_cases q2 : c = 0
      · subst q2
        go_enter Try.func16, Try.ntmps16
        go_wp2_with (first | (go_at_call 10; refine (PP _).mono ?_; rintro e w1 ⟨rfl, rfl⟩))
        go_ret
        exact ⟨rfl, rfl⟩
      · rw [if_pos rfl, if_neg q2]
        go_enter Try.func16, Try.ntmps16
        go_wp2_with (first | (go_at_call 10; refine (PP _).mono ?_; rintro e w1 ⟨rfl, rfl⟩))
        go_ret
        exact ⟨rfl, rfl⟩
    · rw [if_neg q3]
      go_enter Try.func16, Try.ntmps16
      go_wp2_with (first | (go_at_call 10; refine (PP _).mono ?_; rintro e w1 ⟨rfl, rfl⟩))
      go_ret
      exact ⟨rfl, rfl⟩
theorem has31 (x : Int) (w : World) (h : W64 x) : Calls Try.prog 31 #[.int .u64 x] w fun e w' => e = .returned (.bool (nuW x)) ∧ w' = w := by
  have E : Hid ((clW x != 4) = nuW x) := by unfold Hid nuW; by_cases q : clW x = 4 <;> simp [q]
  go_enter Try.func31, Try.ntmps31
  go_wp2_with (first | (go_at_call 16; refine Calls.mono (class16 _ _ h) ?_; rintro e w1 ⟨rfl, rfl⟩))
  go_ret
  refine ⟨?_, rfl⟩
  rw [← E.out]; rfl
theorem made12_no (b : Bool) (e m : Int) (w : World) (h : maOk e m = false) : Calls Try.prog 12 #[.bool b, .int .i64 e, .int .u64 m] w fun r w' => r = .returned (.tuple #[.int .u64 0, .int .i64 2]) ∧ w' = w := by
  by_cases q1 : e < 0
  · go_enter Try.func12, Try.ntmps12
    go_wp2
    exact bodyPost_ret (v := .tuple #[.int .u64 0, .int .i64 2]) (by simp [results, Try.results12, go_sem]) rfl ⟨rfl, rfl⟩
  · by_cases q2 : 2047 < e
    · go_enter Try.func12, Try.ntmps12
      go_wp2
      exact bodyPost_ret (v := .tuple #[.int .u64 0, .int .i64 2]) (by simp [results, Try.results12, go_sem]) rfl ⟨rfl, rfl⟩
    · have q3 : 4503599627370495 < m := by simp [maOk] at h; have := h (by omega) (by omega); omega
      clear h
      go_enter Try.func12, Try.ntmps12
      go_wp2
      exact bodyPost_ret (v := .tuple #[.int .u64 0, .int .i64 2]) (by simp [results, Try.results12, go_sem]) rfl ⟨rfl, rfl⟩
theorem made12 (b : Bool) (e m : Int) (w : World) (hm : 0 ≤ m) (h : maOk e m = true) : Calls Try.prog 12 #[.bool b, .int .i64 e, .int .u64 m] w fun r w' => r = .returned (.tuple #[.int .u64 (mdW b e m), .int .i64 0]) ∧ w' = w := by
  have q1 : ¬ e < 0 := by simp [maOk] at h; omega
  have q2 : ¬ 2047 < e := by simp [maOk] at h; omega
  have q3 : ¬ 4503599627370495 < m := by simp [maOk] at h; omega
  have E1 : Hid (bits .or .u64 (e * 4503599627370496) m = e * 4503599627370496 + m) := or52 e m (by omega) (by omega) hm (by omega)
  have E2 : Hid (bits .or .u64 (e * 4503599627370496 + m) 9223372036854775808 = e * 4503599627370496 + m + 9223372036854775808) := or63 _ (by omega) (by omega)
  have E3 : Hid (IntKind.u64.wrap e = e) := wrapu64_small _ (by omega) (by omega)
  have E4 : Hid (IntKind.u64.wrap (e * 4503599627370496) = e * 4503599627370496) := wrapu64_small _ (by omega) (by omega)
  have F1 : Hid (mdW true e m = e * 4503599627370496 + m + 9223372036854775808) := by unfold Hid mdW; simp; omega
  have F2 : Hid (mdW false e m = e * 4503599627370496 + m) := by unfold Hid mdW; simp
  clear h
  cases b
  · rw [F2.out]
    go_enter Try.func12, Try.ntmps12
    go_wp2
    rw [E1.out]
    exact bodyPost_ret (v := .tuple #[.int .u64 (e * 4503599627370496 + m), .int .i64 0]) (by simp [results, Try.results12, go_sem]) rfl ⟨rfl, rfl⟩
  · rw [F1.out]
    go_enter Try.func12, Try.ntmps12
    go_wp2
    rw [E1.out, E2.out]
    exact bodyPost_ret (v := .tuple #[.int .u64 (e * 4503599627370496 + m + 9223372036854775808), .int .i64 0]) (by simp [results, Try.results12, go_sem]) rfl ⟨rfl, rfl⟩
theorem next13_arg (x : Int) (w : World) (h : W64 x) (hn : nuW x = false) : Calls Try.prog 13 #[.int .u64 x] w fun r w' => r = .returned (.tuple #[.int .u64 0, .int .i64 2]) ∧ w' = w := by
  have HH := fun (W : World) => has31 x W h
  rw [hn] at HH
  go_enter Try.func13, Try.ntmps13
  go_wp2_with (first | (go_at_call 31; refine (HH _).mono ?_; rintro e w1 ⟨rfl, rfl⟩))
  exact bodyPost_ret (v := .tuple #[.int .u64 0, .int .i64 2]) (by simp [results, Try.results13, go_sem]) rfl ⟨rfl, rfl⟩
theorem next13_inf (w : World) : Calls Try.prog 13 #[.int .u64 9218868437227405312] w fun r w' => r = .returned (.tuple #[.int .u64 0, .int .i64 4]) ∧ w' = w := by
  have HH := fun (W : World) => has31 9218868437227405312 W (by unfold W64; omega)
  rw [show nuW 9218868437227405312 = true by decide] at HH
  go_enter Try.func13, Try.ntmps13
  go_wp2_with (first | (go_at_call 31; refine (HH _).mono ?_; rintro e w1 ⟨rfl, rfl⟩))
  exact bodyPost_ret (v := .tuple #[.int .u64 0, .int .i64 4]) (by simp [results, Try.results13, go_sem]) rfl ⟨rfl, rfl⟩
theorem next_room {x : Int} (h : W64 x) (hn : nuW x = true) : W64 (plW (unW x) + 1) := by
  have := nuW_t h hn
  unfold W64 plW unW at *
  split <;> split <;> omega
theorem next13_ok (x : Int) (w : World) (h : W64 x) (hn : nuW x = true) (hi : x ≠ 9218868437227405312) : Calls Try.prog 13 #[.int .u64 x] w fun r w' => r = .returned (.tuple #[.int .u64 (nxW x), .int .i64 0]) ∧ w' = w := by
  have HH := fun (W : World) => has31 x W h
  rw [hn] at HH
  have hr := next_room h hn
  have EW : Hid (IntKind.u64.wrap (plW (unW x) + 1) = plW (unW x) + 1) := wrapu64_small _ hr.1 hr.2
  have EW2 : Hid ((plW (unW x) + 1) % 18446744073709551616 = plW (unW x) + 1) := by unfold Hid; unfold W64 at hr; omega
  have hu := unW_64 h
  unfold nxW
  clear hn
  go_enter Try.func13, Try.ntmps13
  go_wp2_with (first | (go_at_call 31; refine (HH _).mono ?_; rintro e w1 ⟨rfl, rfl⟩) | (go_at_call 32; refine (unsigned32 _ _).mono ?_; rintro e w1 ⟨rfl, rfl⟩) | (go_at_call 34; refine Calls.mono (place34 _ _ hu) ?_; rintro e w1 ⟨rfl, rfl⟩) | (first | rw [EW.out] | rw [EW2.out]) | (go_at_call 33; refine Calls.mono (atPlace33 _ _ hr) ?_; rintro e w1 ⟨rfl, rfl⟩))
  exact bodyPost_ret (v := .tuple #[.int .u64 (unW (atW (plW (unW x) + 1))), .int .i64 0]) (by simp [results, Try.results13, go_sem]) rfl ⟨rfl, rfl⟩
end Go.Proofs.Ytglfhgedaknljaa
