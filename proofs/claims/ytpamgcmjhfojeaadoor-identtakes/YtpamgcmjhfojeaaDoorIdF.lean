/- Contracts of ident.Parts, ident.covers, ident.Takes. -/
import Derived.Test.YtpamgcmjhfojeaaDoorIdD
import Derived.Test.YtpamgcmjhfojeaaDoorIdE
import Derived.WalkSmall
import Derived.Sort.AtCall
namespace Go.Proofs.YtpamgcmjhfojeaaDoor
open Go.RowKit

def p1 (x : Int) : Int := if kindOf x = 1 ∨ kindOf x = 2 then fB x else if kindOf x = 3 ∨ kindOf x = 4 then fA x else 0
def p2 (x : Int) : Int := if kindOf x = 1 ∨ kindOf x = 2 then fA x else if kindOf x = 3 ∨ kindOf x = 4 then fB x else 0
def cov1 (a b : Int) : Bool := a == 0 || a == b
def coversB (p x : Int) : Bool := cov1 (fA p) (fA x) && cov1 (fB p) (fB x)
def takesB (p x : Int) : Bool := if kindOf p = 0 then false else if kindOf p = 4 then (kindOf x == 3 && coversB p x) else p == x

theorem kind_cases (x : Int) : kindOf x = 0 ∨ kindOf x = 1 ∨ kindOf x = 2 ∨ kindOf x = 3 ∨ kindOf x = 4 := by
  unfold kindOf
  cases isEnt x <;> cases isCom x <;> cases isPai x <;> cases isPat x <;> decide

theorem below_drewN' {B : Nat} {a w : World} (h : Below B a w) (n : Nat) : Below B a (w.drewN n) := ⟨h.os, h.tape, h.output, h.size, h.block⟩

set_option maxHeartbeats 1000000 in
theorem parts_any (x : Int) (w : World) (h0 : 0 ≤ x) (h1 : x < 18446744073709551616) :
    Calls Tryd.prog 14 #[.int .u64 x] w fun e w' => e = .returned (.tuple #[.int .i64 (p1 x), .int .i64 (p2 x)]) ∧ Below w.heap.size w w' := by
  have E1 : Hid (p1 x = if kindOf x = 1 ∨ kindOf x = 2 then fB x else if kindOf x = 3 ∨ kindOf x = 4 then fA x else 0) := rfl
  have E2 : Hid (p2 x = if kindOf x = 1 ∨ kindOf x = 2 then fA x else if kindOf x = 3 ∨ kindOf x = 4 then fB x else 0) := rfl
  rcases kind_cases x with k | k | k | k | k
  · go_enter Tryd.func14, Tryd.ntmps14
    go_wp2_with (first | (go_at_call 26; refine (split_any _ _ h0 h1).mono ?_; rintro e w1 ⟨rfl, hb1⟩) | (go_at_call 18; refine (kind_any _ _ h0 h1).mono ?_; rintro e w2 ⟨rfl, hb2⟩))
    go_ret2
    exact ⟨by rw [E1.out, E2.out, k]; rfl, hb1.trans ((below1 hb2).mono hb1.size)⟩
  all_goals
    go_enter Tryd.func14, Tryd.ntmps14
    go_wp2_with (first | (go_at_call 26; refine (split_any _ _ h0 h1).mono ?_; rintro e w1 ⟨rfl, hb1⟩) | (go_at_call 18; refine (kind_any _ _ h0 h1).mono ?_; rintro e w2 ⟨rfl, hb2⟩))
    have hB : Below w.heap.size w w2 := hb1.trans ((below1 hb2).mono hb1.size)
    have hc : w2.cell? ⟨w1.heap.size, 1, none⟩ = some (.int .i64 (fA x)) := by rw [hb2.cell (by simp)]; simp [go_sem]
    have hd : w2.cell? ⟨w1.heap.size, 3, none⟩ = some (.int .i64 (fB x)) := by rw [hb2.cell (by simp)]; simp [go_sem]
    clear hb1 hb2
    go_quiet (fail)
    go_wp2
    go_ret2
    exact ⟨by rw [E1.out, E2.out, k]; rfl, below_drewN' hB _⟩

set_option maxHeartbeats 2000000 in
theorem cov_ff (p x : Int) (w : World) (h0 : 0 ≤ p) (h1 : p < 18446744073709551616) (h2 : 0 ≤ x) (h3 : x < 18446744073709551616) (c1 : (fA p == 0) = false) (c2 : (fA p == fA x) = false) :
    Calls Tryd.prog 38 #[.int .u64 p, .int .u64 x] w fun e w' => e = .returned (.bool (coversB p x)) ∧ Below w.heap.size w w' := by
  have E : Hid (coversB p x = ((fA p == 0 || fA p == fA x) && (fB p == 0 || fB p == fB x))) := rfl
  go_enter Tryd.func38, Tryd.ntmps38
  go_wp2_with (first | (go_at_call_has 26 p; refine (split_any p _ h0 h1).mono ?_; rintro e w1 ⟨rfl, hb1⟩) | (go_at_call_has 26 x; refine (split_any x _ h2 h3).mono ?_; rintro e w2 ⟨rfl, hb2⟩))
  go_ret
  exact ⟨by rw [E.out, c1, c2]; rfl, ((hb1.trans (hb2.mono hb1.size)).alloc (by have := hb1.size; have := hb2.size; omega) _).alloc (by have := hb1.size; have := hb2.size; simp; omega) _⟩
set_option maxHeartbeats 2000000 in
theorem cov_t_t (p x : Int) (w : World) (h0 : 0 ≤ p) (h1 : p < 18446744073709551616) (h2 : 0 ≤ x) (h3 : x < 18446744073709551616) (c1 : (fA p == 0) = true) (c3 : (fB p == 0) = true) :
    Calls Tryd.prog 38 #[.int .u64 p, .int .u64 x] w fun e w' => e = .returned (.bool (coversB p x)) ∧ Below w.heap.size w w' := by
  have E : Hid (coversB p x = ((fA p == 0 || fA p == fA x) && (fB p == 0 || fB p == fB x))) := rfl
  go_enter Tryd.func38, Tryd.ntmps38
  go_wp2_with (first | (go_at_call_has 26 p; refine (split_any p _ h0 h1).mono ?_; rintro e w1 ⟨rfl, hb1⟩) | (go_at_call_has 26 x; refine (split_any x _ h2 h3).mono ?_; rintro e w2 ⟨rfl, hb2⟩))
  go_ret
  exact ⟨by rw [E.out, c1, c3]; rfl, ((hb1.trans (hb2.mono hb1.size)).alloc (by have := hb1.size; have := hb2.size; omega) _).alloc (by have := hb1.size; have := hb2.size; simp; omega) _⟩
set_option maxHeartbeats 2000000 in
theorem cov_t_ft (p x : Int) (w : World) (h0 : 0 ≤ p) (h1 : p < 18446744073709551616) (h2 : 0 ≤ x) (h3 : x < 18446744073709551616) (c1 : (fA p == 0) = true) (c3 : (fB p == 0) = false) (c4 : (fB p == fB x) = true) :
    Calls Tryd.prog 38 #[.int .u64 p, .int .u64 x] w fun e w' => e = .returned (.bool (coversB p x)) ∧ Below w.heap.size w w' := by
  have E : Hid (coversB p x = ((fA p == 0 || fA p == fA x) && (fB p == 0 || fB p == fB x))) := rfl
  go_enter Tryd.func38, Tryd.ntmps38
  go_wp2_with (first | (go_at_call_has 26 p; refine (split_any p _ h0 h1).mono ?_; rintro e w1 ⟨rfl, hb1⟩) | (go_at_call_has 26 x; refine (split_any x _ h2 h3).mono ?_; rintro e w2 ⟨rfl, hb2⟩))
  go_ret
  exact ⟨by rw [E.out, c1, c3, c4]; rfl, ((hb1.trans (hb2.mono hb1.size)).alloc (by have := hb1.size; have := hb2.size; omega) _).alloc (by have := hb1.size; have := hb2.size; simp; omega) _⟩
set_option maxHeartbeats 2000000 in
theorem cov_t_ff (p x : Int) (w : World) (h0 : 0 ≤ p) (h1 : p < 18446744073709551616) (h2 : 0 ≤ x) (h3 : x < 18446744073709551616) (c1 : (fA p == 0) = true) (c3 : (fB p == 0) = false) (c4 : (fB p == fB x) = false) :
    Calls Tryd.prog 38 #[.int .u64 p, .int .u64 x] w fun e w' => e = .returned (.bool (coversB p x)) ∧ Below w.heap.size w w' := by
  have E : Hid (coversB p x = ((fA p == 0 || fA p == fA x) && (fB p == 0 || fB p == fB x))) := rfl
  go_enter Tryd.func38, Tryd.ntmps38
  go_wp2_with (first | (go_at_call_has 26 p; refine (split_any p _ h0 h1).mono ?_; rintro e w1 ⟨rfl, hb1⟩) | (go_at_call_has 26 x; refine (split_any x _ h2 h3).mono ?_; rintro e w2 ⟨rfl, hb2⟩))
  go_ret
  exact ⟨by rw [E.out, c1, c3, c4]; rfl, ((hb1.trans (hb2.mono hb1.size)).alloc (by have := hb1.size; have := hb2.size; omega) _).alloc (by have := hb1.size; have := hb2.size; simp; omega) _⟩
set_option maxHeartbeats 2000000 in
theorem cov_ft_t (p x : Int) (w : World) (h0 : 0 ≤ p) (h1 : p < 18446744073709551616) (h2 : 0 ≤ x) (h3 : x < 18446744073709551616) (c1 : (fA p == 0) = false) (c2 : (fA p == fA x) = true) (c3 : (fB p == 0) = true) :
    Calls Tryd.prog 38 #[.int .u64 p, .int .u64 x] w fun e w' => e = .returned (.bool (coversB p x)) ∧ Below w.heap.size w w' := by
  have E : Hid (coversB p x = ((fA p == 0 || fA p == fA x) && (fB p == 0 || fB p == fB x))) := rfl
  go_enter Tryd.func38, Tryd.ntmps38
  go_wp2_with (first | (go_at_call_has 26 p; refine (split_any p _ h0 h1).mono ?_; rintro e w1 ⟨rfl, hb1⟩) | (go_at_call_has 26 x; refine (split_any x _ h2 h3).mono ?_; rintro e w2 ⟨rfl, hb2⟩))
  go_ret
  exact ⟨by rw [E.out, c1, c2, c3]; rfl, ((hb1.trans (hb2.mono hb1.size)).alloc (by have := hb1.size; have := hb2.size; omega) _).alloc (by have := hb1.size; have := hb2.size; simp; omega) _⟩
set_option maxHeartbeats 2000000 in
theorem cov_ft_ft (p x : Int) (w : World) (h0 : 0 ≤ p) (h1 : p < 18446744073709551616) (h2 : 0 ≤ x) (h3 : x < 18446744073709551616) (c1 : (fA p == 0) = false) (c2 : (fA p == fA x) = true) (c3 : (fB p == 0) = false) (c4 : (fB p == fB x) = true) :
    Calls Tryd.prog 38 #[.int .u64 p, .int .u64 x] w fun e w' => e = .returned (.bool (coversB p x)) ∧ Below w.heap.size w w' := by
  have E : Hid (coversB p x = ((fA p == 0 || fA p == fA x) && (fB p == 0 || fB p == fB x))) := rfl
  go_enter Tryd.func38, Tryd.ntmps38
  go_wp2_with (first | (go_at_call_has 26 p; refine (split_any p _ h0 h1).mono ?_; rintro e w1 ⟨rfl, hb1⟩) | (go_at_call_has 26 x; refine (split_any x _ h2 h3).mono ?_; rintro e w2 ⟨rfl, hb2⟩))
  go_ret
  exact ⟨by rw [E.out, c1, c2, c3, c4]; rfl, ((hb1.trans (hb2.mono hb1.size)).alloc (by have := hb1.size; have := hb2.size; omega) _).alloc (by have := hb1.size; have := hb2.size; simp; omega) _⟩
set_option maxHeartbeats 2000000 in
theorem cov_ft_ff (p x : Int) (w : World) (h0 : 0 ≤ p) (h1 : p < 18446744073709551616) (h2 : 0 ≤ x) (h3 : x < 18446744073709551616) (c1 : (fA p == 0) = false) (c2 : (fA p == fA x) = true) (c3 : (fB p == 0) = false) (c4 : (fB p == fB x) = false) :
    Calls Tryd.prog 38 #[.int .u64 p, .int .u64 x] w fun e w' => e = .returned (.bool (coversB p x)) ∧ Below w.heap.size w w' := by
  have E : Hid (coversB p x = ((fA p == 0 || fA p == fA x) && (fB p == 0 || fB p == fB x))) := rfl
  go_enter Tryd.func38, Tryd.ntmps38
  go_wp2_with (first | (go_at_call_has 26 p; refine (split_any p _ h0 h1).mono ?_; rintro e w1 ⟨rfl, hb1⟩) | (go_at_call_has 26 x; refine (split_any x _ h2 h3).mono ?_; rintro e w2 ⟨rfl, hb2⟩))
  go_ret
  exact ⟨by rw [E.out, c1, c2, c3, c4]; rfl, ((hb1.trans (hb2.mono hb1.size)).alloc (by have := hb1.size; have := hb2.size; omega) _).alloc (by have := hb1.size; have := hb2.size; simp; omega) _⟩
theorem covers_any (p x : Int) (w : World) (h0 : 0 ≤ p) (h1 : p < 18446744073709551616) (h2 : 0 ≤ x) (h3 : x < 18446744073709551616) :
    Calls Tryd.prog 38 #[.int .u64 p, .int .u64 x] w fun e w' => e = .returned (.bool (coversB p x)) ∧ Below w.heap.size w w' := by
  cases c1 : (fA p == 0)
  · cases c2 : (fA p == fA x)
    · exact cov_ff p x w h0 h1 h2 h3 c1 c2
    · cases c3 : (fB p == 0)
      · cases c4 : (fB p == fB x)
        · exact cov_ft_ff p x w h0 h1 h2 h3 c1 c2 c3 c4
        · exact cov_ft_ft p x w h0 h1 h2 h3 c1 c2 c3 c4
      · exact cov_ft_t p x w h0 h1 h2 h3 c1 c2 c3
  · cases c3 : (fB p == 0)
    · cases c4 : (fB p == fB x)
      · exact cov_t_ff p x w h0 h1 h2 h3 c1 c3 c4
      · exact cov_t_ft p x w h0 h1 h2 h3 c1 c3 c4
    · exact cov_t_t p x w h0 h1 h2 h3 c1 c3

set_option maxHeartbeats 1000000 in
theorem takes_any (p x : Int) (w : World) (h0 : 0 ≤ p) (h1 : p < 18446744073709551616) (h2 : 0 ≤ x) (h3 : x < 18446744073709551616) :
    Calls Tryd.prog 20 #[.int .u64 p, .int .u64 x] w fun e w' => e = .returned (.bool (takesB p x)) ∧ Below w.heap.size w w' := by
  have E : Hid (takesB p x = if kindOf p = 0 then false else if kindOf p = 4 then (kindOf x == 3 && coversB p x) else p == x) := rfl
  rcases kind_cases p with k | k | k | k | k
  case inr.inr.inr.inr =>
    cases c : (kindOf x == 3)
    · go_enter Tryd.func20, Tryd.ntmps20
      go_wp2_with (first | (go_at_call_has 18 p; refine (kind_any p _ h0 h1).mono ?_; rintro e w1 ⟨rfl, hb1⟩) | (go_at_call_has 18 x; refine (kind_any x _ h2 h3).mono ?_; rintro e w2 ⟨rfl, hb2⟩))
      go_ret
      exact ⟨by rw [E.out, k, c]; rfl, hb1.trans (hb2.mono hb1.size)⟩
    · go_enter Tryd.func20, Tryd.ntmps20
      go_wp2_with (first | (go_at_call_has 18 p; refine (kind_any p _ h0 h1).mono ?_; rintro e w1 ⟨rfl, hb1⟩) | (go_at_call_has 18 x; refine (kind_any x _ h2 h3).mono ?_; rintro e w2 ⟨rfl, hb2⟩) | (go_at_call 38; refine (covers_any p x _ h0 h1 h2 h3).mono ?_; rintro e w3 ⟨rfl, hb3⟩))
      go_ret
      exact ⟨by rw [E.out, k, c]; rfl, (hb1.trans (hb2.mono hb1.size)).trans (hb3.mono (Nat.le_trans hb1.size hb2.size))⟩
  all_goals
    go_enter Tryd.func20, Tryd.ntmps20
    go_wp2_with (first | (go_at_call_has 18 p; refine (kind_any p _ h0 h1).mono ?_; rintro e w1 ⟨rfl, hb1⟩))
    go_ret
    exact ⟨by rw [E.out, k]; rfl, hb1⟩
end Go.Proofs.YtpamgcmjhfojeaaDoor
