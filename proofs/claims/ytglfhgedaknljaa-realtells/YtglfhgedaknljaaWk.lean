/- The law's own 'wakes'. -/
import Derived.Test.YtglfhgedaknljaaEn
namespace Go.Proofs.Ytglfhgedaknljaa
open Go.RowKit

theorem fw_made3 (w : World) (a b c : Int) (ha : W64 a) (hb : W64 b) (hc : W64 c) : Fw (w.alloc (.cells #[.int .u64 a, .int .u64 b, .int .u64 c] 26)) (some ⟨w.heap.size, 0, none⟩) [a, b, c] 3 := by
  refine ⟨fun _ => ⟨w.heap.size, 0, rfl, by simp, fun k hk => ?_⟩, Nat.le_refl _, fun x hx => ?_, by simp⟩
  · have hk' : k = 0 ∨ k = 1 ∨ k = 2 := by simp at hk; omega
    rcases hk' with rfl | rfl | rfl <;> (rw [World.cell?_alloc_at _ _ _ _ rfl]; rfl)
  · simp at hx; rcases hx with rfl | rfl | rfl <;> assumption
theorem fw_made2 (w : World) (a b : Int) (ha : W64 a) (hb : W64 b) : Fw (w.alloc (.cells #[.int .u64 a, .int .u64 b] 26)) (some ⟨w.heap.size, 0, none⟩) [a, b] 2 := by
  refine ⟨fun _ => ⟨w.heap.size, 0, rfl, by simp, fun k hk => ?_⟩, Nat.le_refl _, fun x hx => ?_, by simp⟩
  · have hk' : k = 0 ∨ k = 1 := by simp at hk; omega
    rcases hk' with rfl | rfl <;> (rw [World.cell?_alloc_at _ _ _ _ rfl]; rfl)
  · simp at hx; rcases hx with rfl | rfl <;> assumption
theorem fw_made1 (w : World) (a : Int) (ha : W64 a) : Fw (w.alloc (.cells #[.int .u64 a] 26)) (some ⟨w.heap.size, 0, none⟩) [a] 1 := by
  refine ⟨fun _ => ⟨w.heap.size, 0, rfl, by simp, fun k hk => ?_⟩, Nat.le_refl _, fun x hx => ?_, by simp⟩
  · have hk' : k = 0 := by simp at hk; omega
    subst hk'
    rw [World.cell?_alloc_at _ _ _ _ rfl]; rfl
  · simp at hx; subst hx; assumption
theorem fw_nil (w : World) : Fw w none [] 0 := ⟨IRow.nil, Nat.le_refl _, fun x hx => by simp at hx, by simp⟩
theorem bt {a b c : World} (h1 : Below a.heap.size a b) (h2 : Below b.heap.size b c) : Below a.heap.size a c := h1.trans (h2.mono h1.size)
theorem w64a : W64 9223372036854775808 := by unfold W64; omega
theorem w64b : W64 0 := by unfold W64; omega
theorem w64c : W64 9221120237041090560 := by unfold W64; omega
theorem w64d : W64 4607182418800017408 := by unfold W64; omega
theorem wN1 (w : World) : Calls Try.prog 13 #[.int .u64 9223372036854775808] w fun r w' => r = .returned (.tuple #[.int .u64 1, .int .i64 0]) ∧ w' = w := by
  have := next13_ok 9223372036854775808 w w64a (by decide) (by decide)
  rw [show nxW 9223372036854775808 = 1 by decide] at this
  exact this
theorem wE3 (w : World) : Calls Try.prog 21 #[.slice (some ⟨w.heap.size, 0, none⟩) 3 3] (w.alloc (.cells #[.int .u64 4607182418800017408, .int .u64 9221120237041090560, .int .u64 9223372036854775808] 26)) fun e w' => e = .returned (.tuple #[.int .u64 9223372036854775808, .int .u64 4607182418800017408, .int .i64 0]) ∧ Below w.heap.size w w' := by
  refine (ends21 _ [4607182418800017408, 9221120237041090560, 9223372036854775808] 3 _ (fw_made3 w _ _ _ w64d w64c w64a)).mono ?_
  rintro e w' ⟨rfl, hb⟩
  exact ⟨by rw [show enF [4607182418800017408, 9221120237041090560, 9223372036854775808] = some (9223372036854775808, 4607182418800017408) by decide]; rfl, below1 hb⟩
theorem wT1 (w : World) : Calls Try.prog 19 #[.int .i64 3, .int .u64 0, .int .u64 9223372036854775808] w fun e w' => e = .returned (.bool true) ∧ Below w.heap.size w w' := by
  have := test19 3 0 9223372036854775808 w w64b w64a
  rw [show tsW 3 0 9223372036854775808 = true by decide] at this
  exact this
theorem wT2 (w : World) : Calls Try.prog 19 #[.int .i64 3, .int .u64 9221120237041090560, .int .u64 9221120237041090560] w fun e w' => e = .returned (.bool false) ∧ Below w.heap.size w w' := by
  have := test19 3 9221120237041090560 9221120237041090560 w w64c w64c
  rw [show tsW 3 9221120237041090560 9221120237041090560 = false by decide] at this
  exact this
theorem wC (w : World) : Calls Try.prog 17 #[.int .u64 0, .int .u64 9223372036854775808] w fun e w' => e = .returned (.int .i64 1) ∧ w' = w := by
  have := compare17 0 9223372036854775808 w w64b w64a
  rw [show cmW 0 9223372036854775808 = 1 by decide] at this
  exact this
theorem wS (w : World) : Calls Try.prog 24 #[.slice (some ⟨w.heap.size, 0, none⟩) 2 2] (w.alloc (.cells #[.int .u64 4607182418800017408, .int .u64 4607182418800017408] 26)) fun e w' => e = .returned (.int .u64 4611686018427387904) ∧ Below w.heap.size w w' := by
  refine (sum24 _ [4607182418800017408, 4607182418800017408] 2 _ (fw_made2 w _ _ w64d w64d)).mono ?_
  rintro e w' ⟨r, _, rfl, hs, hb⟩
  exact ⟨by rw [hs.ones]; rfl, below1 hb⟩

set_option maxHeartbeats 2000000 in
set_option maxRecDepth 20000 in
theorem wakes8 (w : World) : Calls Try.prog 8 #[] w fun e w' => e = .returned (.bool true) ∧ Below w.heap.size w w' := by
  go_enter Try.func8, Try.ntmps8
  go_wp2_with (first
    | (go_at_call_has 13 (9223372036854775808 : Int); refine Calls.mono (wN1 _) ?_; rintro e w1 ⟨rfl, rfl⟩)
    | (go_at_call_has 13 (9218868437227405312 : Int); refine Calls.mono (next13_inf _) ?_; rintro e w1 ⟨rfl, rfl⟩)
    | (go_at_call 21; refine Calls.mono (wE3 _) ?_; rintro e w2 ⟨rfl, hb2⟩)
    | (go_at_call_has 19 (9223372036854775808 : Int); refine Calls.mono (wT1 _) ?_; rintro e w3 ⟨rfl, hb3⟩)
    | (go_at_call_has 19 (9221120237041090560 : Int); refine Calls.mono (wT2 _) ?_; rintro e w4 ⟨rfl, hb4⟩)
    | (go_at_call 17; refine Calls.mono (wC _) ?_; rintro e w1 ⟨rfl, rfl⟩)
    | (go_at_call 24; refine Calls.mono (wS _) ?_; rintro e w5 ⟨rfl, hb5⟩))
  go_ret
  exact ⟨rfl, bt hb2 (bt hb3 (bt hb4 hb5))⟩
end Go.Proofs.Ytglfhgedaknljaa
