/- RealNext: its walk. -/
import Derived.Test.YtglfhgedaknljaaWk
namespace Go.Proofs.Ytglfhgedaknljaa
open Go.RowKit

theorem nuW_mk {x : Int} (h : W64 x) (hn : x ≤ 9218868437227405312 ∨ (9223372036854775808 ≤ x ∧ x ≤ 18442240474082181120)) : nuW x = true := (nuW_iff h).2 hn
theorem nx_facts {x : Int} (h : W64 x) (hn : nuW x = true) (hi : x ≠ 9218868437227405312) :
    W64 (nxW x) ∧ nuW (nxW x) = true ∧ plW (unW x) < plW (unW (nxW x)) ∧ ∀ y, W64 y → ¬ (plW (unW x) < plW (unW y) ∧ plW (unW y) < plW (unW (nxW x))) := by
  have hb := nuW_t h hn
  have e : (x = 0 ∨ x = 9223372036854775808) ∧ nxW x = 1 ∨ (0 < x ∧ x < 9218868437227405312) ∧ nxW x = x + 1 ∨ x = 9223372036854775809 ∧ nxW x = 0 ∨ (9223372036854775809 < x ∧ x ≤ 18442240474082181120) ∧ nxW x = x - 1 := by
    unfold nxW plW unW atW W64 at *
    (repeat' split) <;> omega
  rcases e with ⟨h1, e⟩ | ⟨h1, e⟩ | ⟨h1, e⟩ | ⟨h1, e⟩
  all_goals
    rw [e]
    refine ⟨by unfold W64; omega, nuW_mk (by unfold W64; omega) (by omega), ?_, fun y hy => ?_⟩
    · unfold plW unW; (repeat' split) <;> omega
    · unfold plW unW; unfold W64 at hy; (repeat' split) <;> omega
theorem nx_more {x : Int} (h : W64 x) (hn : nuW x = true) (hi : x ≠ 9218868437227405312) : tsW 2 (nxW x) x = true := by
  have := nx_facts h hn hi
  rw [ts2]; simp [hn, this]
theorem nx_betw {x y : Int} (h : W64 x) (hy : W64 y) (hn : nuW x = true) (hi : x ≠ 9218868437227405312) (ht : tsW 2 y x = true) : tsW 1 y (nxW x) = false := by
  have := (nx_facts h hn hi).2.2.2 y hy
  rw [ts2] at ht
  rw [ts1]
  simp at ht
  cases h' : decide (plW (unW y) < plW (unW (nxW x)))
  · simp
  · exact absurd ⟨ht.2, of_decide_eq_true h'⟩ this

set_option maxRecDepth 20000 in
theorem next_walk (a y : Int) (w : World) (ha : W64 a) (hy : W64 y) : Calls Try.prog 6 #[.int .u64 a, .int .u64 y] w fun e w' => e = .returned (.bool true) ∧ Below w.heap.size w w' := by
  have CL := fun (W : World) => class16 a W ha
  cases hn : nuW a
  · have NX := fun (W : World) => next13_arg a W ha hn
    have hc : clW a = 4 := by unfold nuW at hn; simpa using hn
    rw [hc] at CL
    clear hn hc
    go_enter Try.func6, Try.ntmps6
    go_wp2_with (first | (go_at_call 8; refine Calls.mono (wakes8 _) ?_; rintro e w1 ⟨rfl, hb1⟩) | (go_at_call 13; refine Calls.mono (NX _) ?_; rintro e w2 ⟨rfl, hw⟩; rw [hw]; clear hw w2) | (go_at_call 16; refine Calls.mono (CL _) ?_; rintro e w2 ⟨rfl, hw⟩; rw [hw]; clear hw w2))
    go_ret
    exact ⟨rfl, hb1⟩
  · by_cases hi : a = 9218868437227405312
    · subst hi
      rw [show clW 9218868437227405312 = 3 by decide] at CL
      go_enter Try.func6, Try.ntmps6
      go_wp2_with (first | (go_at_call 8; refine Calls.mono (wakes8 _) ?_; rintro e w1 ⟨rfl, hb1⟩) | (go_at_call 13; refine Calls.mono (next13_inf _) ?_; rintro e w2 ⟨rfl, hw⟩; rw [hw]; clear hw w2) | (go_at_call 16; refine Calls.mono (CL _) ?_; rintro e w2 ⟨rfl, hw⟩; rw [hw]; clear hw w2))
      go_ret
      exact ⟨rfl, hb1⟩
    · have NX := fun (W : World) => next13_ok a W ha hn hi
      have T1 := fun (W : World) => test19 2 (nxW a) a W (nx_facts ha hn hi).1 ha
      rw [nx_more ha hn hi] at T1
      have T2 := fun (W : World) => test19 2 y a W hy ha
      have T3 := fun (W : World) => test19 1 y (nxW a) W hy (nx_facts ha hn hi).1
      cases ht : tsW 2 y a
      · rw [ht] at T2
        obtain ⟨n, hn'⟩ : ∃ n, n = nxW a := ⟨_, rfl⟩
        rw [← hn'] at NX T1
        clear T3 hn' hn CL hi ht
        go_enter Try.func6, Try.ntmps6
        go_wp2_with (first | (go_at_call 8; refine Calls.mono (wakes8 _) ?_; rintro e w1 ⟨rfl, hb1⟩) | (go_at_call 13; refine Calls.mono (NX _) ?_; rintro e w2 ⟨rfl, hw⟩; rw [hw]; clear hw w2) | (go_at_call_has 19 y; refine Calls.mono (T2 _) ?_; rintro e w3 ⟨rfl, hb3⟩) | (go_at_call 19; refine Calls.mono (T1 _) ?_; rintro e w2 ⟨rfl, hb2⟩))
        go_ret
        exact ⟨rfl, bt hb1 (bt hb2 hb3)⟩
      · rw [ht] at T2
        rw [nx_betw ha hy hn hi ht] at T3
        obtain ⟨n, hn'⟩ : ∃ n, n = nxW a := ⟨_, rfl⟩
        rw [← hn'] at NX T1 T3
        clear hn' hn CL hi ht
        go_enter Try.func6, Try.ntmps6
        go_wp2_with (first | (go_at_call 8; refine Calls.mono (wakes8 _) ?_; rintro e w1 ⟨rfl, hb1⟩) | (go_at_call 13; refine Calls.mono (NX _) ?_; rintro e w2 ⟨rfl, hw⟩; rw [hw]; clear hw w2) | (go_at_call_has 19 y; go_at_call_has 19 a; refine Calls.mono (T2 _) ?_; rintro e w3 ⟨rfl, hb3⟩) | (go_at_call_has 19 y; refine Calls.mono (T3 _) ?_; rintro e w4 ⟨rfl, hb4⟩) | (go_at_call 19; refine Calls.mono (T1 _) ?_; rintro e w2 ⟨rfl, hb2⟩))
        go_ret
        exact ⟨rfl, bt hb1 (bt hb2 (bt hb3 hb4))⟩
end Go.Proofs.Ytglfhgedaknljaa
