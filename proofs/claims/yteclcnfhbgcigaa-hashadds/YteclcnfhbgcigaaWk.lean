/- The law's own 'wakes'. -/
import Derived.Test.YteclcnfhbgcigaaHaE
namespace Go.Proofs.Yteclcnfhbgcigaa
open Go.RowKit

theorem wkP (w : World) : Calls Try.prog 16 #[.int .u64 10, .int .i64 4, .int .i64 3] w fun e w' => e = .returned (.tuple #[.int .i64 1, .int .i64 0]) ∧ w' = w :=
  probe_ok 10 4 3 (by omega) (by omega) (by omega) w
theorem wkO (w : World) : Calls Try.prog 10 #[.slice none 0 0] w fun e w' => e = .returned (.int .u64 14695981039346656037) ∧ Below w.heap.size w w' := by
  have := of10 none [] 0 w NRow.nil (fun x hx => by simp at hx) (by rw [List.length_nil]; omega)
  have e : hOf [] = 14695981039346656037 := rfl
  rw [e, List.length_nil] at this
  have e0 : ((14695981039346656037 : Nat) : Int) = 14695981039346656037 := by simp
  rw [e0] at this
  exact this
theorem wkA (w : World) (q : Nat) (hq : q = hId 7 3) : Calls Try.prog 13 #[.int .u64 7, .int .u64 3] w fun e w' => e = .returned (.int .u64 (q : Int)) ∧ Below w.heap.size w w' := by
  have := hadd13 7 3 w (by omega) (by omega)
  rw [← hq] at this
  exact this
theorem wkB (w : World) (q : Nat) (hq : q = hId 7 3) : Calls Try.prog 18 #[.int .u64 (q : Int), .int .u64 3] w fun e w' => e = .returned (.int .u64 7) ∧ Below w.heap.size w w' := by
  have := back18 q 3 w (by omega)
  have e : uId q 3 = 7 := by rw [hq]; exact uId_hId (by omega) 3
  rw [e] at this
  exact this

set_option maxRecDepth 20000 in
theorem wakes8 (w : World) : Calls Try.prog 8 #[] w fun e w' => e = .returned (.bool true) ∧ Below w.heap.size w w' := by
  obtain ⟨q, hq⟩ : ∃ q, q = hId 7 3 := ⟨_, rfl⟩
  have WA := fun (W : World) => wkA W q hq
  have WB := fun (W : World) => wkB W q hq
  clear hq
  go_enter Try.func8, Try.ntmps8
  go_wp2_with (first
    | (go_at_call 16; refine Calls.mono (wkP _) ?_; rintro e w1 ⟨rfl, hw⟩; rw [hw]; clear hw w1)
    | (go_at_call 15; refine Calls.mono (slot_bad 1 0 (by omega) _) ?_; rintro e w1 ⟨rfl, hw⟩; rw [hw]; clear hw w1)
    | (go_at_call 10; refine Calls.mono (wkO _) ?_; rintro e w2 ⟨rfl, hb2⟩)
    | (go_at_call 13; refine Calls.mono (WA _) ?_; rintro e w3 ⟨rfl, hb3⟩)
    | (go_at_call 18; refine Calls.mono (WB _) ?_; rintro e w4 ⟨rfl, hb4⟩))
  go_ret
  exact ⟨rfl, bt hb2 (bt hb3 hb4)⟩
end Go.Proofs.Yteclcnfhbgcigaa
