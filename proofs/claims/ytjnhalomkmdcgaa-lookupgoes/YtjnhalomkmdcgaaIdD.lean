/- The contract of ident.Kind. -/
import Derived.Test.YtjnhalomkmdcgaaIdC
namespace Go.Proofs.Ytjnhalomkmdcgaa
open Go.RowKit

theorem idx0 (p q : Nat) (w : World) : (Instr.index 125 (.agg #[.func (.func 92) #[] #[], .func (.func 93) #[] #[.pointer (some ⟨p, 0, none⟩), .pointer (some ⟨q, 0, none⟩)], .func (.func 95) #[] #[.pointer (some ⟨p, 0, none⟩), .pointer (some ⟨q, 0, none⟩)], .func (.func 96) #[] #[.pointer (some ⟨p, 0, none⟩), .pointer (some ⟨q, 0, none⟩)], .func (.func 97) #[] #[.pointer (some ⟨p, 0, none⟩), .pointer (some ⟨q, 0, none⟩)]]) (.int .i64 0)).run Try.prog w = .ok (.func (.func 92) #[] #[]) w := by kernel_rfl
theorem idx1 (p q : Nat) (w : World) : (Instr.index 125 (.agg #[.func (.func 92) #[] #[], .func (.func 93) #[] #[.pointer (some ⟨p, 0, none⟩), .pointer (some ⟨q, 0, none⟩)], .func (.func 95) #[] #[.pointer (some ⟨p, 0, none⟩), .pointer (some ⟨q, 0, none⟩)], .func (.func 96) #[] #[.pointer (some ⟨p, 0, none⟩), .pointer (some ⟨q, 0, none⟩)], .func (.func 97) #[] #[.pointer (some ⟨p, 0, none⟩), .pointer (some ⟨q, 0, none⟩)]]) (.int .i64 1)).run Try.prog w = .ok (.func (.func 93) #[] #[.pointer (some ⟨p, 0, none⟩), .pointer (some ⟨q, 0, none⟩)]) w := by kernel_rfl
theorem idx2 (p q : Nat) (w : World) : (Instr.index 125 (.agg #[.func (.func 92) #[] #[], .func (.func 93) #[] #[.pointer (some ⟨p, 0, none⟩), .pointer (some ⟨q, 0, none⟩)], .func (.func 95) #[] #[.pointer (some ⟨p, 0, none⟩), .pointer (some ⟨q, 0, none⟩)], .func (.func 96) #[] #[.pointer (some ⟨p, 0, none⟩), .pointer (some ⟨q, 0, none⟩)], .func (.func 97) #[] #[.pointer (some ⟨p, 0, none⟩), .pointer (some ⟨q, 0, none⟩)]]) (.int .i64 2)).run Try.prog w = .ok (.func (.func 95) #[] #[.pointer (some ⟨p, 0, none⟩), .pointer (some ⟨q, 0, none⟩)]) w := by kernel_rfl
theorem idx3 (p q : Nat) (w : World) : (Instr.index 125 (.agg #[.func (.func 92) #[] #[], .func (.func 93) #[] #[.pointer (some ⟨p, 0, none⟩), .pointer (some ⟨q, 0, none⟩)], .func (.func 95) #[] #[.pointer (some ⟨p, 0, none⟩), .pointer (some ⟨q, 0, none⟩)], .func (.func 96) #[] #[.pointer (some ⟨p, 0, none⟩), .pointer (some ⟨q, 0, none⟩)], .func (.func 97) #[] #[.pointer (some ⟨p, 0, none⟩), .pointer (some ⟨q, 0, none⟩)]]) (.int .i64 3)).run Try.prog w = .ok (.func (.func 96) #[] #[.pointer (some ⟨p, 0, none⟩), .pointer (some ⟨q, 0, none⟩)]) w := by kernel_rfl
theorem idx4 (p q : Nat) (w : World) : (Instr.index 125 (.agg #[.func (.func 92) #[] #[], .func (.func 93) #[] #[.pointer (some ⟨p, 0, none⟩), .pointer (some ⟨q, 0, none⟩)], .func (.func 95) #[] #[.pointer (some ⟨p, 0, none⟩), .pointer (some ⟨q, 0, none⟩)], .func (.func 96) #[] #[.pointer (some ⟨p, 0, none⟩), .pointer (some ⟨q, 0, none⟩)], .func (.func 97) #[] #[.pointer (some ⟨p, 0, none⟩), .pointer (some ⟨q, 0, none⟩)]]) (.int .i64 4)).run Try.prog w = .ok (.func (.func 97) #[] #[.pointer (some ⟨p, 0, none⟩), .pointer (some ⟨q, 0, none⟩)]) w := by kernel_rfl
set_option maxHeartbeats 2000000 in
theorem kind_any (x : Int) (w : World) (h0 : 0 ≤ x) (h1 : x < 18446744073709551616) :
    Calls Try.prog 79 #[.int .u64 x] w fun e w' => e = .returned (.int .i64 (kindOf x)) ∧ Below w.heap.size w w' := by
  go_enter Try.func79, Try.ntmps79
  go_wp2_with (first | (go_at_call 90; refine (split_any _ _ h0 h1).mono ?_; rintro e w1 ⟨rfl, hb1⟩))
  obtain ⟨q, hq⟩ : ∃ q, q = w1.heap.size := ⟨_, rfl⟩
  obtain ⟨w2, hw2⟩ : ∃ w2, w2 = ((w1.alloc (.cells #[.int .i64 (fH x), .int .i64 (fA x), .int .i64 (fS x), .int .i64 (fB x)] 122)).alloc (.cells #[.func (.func 91) #[] #[.pointer (some ⟨w1.heap.size, 0, none⟩)]] 104)).alloc (.cells #[.func (.func 92) #[] #[], .func (.func 93) #[] #[.pointer (some ⟨w1.heap.size + 1, 0, none⟩), .pointer (some ⟨w1.heap.size, 0, none⟩)], .func (.func 95) #[] #[.pointer (some ⟨w1.heap.size + 1, 0, none⟩), .pointer (some ⟨w1.heap.size, 0, none⟩)], .func (.func 96) #[] #[.pointer (some ⟨w1.heap.size + 1, 0, none⟩), .pointer (some ⟨w1.heap.size, 0, none⟩)], .func (.func 97) #[] #[.pointer (some ⟨w1.heap.size + 1, 0, none⟩), .pointer (some ⟨w1.heap.size, 0, none⟩)]] 125) := ⟨_, rfl⟩
  have ha : Asked x (q + 1) q w2 := by
    rw [hw2, hq]
    constructor <;> first | (simp [go_sem]; done) | (simp; omega)
  have hB : Below w.heap.size w w2 := by
    rw [hw2]
    exact hb1.trans ((((Below.refl _ _).alloc (Nat.le_refl _) _).alloc (by simp) _).alloc (by simp; omega) _ |>.mono hb1.size)
  rw [← hw2, ← hq]
  clear hw2 hq hb1
  go_loopw [17] (fun i wr => ∃ k : Nat, k ≤ 5 ∧ i = .int .i64 k ∧ Asked x (q + 1) q wr ∧ Below w.heap.size w wr ∧ (2 ≤ k → isEnt x = false) ∧ (3 ≤ k → isCom x = false) ∧ (4 ≤ k → isPai x = false) ∧ (5 ≤ k → isPat x = false)) (fun i _ => 5 - (intOf i).toNat)
  case atStart => exact ⟨0, by omega, rfl, ha, hB, by omega, by omega, by omega, by omega⟩
  case round =>
    obtain ⟨k, hk, rfl, hA, hb, r1, r2, r3, r4⟩ := hrel
    clear ha hB
    match k, hk with
    | 0, _ =>
      have ix := idx0 (q + 1) q
      clear r1 r2 r3 r4
      go_wp2_with (first | (go_at_call 92; refine (a40_any _).mono ?_; rintro e w3 ⟨rfl, rfl⟩))
      go_roundw
      case rel => exact ⟨1, by omega, by go_num, hA, hb, by omega, by omega, by omega, by omega⟩
      case measure => simp [intOf]
    | 1, _ =>
      have ix := idx1 (q + 1) q
      clear r1 r2 r3 r4
      cases c : isEnt x
      · go_wp2_with (first | (go_at_call 93; refine (a41_any _ _ _ _ hA).mono ?_; rintro e w3 ⟨rfl, hb3⟩))
        go_roundw
        case rel => exact ⟨2, by omega, by go_num, hA.below hb3, hb.trans (hb3.mono hb.size), fun _ => (by first | trivial | exact c), by omega, by omega, by omega⟩
        case measure => simp [intOf]
      · have E : Hid (kindOf x = 1) := by unfold Hid kindOf; simp [c]
        go_wp2_with (first | (go_at_call 93; refine (a41_any _ _ _ _ hA).mono ?_; rintro e w3 ⟨rfl, hb3⟩))
        go_ret
        exact ⟨by rw [E.out]; rfl, hb.trans (hb3.mono hb.size)⟩
    | 2, _ =>
      have ix := idx2 (q + 1) q
      have R1 : Hid (isEnt x = false) := r1 (by omega)
      clear r1 r2 r3 r4
      cases c : isCom x
      · go_wp2_with (first | (go_at_call 95; refine (a42_any _ _ _ _ hA).mono ?_; rintro e w3 ⟨rfl, hb3⟩))
        go_roundw
        case rel => exact ⟨3, by omega, by go_num, hA.below hb3, hb.trans (hb3.mono hb.size), fun _ => R1, fun _ => (by first | trivial | exact c), by omega, by omega⟩
        case measure => simp [intOf]
      · have E : Hid (kindOf x = 2) := by unfold Hid kindOf; simp [c, R1.out]
        go_wp2_with (first | (go_at_call 95; refine (a42_any _ _ _ _ hA).mono ?_; rintro e w3 ⟨rfl, hb3⟩))
        go_ret
        exact ⟨by rw [E.out]; rfl, hb.trans (hb3.mono hb.size)⟩
    | 3, _ =>
      have ix := idx3 (q + 1) q
      have R1 : Hid (isEnt x = false) := r1 (by omega)
      have R2 : Hid (isCom x = false) := r2 (by omega)
      clear r1 r2 r3 r4
      cases c : isPai x
      · go_wp2_with (first | (go_at_call 96; refine (a43_any _ _ _ _ hA).mono ?_; rintro e w3 ⟨rfl, hb3⟩))
        go_roundw
        case rel => exact ⟨4, by omega, by go_num, hA.below hb3, hb.trans (hb3.mono hb.size), fun _ => R1, fun _ => R2, fun _ => (by first | trivial | exact c), by omega⟩
        case measure => simp [intOf]
      · have E : Hid (kindOf x = 3) := by unfold Hid kindOf; simp [c, R1.out, R2.out]
        go_wp2_with (first | (go_at_call 96; refine (a43_any _ _ _ _ hA).mono ?_; rintro e w3 ⟨rfl, hb3⟩))
        go_ret
        exact ⟨by rw [E.out]; rfl, hb.trans (hb3.mono hb.size)⟩
    | 4, _ =>
      have ix := idx4 (q + 1) q
      have R1 : Hid (isEnt x = false) := r1 (by omega)
      have R2 : Hid (isCom x = false) := r2 (by omega)
      have R3 : Hid (isPai x = false) := r3 (by omega)
      clear r1 r2 r3 r4
      cases c : isPat x
      · go_wp2_with (first | (go_at_call 97; refine (a44_any _ _ _ _ hA).mono ?_; rintro e w3 ⟨rfl, hb3⟩))
        go_roundw
        case rel => exact ⟨5, by omega, by go_num, hA.below hb3, hb.trans (hb3.mono hb.size), fun _ => R1, fun _ => R2, fun _ => R3, fun _ => (by first | trivial | exact c)⟩
        case measure => simp [intOf]
      · have E : Hid (kindOf x = 4) := by unfold Hid kindOf; simp [c, R1.out, R2.out, R3.out]
        go_wp2_with (first | (go_at_call 97; refine (a44_any _ _ _ _ hA).mono ?_; rintro e w3 ⟨rfl, hb3⟩))
        go_ret
        exact ⟨by rw [E.out]; rfl, hb.trans (hb3.mono hb.size)⟩
    | 5, _ =>
      have E : Hid (kindOf x = 0) := by unfold Hid kindOf; simp [r1 (by omega), r2 (by omega), r3 (by omega), r4 (by omega)]
      clear r1 r2 r3 r4
      go_wp2
      go_ret
      exact ⟨by rw [E.out]; rfl, hb⟩
end Go.Proofs.Ytjnhalomkmdcgaa
