/- cmp.Less, isNaN, slices.BinarySearch, has. -/
import Derived.Test.YtooaghcjlomcpaaTyA
namespace Go.Proofs.Ytooaghcjlomcpaa
open Go.RowKit

theorem nan78 (x : Int) (w : World) : Calls Try.prog 83 #[.int .u64 x] w fun e w' => e = .returned (.bool false) ∧ w' = w := by
  go_enter Try.func83, Try.ntmps83
  go_wp2
  go_ret
  exact ⟨rfl, rfl⟩
theorem nan101 (x : Int) (w : World) : Calls Try.prog 100 #[.int .u64 x] w fun e w' => e = .returned (.bool false) ∧ w' = w := by
  go_enter Try.func100, Try.ntmps100
  go_wp2
  go_ret
  exact ⟨rfl, rfl⟩
theorem less77 (x y : Int) (w : World) : Calls Try.prog 82 #[.int .u64 x, .int .u64 y] w fun e w' => e = .returned (.bool (decide (x < y))) ∧ w' = w := by
  by_cases h : x < y
  · go_enter Try.func82, Try.ntmps82
    go_wp2_with (first | (go_at_call 100; refine (nan101 _ _).mono ?_; rintro e w1 ⟨rfl, rfl⟩) | (go_at_call 83; refine (nan78 _ _).mono ?_; rintro e w1 ⟨rfl, rfl⟩))
    go_ret
    exact ⟨ret_bool (decide_eq_true h).symm, rfl⟩
  · go_enter Try.func82, Try.ntmps82
    go_wp2_with (first | (go_at_call 100; refine (nan101 _ _).mono ?_; rintro e w1 ⟨rfl, rfl⟩) | (go_at_call 83; refine (nan78 _ _).mono ?_; rintro e w1 ⟨rfl, rfl⟩))
    go_ret
    exact ⟨rfl, rfl⟩

/-- A row rises (it may stand still). -/
def Ris (l : List Int) : Prop := ∀ i j, i ≤ j → j < l.length → iG l i ≤ iG l j
/-- Where a number stands, or would stand, in a row. -/
def Pos (l : List Int) (x : Int) (i : Nat) : Prop := i ≤ l.length ∧ (∀ j, j < i → iG l j < x) ∧ (∀ j, i ≤ j → j < l.length → x ≤ iG l j)
def fndB (l : List Int) (x : Int) (i : Nat) : Bool := decide (i < l.length) && decide (iG l i = x)
def Found (l : List Int) (x : Int) (w : World) (e : Ending) (w' : World) : Prop := ∃ i : Nat, e = .returned (.tuple #[.int .i64 i, .bool (fndB l x i)]) ∧ Pos l x i ∧ Below w.heap.size w w'
theorem found_of {l : List Int} {x : Int} {w w' : World} {e : Ending} (i : Nat) (hp : Pos l x i) (he : e = .returned (.tuple #[.int .i64 i, .bool (fndB l x i)])) (hb : Below w.heap.size w w') : Found l x w e w' := ⟨i, he, hp, hb⟩

set_option maxRecDepth 20000 in
set_option maxHeartbeats 2000000 in
theorem bin_any (p : Option Addr) (l : List Int) (c : Nat) (x : Int) (w : World) (hS : IRow .u64 w.heap.size w p l) (hR : Ris l) (hn : l.length < 1152921504606846976) :
    Calls Try.prog 49 #[.slice p l.length c, .int .u64 x] w fun e w' => Found l x w e w' := by
  obtain ⟨n, hn'⟩ : ∃ n, n = l.length := ⟨_, rfl⟩
  have HN := hidOg hn'
  rw [← hn'] at hn ⊢
  have HS := hidOg hS
  have HR := hidOg hR
  clear hS hR hn'
  go_enter Try.func49, Try.ntmps49
  go_wp2
  go_loopw [7, 8] (fun ui uj wr => ∃ i j : Nat, i ≤ j ∧ j ≤ n ∧ ui = .int .i64 i ∧ uj = .int .i64 j ∧ (∀ k, k < i → iG l k < x) ∧ (∀ k, j ≤ k → k < n → x ≤ iG l k) ∧ Below w.heap.size w wr) (fun i j _ => ((intOf j).toNat - (intOf i).toNat))
  case atStart => exact ⟨0, n, Nat.zero_le _, Nat.le_refl _, rfl, rfl, fun k h => by omega, fun k h h' => by omega, Below.refl _ _⟩
  case round =>
    obtain ⟨i, j, hij, hj, rfl, rfl, hlo, hhi, hB⟩ := hrel
    have HLo := hidOg hlo
    have HHi := hidOg hhi
    have HB := hidOg hB
    clear hlo hhi hB
    by_cases hlt : i < j
    · obtain ⟨b, off, rfl, hbB, hcs⟩ := (HS.out.below HB.out (Nat.le_refl _)) (by have := HN.out; omega)
      obtain ⟨h, hh⟩ : ∃ h : Nat, h = (i + j) / 2 := ⟨_, rfl⟩
      have c0 := hcs h (by have := HN.out; omega)
      clear hcs
      obtain ⟨y, hy⟩ : ∃ y, y = iG l h := ⟨_, rfl⟩
      rw [← hy] at c0
      have HY := hidOg hy
      clear hy
      have e : ((i : Int) + (j : Int)) / 2 = (h : Int) := by omega
      have HH := hidOg hh
      have h1 : i ≤ h := by omega
      have h2 : h < j := by omega
      clear hh
      by_cases hyx : y < x
      · go_wp2_with (first | (go_at_call 82; refine (less77 _ _ _).mono ?_; rintro e w1 ⟨rfl, rfl⟩))
        go_roundw
        case rel => exact ⟨h + 1, j, by omega, hj, by go_num, rfl, fun k hk => (by have := HR.out k h (by omega) (by have := HN.out; omega); rw [← HY.out] at this; omega), HHi.out, HB.out⟩
        case measure => simp [intOf]; omega
      · go_wp2_with (first | (go_at_call 82; refine (less77 _ _ _).mono ?_; rintro e w1 ⟨rfl, rfl⟩))
        go_roundw
        case rel => exact ⟨i, h, by omega, by omega, rfl, rfl, HLo.out, fun k hk hk' => (by have := HR.out h k hk (by have := HN.out; omega); rw [← HY.out] at this; omega), HB.out⟩
        case measure => simp [intOf]; omega
    · obtain rfl : i = j := by omega
      have HP : Hid (Pos l x i) := ⟨by have := HN.out; omega, HLo.out, fun k h h' => HHi.out k h (by have := HN.out; omega)⟩
      by_cases hin : i < n
      · obtain ⟨b, off, rfl, hbB, hcs⟩ := (HS.out.below HB.out (Nat.le_refl _)) (by have := HN.out; omega)
        have c0 := hcs i (by have := HN.out; omega)
        clear hcs
        obtain ⟨y, hy⟩ : ∃ y, y = iG l i := ⟨_, rfl⟩
        rw [← hy] at c0
        have HY := hidOg hy
        clear hy
        by_cases hyx : y = x
        · have HF : Hid (fndB l x i = true) := by unfold Hid fndB; rw [← HN.out, ← HY.out]; simp [hin, hyx]
          subst hyx
          go_wp2_with (first | (go_at_call 83; refine (nan78 _ _).mono ?_; rintro e w1 ⟨rfl, rfl⟩))
          go_ret2
          exact found_of i HP.out (by rw [HF.out]; rfl) HB.out
        · have HF : Hid (fndB l x i = false) := by unfold Hid fndB; rw [← HN.out, ← HY.out]; simp [hyx]
          have hyx' : (y == x) = false := by simpa using hyx
          go_wp2_with (first | (go_at_call 83; refine (nan78 _ _).mono ?_; rintro e w1 ⟨rfl, rfl⟩))
          go_ret2
          exact found_of i HP.out (by rw [HF.out]; rfl) HB.out
      · have HF : Hid (fndB l x i = false) := by unfold Hid fndB; rw [← HN.out]; simp [hin]
        have hd : decide ((i : Int) < (n : Int)) = false := by simp; omega
        go_wp2_with (first | (go_at_call 83; refine (nan78 _ _).mono ?_; rintro e w1 ⟨rfl, rfl⟩))
        go_ret2
        exact found_of i HP.out (by rw [HF.out]; rfl) HB.out
end Go.Proofs.Ytooaghcjlomcpaa
