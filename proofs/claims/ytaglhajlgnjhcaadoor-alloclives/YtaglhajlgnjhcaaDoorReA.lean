/- The document's answer: alive and times. -/
import Derived.Test.YtaglhajlgnjhcaaDoorPlC
namespace Go.Proofs.YtaglhajlgnjhcaaDoor
open Go.RowKit

/-- How often x stands among the first k. -/
def tmN (f : List Int) (x : Int) : Nat → Nat
  | 0 => 0
  | k + 1 => tmN f x k + if iG f k = x then 1 else 0
theorem tmN_le (f : List Int) (x : Int) (k : Nat) : tmN f x k ≤ k := by
  induction k with
  | zero => simp [tmN]
  | succ k ih => unfold tmN; split <;> omega

theorem tmN_t {f : List Int} {x : Int} {k : Nat} (h : iG f k = x) : tmN f x (k + 1) = tmN f x k + 1 := by
  show tmN f x k + (if iG f k = x then 1 else 0) = _; rw [if_pos h]
theorem tmN_f {f : List Int} {x : Int} {k : Nat} (h : ¬ iG f k = x) : tmN f x (k + 1) = tmN f x k := by
  show tmN f x k + (if iG f k = x then 1 else 0) = _; rw [if_neg h]; rfl

theorem times36 (q : Option Addr) (f : List Int) (d : Nat) (x : Int) (w : World) (hI : IRow .i64 w.heap.size w q f) (hn : f.length ≤ 8796093022208) :
    Calls Tryd.prog 36 #[.slice q f.length d, .int .i64 x] w fun e w' => e = .returned (.int .i64 (tmN f x f.length)) ∧ w' = w := by
  go_enter Tryd.func36, Tryd.ntmps36
  go_wp2
  go_loopw [5, 10] (fun o i wr => ∃ k : Nat, k ≤ f.length ∧ i = .int .i64 k ∧ o = .int .i64 (tmN f x k) ∧ wr = w) (fun _ i _ => f.length - (intOf i).toNat)
  case atStart => exact ⟨0, Nat.zero_le _, rfl, rfl, rfl⟩
  case round =>
    obtain ⟨k, hk, rfl, rfl, rfl⟩ := hrel
    have hu := tmN_le f x k
    by_cases hk' : k < f.length
    · obtain ⟨b, off, rfl, hbB, hcs⟩ := hI (by omega)
      have c0 := hcs k hk'
      clear hcs
      by_cases hx : iG f k = x
      · go_wp2
        go_roundw
        case rel => exact ⟨k + 1, by omega, by go_num, by rw [tmN_t hx]; go_num, trivial⟩
        case measure => simp [intOf]; omega
      · go_wp2
        go_roundw
        case rel => exact ⟨k + 1, by omega, by go_num, by rw [tmN_f hx], trivial⟩
        case measure => simp [intOf]; omega
    · obtain rfl : k = f.length := by omega
      go_wp2
      go_ret
      exact ⟨rfl, rfl⟩

theorem alive35 (m : Int) (p : Option Addr) (l : List (Int × Bool)) (c : Nat) (q : Option Addr) (k d : Nat) (w : World) (hS : SRow w.heap.size w p l) (hn : l.length ≤ 8796093022208) :
    Calls Tryd.prog 35 #[.agg #[.int .i64 m, .slice p l.length c, .slice q k d]] w fun e w' => e = .returned (.int .i64 ((livN l l.length).length - 2)) ∧ Below w.heap.size w w' := by
  go_enter Tryd.func35, Tryd.ntmps35
  go_wp2
  go_loopw [3, 9] (fun o i wr => ∃ k : Nat, k ≤ l.length ∧ i = .int .i64 k ∧ o = .int .i64 ((livN l k).length - 2) ∧ Below w.heap.size w wr) (fun _ i _ => l.length - (intOf i).toNat)
  case atStart => exact ⟨0, Nat.zero_le _, rfl, rfl, (Below.refl _ _).alloc (Nat.le_refl _) _⟩
  case round =>
    obtain ⟨k, hk, rfl, rfl, hbr⟩ := hrel
    have hu := livN_len l k
    have hsz := hbr.size
    by_cases hk' : k < l.length
    · obtain ⟨b, off, rfl, hbB, hcs⟩ := (hS.below hbr (Nat.le_refl _)) (by omega)
      obtain ⟨c0, c1⟩ := hcs k hk'
      clear hcs
      cases hv : sA l k
      · rw [hv] at c1
        have HV : Hid (sA l k = false) := hv
        clear hv
        go_wp2
        go_roundw
        case rel => exact ⟨k + 1, by omega, by go_num, by rw [livN_f HV.out], hbr.alloc (by omega) _⟩
        case measure => simp [intOf]; omega
      · rw [hv] at c1
        have HV : Hid (sA l k = true) := hv
        clear hv
        go_wp2
        go_roundw
        case rel => exact ⟨k + 1, by omega, by go_num, by rw [livN_t HV.out, List.length_append]; go_num, hbr.alloc (by omega) _⟩
        case measure => simp [intOf]; omega
    · obtain rfl : k = l.length := by omega
      go_wp2
      go_ret
      exact ⟨rfl, hbr⟩
end Go.Proofs.YtaglhajlgnjhcaaDoor
