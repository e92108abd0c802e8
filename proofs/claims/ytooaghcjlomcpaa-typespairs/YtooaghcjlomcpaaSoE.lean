/- slices.Sort of 13 ids and fewer; slices.Contains. -/
import Derived.Test.YtooaghcjlomcpaaSoD
namespace Go.Proofs.Ytooaghcjlomcpaa
open Go.RowKit Go.Sort

set_option maxRecDepth 20000 in
theorem len100s (n : Nat) (hn : n ≤ 12) (w : World) : Calls Try.prog 99 #[.int .u64 n] w fun e w' => ∃ v : Int, e = .returned (.int .i64 v) ∧ w' = w := by
  have h : n = 0 ∨ n = 1 ∨ n = 2 ∨ n = 3 ∨ n = 4 ∨ n = 5 ∨ n = 6 ∨ n = 7 ∨ n = 8 ∨ n = 9 ∨ n = 10 ∨ n = 11 ∨ n = 12 := by omega
  clear hn
  rcases h with rfl | rfl | rfl | rfl | rfl | rfl | rfl | rfl | rfl | rfl | rfl | rfl | rfl
  all_goals
    go_enter Try.func99, Try.ntmps99
    go_wp2
    go_ret
    exact ⟨_, rfl, rfl⟩
set_option maxRecDepth 20000 in
theorem len76s (n : Nat) (hn : n ≤ 12) (w : World) : Calls Try.prog 81 #[.int .u64 n] w fun e w' => ∃ v : Int, e = .returned (.int .i64 v) ∧ w' = w := by
  have C := len100s n hn w
  go_enter Try.func81, Try.ntmps81
  go_wp2_with (first | (go_at_call 99; refine Calls.mono C ?_; rintro e w1 ⟨v, rfl, rfl⟩))
  go_ret
  exact ⟨v, rfl, rfl⟩

set_option maxRecDepth 20000 in
theorem sort41 (B : Nat) (p : Option Addr) (L : List Int) (c : Nat) (w : World) (h : OwnR B w p L c) (hl : L.length ≤ 13) :
    Calls Try.prog 41 #[.slice p L.length c] w fun e w' => e = .returned (.tuple #[]) ∧ Sorts B p L c 0 L.length w w' := by
  by_cases h13 : L.length = 13
  · have C := pdq_13 B p L c w h h13
    have CL := len76 w
    rw [h13]
    clear h hl h13
    go_enter Try.func41, Try.ntmps41
    go_wp2_with (first
      | (go_at_call 81; refine Calls.mono CL ?_; rintro e w1 ⟨rfl, rfl⟩)
      | (go_at_call 80; refine Calls.mono C ?_; rintro e w1 ⟨rfl, hS⟩))
    go_end0
    exact ⟨rfl, hS⟩
  · have C := fun (lim : Int) => pdq_small B p L c 0 L.length lim w h (Nat.zero_le _) (Nat.le_refl _) (by omega) (by omega)
    have CL := len76s L.length (by omega) w
    obtain ⟨n, hn⟩ : ∃ n, n = L.length := ⟨_, rfl⟩
    rw [← hn] at C CL hl h13 ⊢
    clear h hn
    go_enter Try.func41, Try.ntmps41
    go_wp2_with (first
      | (go_at_call 81; refine Calls.mono CL ?_; rintro e w1 ⟨v, rfl, rfl⟩)
      | (go_at_call 80; refine Calls.mono (C _) ?_; rintro e w1 ⟨rfl, hS⟩))
    go_end0
    exact ⟨rfl, hS⟩

set_option maxRecDepth 20000 in
set_option maxHeartbeats 2000000 in
theorem index71 (p : Option Addr) (l : List Int) (c : Nat) (x : Int) (w : World) (hS : IRow .u64 w.heap.size w p l) (hn : l.length ≤ 1099511627776) :
    Calls Try.prog 71 #[.slice p l.length c, .int .u64 x] w fun e w' => ∃ i : Int, e = .returned (.int .i64 i) ∧ decide (0 ≤ i) = decide (x ∈ l) ∧ w' = w := by
  obtain ⟨n, hn'⟩ : ∃ n, n = l.length := ⟨_, rfl⟩
  have HN := hidOg hn'
  obtain ⟨v, hv⟩ : ∃ v, v = decide (x ∈ l) := ⟨_, rfl⟩
  have HV := hidOg hv
  have HS := hidOg hS
  rw [← hn'] at hn ⊢
  rw [← hv]
  clear hS hn' hv
  go_enter Try.func71, Try.ntmps71
  go_wp2
  go_loop [8] (fun i => ∃ k : Nat, k ≤ n ∧ i = .int .i64 k ∧ ∀ j, j < k → iG l j ≠ x) (fun i => n - (intOf i).toNat)
  case atStart => exact ⟨0, Nat.zero_le _, rfl, fun j h => by omega⟩
  case round =>
    obtain ⟨k, hk, rfl, hok⟩ := hrel
    have HO := hidOg hok
    clear hok
    by_cases hlt : k < n
    · obtain ⟨b, off, rfl, hbB, hcs⟩ := HS.out (by have := HN.out; omega)
      have c0 := hcs k (by have := HN.out; omega)
      clear hcs
      obtain ⟨y, hy⟩ : ∃ y, y = iG l k := ⟨_, rfl⟩
      rw [← hy] at c0
      have HY := hidOg hy
      clear hy
      by_cases hxy : x = y
      · have e : v = true := by rw [HV.out, decide_eq_true]; rw [hxy, HY.out]; exact mem_iG.2 ⟨k, by rw [← HN.out]; exact hlt, rfl⟩
        subst e
        have h' : (x == y) = true := by simpa using hxy
        clear HV HO HY hxy
        go_wp2
        go_ret
        exact ⟨(k : Int), rfl, by simp, rfl⟩
      · have h' : (x == y) = false := by simpa using hxy
        have HO' : Hid (∀ j, j < k + 1 → iG l j ≠ x) := fun j hj => by
          by_cases e : j = k
          · rw [e, ← HY.out]; exact fun e => hxy e.symm
          · exact HO.out j (by omega)
        clear HO HY hxy
        go_wp2
        go_round
        case rel => exact ⟨k + 1, by omega, by go_num, HO'.out⟩
        case measure => simp [intOf]; omega
    · obtain rfl : k = n := by omega
      have e : v = false := by
        rw [HV.out, decide_eq_false]; intro h
        obtain ⟨j, hj, e⟩ := mem_iG.1 h
        exact HO.out j (by rw [HN.out]; exact hj) e
      subst e
      clear HV HO
      go_wp2
      go_ret
      exact ⟨-1, rfl, by decide, rfl⟩
theorem contains38 (p : Option Addr) (l : List Int) (c : Nat) (x : Int) (w : World) (hS : IRow .u64 w.heap.size w p l) (hn : l.length ≤ 1099511627776) :
    Calls Try.prog 38 #[.slice p l.length c, .int .u64 x] w fun e w' => e = .returned (.bool (decide (x ∈ l))) ∧ w' = w := by
  have CI := index71 p l c x w hS hn
  obtain ⟨v, hv⟩ : ∃ v, v = decide (x ∈ l) := ⟨_, rfl⟩
  rw [← hv] at CI ⊢
  clear hS hn hv
  go_enter Try.func38, Try.ntmps38
  go_wp2_with (first | (go_at_call 71; refine Calls.mono CI ?_; rintro e w1 ⟨i, rfl, hi, rfl⟩; have HI := hidOg hi; clear hi))
  go_ret
  exact ⟨ret_bool HI.out, rfl⟩
end Go.Proofs.Ytooaghcjlomcpaa
