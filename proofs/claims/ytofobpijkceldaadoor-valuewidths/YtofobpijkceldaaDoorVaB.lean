/- Compare, and the document's. -/
import Derived.Test.YtofobpijkceldaaDoorVaA
namespace Go.Proofs.YtofobpijkceldaaDoor
open Go.RowKit

def cmpN (n m : Int) : Int := if n < m then -1 else if m < n then 1 else 0
set_option maxRecDepth 20000 in
set_option maxHeartbeats 4000000 in
theorem compare13 (p : Option Addr) (l : List Int) (c : Nat) (q : Option Addr) (r : List Int) (d : Nat) (w : World) (hS : IRow .u64 w.heap.size w p l) (hR : IRow .u64 w.heap.size w q r) (l1 : l.length ≤ 1099511627776) (l2 : r.length ≤ 1099511627776) :
    Calls Tryd.prog 13 #[.slice p l.length c, .slice q r.length d] w fun e w' => e = .returned (.int .i64 (cmpL l r)) ∧ w' = w := by
  obtain ⟨v, hv⟩ : ∃ v, v = cmpL l r := ⟨_, rfl⟩
  rw [← hv]
  have HV : Hid (v = cmpL (l.drop 0) (r.drop 0)) := hv
  obtain ⟨n, hn⟩ : ∃ n, n = l.length := ⟨_, rfl⟩
  obtain ⟨m, hm⟩ : ∃ m, m = r.length := ⟨_, rfl⟩
  have HN := hidOg hn
  have HM := hidOg hm
  have HS := hidOg hS
  have HR := hidOg hR
  rw [← hn] at l1 ⊢
  rw [← hm] at l2 ⊢
  clear hS hR hv hn hm
  have CL := fun (W : World) => cmp32 (n : Int) (m : Int) W
  obtain ⟨o, ho⟩ : ∃ o, o = cmpN (n : Int) (m : Int) := ⟨_, rfl⟩
  have HO := hidOg ho
  unfold cmpN at ho
  rw [← ho] at CL
  clear ho
  go_enter Tryd.func13, Tryd.ntmps13
  go_wp2
  go_step3
  go_wp2_with (first | (go_at_call 32; refine Calls.mono (CL _) ?_; rintro e w1 ⟨rfl, rfl⟩))
  go_step3
  go_wp2
  go_loop [5, 15] (fun u i => u = .int .i64 o ∧ ∃ k : Nat, k ≤ n ∧ k ≤ m ∧ i = .int .i64 k ∧ v = cmpL (l.drop k) (r.drop k)) (fun _ i => n - (intOf i).toNat)
  case atStart => exact ⟨rfl, 0, Nat.zero_le _, Nat.zero_le _, rfl, HV.out⟩
  case round =>
    obtain ⟨rfl, k, hk, hkm, rfl, hv⟩ := hrel
    have HW := hidOg hv
    clear hv HV
    by_cases hkn : k < n
    · obtain ⟨b, off, rfl, hbB, hcs⟩ := HS.out (by have := HN.out; omega)
      have c0 := hcs k (by have := HN.out; omega)
      clear hcs
      obtain ⟨x, hx⟩ : ∃ x, x = iG l k := ⟨_, rfl⟩
      rw [← hx] at c0
      have HX := hidOg hx
      clear hx
      by_cases hlm : k < m
      · obtain ⟨b', off', rfl, hbB', hcs'⟩ := HR.out (by have := HM.out; omega)
        have c0' := hcs' k (by have := HM.out; omega)
        clear hcs'
        obtain ⟨y, hy⟩ : ∃ y, y = iG r k := ⟨_, rfl⟩
        rw [← hy] at c0'
        have HY := hidOg hy
        clear hy
        have HE : Hid (v = if x < y then -1 else if y < x then 1 else cmpL (l.drop (k + 1)) (r.drop (k + 1))) := by
          unfold Hid; rw [HW.out, cmp_step (by rw [← HN.out]; exact hkn) (by rw [← HM.out]; exact hlm), HX.out, HY.out]
        have CC := fun (W : World) => cmp33 x y W
        have hge : ((k : Int) == (m : Int)) = false := by simp; omega
        by_cases hxy : x = y
        · have HE' : Hid (v = cmpL (l.drop (k + 1)) (r.drop (k + 1))) := by unfold Hid; rw [HE.out, if_neg (by omega), if_neg (by omega)]
          subst hxy
          clear HW HE CC
          go_wp2
          go_round
          case rel => exact ⟨rfl, k + 1, by omega, by omega, by go_num, HE'.out⟩
          case measure => simp [intOf]; omega
        · have hne : (x != y) = true := by simpa using hxy
          have HE' : Hid (v = if x < y then -1 else if y < x then 1 else 0) := by
            unfold Hid; rw [HE.out]
            by_cases h1 : x < y
            · rw [if_pos h1, if_pos h1]
            · rw [if_neg h1, if_neg h1, if_pos (by omega), if_pos (by omega)]
          rw [← HE'.out] at CC
          clear HW HE hxy
          go_wp2_with (first | (go_at_call 33; refine Calls.mono (CC _) ?_; rintro e w1 ⟨rfl, rfl⟩))
          rw [Exit.noGoto_ret]
          go_ret
          exact ⟨rfl, rfl⟩
      · have e : v = 1 := by rw [HW.out]; exact cmp_end (by rw [← HN.out]; exact hkn) (by have := HM.out; omega)
        have hge : ((k : Int) == (m : Int)) = true := by simp; omega
        have e1 : o = 1 := by rw [HO.out]; unfold cmpN; rw [if_neg (by omega), if_pos (by omega)]
        subst e e1
        clear HW HO
        go_wp2
        go_ret
        exact ⟨rfl, rfl⟩
    · obtain rfl : k = n := by omega
      go_wp2
      go_ret
      refine ⟨ret_int ?_, rfl⟩
      rw [HO.out, HW.out]; unfold cmpN
      by_cases hlm : k < m
      · rw [if_pos (by omega), cmp_out (by have := HN.out; omega) (by have := HM.out; omega)]
      · rw [if_neg (by omega), if_neg (by omega), cmp_both (by have := HN.out; omega) (by have := HM.out; omega)]

set_option maxRecDepth 20000 in
set_option maxHeartbeats 4000000 in
theorem refCompare14 (p : Option Addr) (l : List Int) (c : Nat) (q : Option Addr) (r : List Int) (d : Nat) (w : World) (hS : IRow .u64 w.heap.size w p l) (hR : IRow .u64 w.heap.size w q r) (l1 : l.length ≤ 1099511627776) (l2 : r.length ≤ 1099511627776) :
    Calls Tryd.prog 14 #[.slice p l.length c, .slice q r.length d] w fun e w' => e = .returned (.int .i64 (cmpL l r)) ∧ w' = w := by
  obtain ⟨v, hv⟩ : ∃ v, v = cmpL l r := ⟨_, rfl⟩
  rw [← hv]
  have HV : Hid (v = cmpL (l.drop 0) (r.drop 0)) := hv
  obtain ⟨n, hn⟩ : ∃ n, n = l.length := ⟨_, rfl⟩
  obtain ⟨m, hm⟩ : ∃ m, m = r.length := ⟨_, rfl⟩
  have HN := hidOg hn
  have HM := hidOg hm
  have HS := hidOg hS
  have HR := hidOg hR
  rw [← hn] at l1 ⊢
  rw [← hm] at l2 ⊢
  clear hS hR hv hn hm
  go_enter Tryd.func14, Tryd.ntmps14
  go_wp2
  go_loop [9] (fun i => ∃ k : Nat, k ≤ n ∧ k ≤ m ∧ i = .int .i64 k ∧ v = cmpL (l.drop k) (r.drop k)) (fun i => n - (intOf i).toNat)
  case atStart => exact ⟨0, Nat.zero_le _, Nat.zero_le _, rfl, HV.out⟩
  case round =>
    obtain ⟨k, hk, hkm, rfl, hv⟩ := hrel
    have HW := hidOg hv
    clear hv HV
    by_cases hkn : k < n
    · obtain ⟨b, off, rfl, hbB, hcs⟩ := HS.out (by have := HN.out; omega)
      have c0 := hcs k (by have := HN.out; omega)
      clear hcs
      obtain ⟨x, hx⟩ : ∃ x, x = iG l k := ⟨_, rfl⟩
      rw [← hx] at c0
      have HX := hidOg hx
      clear hx
      by_cases hlm : k < m
      · obtain ⟨b', off', rfl, hbB', hcs'⟩ := HR.out (by have := HM.out; omega)
        have c0' := hcs' k (by have := HM.out; omega)
        clear hcs'
        obtain ⟨y, hy⟩ : ∃ y, y = iG r k := ⟨_, rfl⟩
        rw [← hy] at c0'
        have HY := hidOg hy
        clear hy
        have HE : Hid (v = if x < y then -1 else if y < x then 1 else cmpL (l.drop (k + 1)) (r.drop (k + 1))) := by
          unfold Hid; rw [HW.out, cmp_step (by rw [← HN.out]; exact hkn) (by rw [← HM.out]; exact hlm), HX.out, HY.out]
        have hge : ((k : Int) == (m : Int)) = false := by simp; omega
        by_cases h1 : x < y
        · have e : v = -1 := by rw [HE.out, if_pos h1]
          subst e
          clear HW HE
          go_wp2
          go_ret
          exact ⟨rfl, rfl⟩
        · by_cases h2 : y < x
          · have e : v = 1 := by rw [HE.out, if_neg h1, if_pos h2]
            subst e
            clear HW HE
            go_wp2
            go_ret
            exact ⟨rfl, rfl⟩
          · have HE' : Hid (v = cmpL (l.drop (k + 1)) (r.drop (k + 1))) := by unfold Hid; rw [HE.out, if_neg h1, if_neg h2]
            clear HW HE
            go_wp2
            go_round
            case rel => exact ⟨k + 1, by omega, by omega, by go_num, HE'.out⟩
            case measure => simp [intOf]; omega
      · have e : v = 1 := by rw [HW.out]; exact cmp_end (by rw [← HN.out]; exact hkn) (by have := HM.out; omega)
        have hge : ((k : Int) == (m : Int)) = true := by simp; omega
        subst e
        clear HW
        go_wp2
        go_ret
        exact ⟨rfl, rfl⟩
    · obtain rfl : k = n := by omega
      by_cases hlm : k < m
      · have e : v = -1 := by rw [HW.out]; exact cmp_out (by have := HN.out; omega) (by have := HM.out; omega)
        subst e
        clear HW
        go_wp2
        go_ret
        exact ⟨rfl, rfl⟩
      · have e : v = 0 := by rw [HW.out]; exact cmp_both (by have := HN.out; omega) (by have := HM.out; omega)
        have hge : ¬ ((k : Int) < (m : Int)) := by omega
        subst e
        clear HW
        go_wp2
        go_ret
        exact ⟨rfl, rfl⟩
theorem refSame16 (p : Option Addr) (l : List Int) (c : Nat) (q : Option Addr) (r : List Int) (d : Nat) (w : World) (hS : IRow .u64 w.heap.size w p l) (hR : IRow .u64 w.heap.size w q r) (l1 : l.length ≤ 1099511627776) (l2 : r.length ≤ 1099511627776) :
    Calls Tryd.prog 16 #[.slice p l.length c, .slice q r.length d] w fun e w' => e = .returned (.bool (samI l r)) ∧ w' = w := by
  have CC := refCompare14 p l c q r d w hS hR l1 l2
  have HE : Hid (samI l r = (cmpL l r == 0)) := by unfold Hid; rw [sam_cmp]; rfl
  clear hS hR l1 l2
  go_enter Tryd.func16, Tryd.ntmps16
  go_wp2_with (first | (go_at_call 14; refine Calls.mono CC ?_; rintro e w1 ⟨rfl, rfl⟩))
  go_ret
  exact ⟨ret_bool HE.out.symm, rfl⟩
end Go.Proofs.YtofobpijkceldaaDoor
