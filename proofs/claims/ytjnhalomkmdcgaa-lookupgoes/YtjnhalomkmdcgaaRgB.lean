/- The document's answer: With, Of, Compare; slices.ContainsFunc. -/
import Derived.Test.YtjnhalomkmdcgaaRgA
namespace Go.Proofs.Ytjnhalomkmdcgaa
open Go.RowKit

def loB (x y : Int) : Bool := decide (y < x)
def hiB (x y : Int) : Bool := decide (x < y)
theorem insL_eq (l : List Int) (x : Int) : insL l x = (l.filter (loB x) ++ [x]) ++ l.filter (hiB x) := by
  unfold insL; rw [List.append_assoc]; rfl

theorem insL_bd {l : List Int} (x : Int) : (insL l x).length ≤ l.length + 1 := by
  rw [insL_eq]; simp only [List.length_append, List.length_cons, List.length_nil]
  have a : (l.filter (loB x)).length + (l.filter (hiB x)).length ≤ l.length := by
    induction l with
    | nil => simp
    | cons y t ih =>
      simp only [List.filter_cons, loB, hiB]
      by_cases h : y < x
      · have h' : ¬ x < y := by omega
        simp only [decide_eq_true h, decide_eq_false h', if_true, Bool.false_eq_true, if_false, List.length_cons]
        omega
      · simp only [decide_eq_false h, Bool.false_eq_true, if_false]
        by_cases g : x < y
        · simp only [decide_eq_true g, if_true, List.length_cons]; omega
        · simp only [decide_eq_false g, Bool.false_eq_true, if_false, List.length_cons]; omega
  omega
set_option maxRecDepth 20000 in
set_option maxHeartbeats 4000000 in
theorem compare22 (p : Option Addr) (l : List Int) (c : Nat) (q : Option Addr) (r : List Int) (d : Nat) (w : World) (hS : IRow .u64 w.heap.size w p l) (hR : IRow .u64 w.heap.size w q r) (l1 : l.length ≤ 1099511627776) (l2 : r.length ≤ 1099511627776) :
    Calls Try.prog 43 #[.slice p l.length c, .slice q r.length d] w fun e w' => e = .returned (.int .i64 (cmpL l r)) ∧ w' = w := by
  obtain ⟨v, hv⟩ : ∃ v, v = cmpL l r := ⟨_, rfl⟩
  rw [← hv]
  have HV : Hid (v = cmpL (l.drop 0) (r.drop 0)) := hv
  obtain ⟨n, hn⟩ : ∃ n, n = l.length := ⟨_, rfl⟩
  obtain ⟨m, hm⟩ : ∃ m, m = r.length := ⟨_, rfl⟩
  have HN := hidOg hn
  have HM := hidOg hm
  have HS := hidOg hS
  have HR := hidOg hR
  rw [← hn] at l1 ⊢
  rw [← hm] at l2 ⊢
  clear hS hR hv hn hm
  go_enter Try.func43, Try.ntmps43
  go_wp2
  go_loop [9] (fun i => ∃ k : Nat, k ≤ n ∧ k ≤ m ∧ i = .int .i64 k ∧ v = cmpL (l.drop k) (r.drop k)) (fun i => n - (intOf i).toNat)
  case atStart => exact ⟨0, Nat.zero_le _, Nat.zero_le _, rfl, HV.out⟩
  case round =>
    obtain ⟨k, hk, hkm, rfl, hv⟩ := hrel
    have HW := hidOg hv
    clear hv HV
    by_cases hkn : k < n
    · obtain ⟨b, off, rfl, hbB, hcs⟩ := HS.out (by have := HN.out; omega)
      have c0 := hcs k (by have := HN.out; omega)
      clear hcs
      obtain ⟨x, hx⟩ : ∃ x, x = iG l k := ⟨_, rfl⟩
      rw [← hx] at c0
      have HX := hidOg hx
      clear hx
      by_cases hlm : k < m
      · obtain ⟨b', off', rfl, hbB', hcs'⟩ := HR.out (by have := HM.out; omega)
        have c0' := hcs' k (by have := HM.out; omega)
        clear hcs'
        obtain ⟨y, hy⟩ : ∃ y, y = iG r k := ⟨_, rfl⟩
        rw [← hy] at c0'
        have HY := hidOg hy
        clear hy
        have HE : Hid (v = if x < y then -1 else if y < x then 1 else cmpL (l.drop (k + 1)) (r.drop (k + 1))) := by
          unfold Hid; rw [HW.out, cmp_step (by rw [← HN.out]; exact hkn) (by rw [← HM.out]; exact hlm), HX.out, HY.out]
        have hge : ((k : Int) == (m : Int)) = false := by simp; omega
        by_cases h1 : x < y
        · have e : v = -1 := by rw [HE.out, if_pos h1]
          have h2 : ¬ (y < x) := by omega
          subst e
          clear HW HE
          go_wp2
          go_ret
          exact ⟨rfl, rfl⟩
        · by_cases h2 : y < x
          · have e : v = 1 := by rw [HE.out, if_neg h1, if_pos h2]
            subst e
            clear HW HE
            go_wp2
            go_ret
            exact ⟨rfl, rfl⟩
          · have HE' : Hid (v = cmpL (l.drop (k + 1)) (r.drop (k + 1))) := by unfold Hid; rw [HE.out, if_neg h1, if_neg h2]
            clear HW HE
            go_wp2
            go_round
            case rel => exact ⟨k + 1, by omega, by omega, by go_num, HE'.out⟩
            case measure => simp [intOf]; omega
      · have e : v = 1 := by rw [HW.out]; exact cmp_end (by rw [← HN.out]; exact hkn) (by have := HM.out; omega)
        obtain rfl : k = m := by omega
        subst e
        clear HW
        go_wp2
        go_ret
        exact ⟨rfl, rfl⟩
    · obtain rfl : k = n := by omega
      by_cases hlm : k < m
      · have e : v = -1 := by rw [HW.out]; exact cmp_out (by have := HN.out; omega) (by have := HM.out; omega)
        subst e
        clear HW
        go_wp2
        go_ret
        exact ⟨rfl, rfl⟩
      · have e : v = 0 := by rw [HW.out]; exact cmp_both (by have := HN.out; omega) (by have := HM.out; omega)
        have hge : ¬ ((k : Int) < (m : Int)) := by omega
        subst e
        clear HW
        go_wp2
        go_ret
        exact ⟨rfl, rfl⟩

end Go.Proofs.Ytjnhalomkmdcgaa
