/- The document's answer: May, Right, Has, Taken, Mentions, Meet, Without, Targets. -/
import Derived.Test.YtjnhalomkmdcgaaTyL
namespace Go.Proofs.Ytjnhalomkmdcgaa
open Go.RowKit

theorem may17 (x : Int) (w : World) (h0 : 0 ≤ x) (h1 : x < 18446744073709551616) :
    Calls Try.prog 42 #[.int .u64 x] w fun e w' => e = .returned (.bool (canB x)) ∧ w' = w := by
  have CK := fun (W : World) => refKind_any x W h0 h1
  by_cases k : kindOf x = 2
  · have E : Hid (canB x = true) := by unfold Hid canB; simp [k]
    go_enter Try.func42, Try.ntmps42
    go_wp2_with (first | (go_at_call 65; refine Calls.mono (CK _) ?_; rintro e w1 ⟨rfl, rfl⟩))
    go_ret
    exact ⟨ret_bool E.out.symm, rfl⟩
  · have E : Hid (canB x = (kindOf x == 3)) := by unfold Hid canB paiK; simp [k]; rfl
    have k' : (kindOf x == 2) = false := by simpa using k
    go_enter Try.func42, Try.ntmps42
    go_wp2_with (first | (go_at_call 65; refine Calls.mono (CK _) ?_; rintro e w1 ⟨rfl, rfl⟩))
    go_ret
    exact ⟨ret_bool E.out.symm, rfl⟩

/-- What Right has seen of the first k. -/
def rigK (l : List Int) (j : Nat) : Bool := canB (iG l j) && (decide (j = 0) || decide (iG l (j - 1) < iG l j))
theorem may_rig {l : List Int} (h : ∀ j, j < l.length → rigK l j = true) : mayT l = decide (l.length ≤ 12) := by
  by_cases h12 : l.length ≤ 12
  · rw [decide_eq_true h12]
    refine mayT_true fun j hj => ?_
    have := h j hj
    unfold rigK at this
    unfold okAt
    have e : decide (j = 12) = false := by simp; omega
    rw [e]; simpa using this
  · rw [decide_eq_false h12]
    exact mayT_false 12 (by omega) (by simp [okAt])
theorem may_rig_no {l : List Int} (j : Nat) (hj : j < l.length) (h : rigK l j = false) : mayT l = false := by
  refine mayT_false j hj ?_
  unfold rigK at h
  unfold okAt
  rw [Bool.and_assoc, h]; simp

set_option maxRecDepth 20000 in
set_option maxHeartbeats 4000000 in
theorem right12 (p : Option Addr) (l : List Int) (c : Nat) (w : World) (hS : IRow .u64 w.heap.size w p l) (hU : U64 l) (hn : l.length ≤ 1099511627776) :
    Calls Try.prog 21 #[.slice p l.length c] w fun e w' => e = .returned (.bool (mayT l)) ∧ w' = w := by
  obtain ⟨n, hn'⟩ : ∃ n, n = l.length := ⟨_, rfl⟩
  have HN := hidOg hn'
  obtain ⟨v, hv⟩ : ∃ v, v = mayT l := ⟨_, rfl⟩
  have HV := hidOg hv
  have HS := hidOg hS
  have HU := hidOg hU
  rw [← hn'] at hn ⊢
  rw [← hv]
  clear hS hU hn' hv
  go_enter Try.func21, Try.ntmps21
  go_wp2
  go_loop [7] (fun i => ∃ k : Nat, k ≤ n ∧ i = .int .i64 k ∧ ∀ j, j < k → rigK l j = true) (fun i => n - (intOf i).toNat)
  case atStart => exact ⟨0, Nat.zero_le _, rfl, fun j h => by omega⟩
  case round =>
    obtain ⟨k, hk, rfl, hok⟩ := hrel
    have HO := hidOg hok
    clear hok
    by_cases hlt : k < n
    · obtain ⟨b, off, rfl, hbB, hcs⟩ := HS.out (by have := HN.out; omega)
      have c0 := hcs k (by have := HN.out; omega)
      have c1 : 0 < k → w.cell? ⟨b, off + (k - 1), none⟩ = some (.int .u64 (iG l (k - 1))) := fun _ => hcs (k - 1) (by have := HN.out; omega)
      obtain ⟨u0, u1⟩ := HU.out.at (k := k) (by have := HN.out; omega)
      clear hcs
      have HX : Hid (rigK l k = (canB (iG l k) && (decide (k = 0) || decide (iG l (k - 1) < iG l k)))) := rfl
      have HF : Hid (rigK l k = false → v = false) := fun h => by rw [HV.out]; exact may_rig_no k (by have := HN.out; omega) h
      have HT : Hid (rigK l k = true → ∀ j, j < k + 1 → rigK l j = true) := fun h j hj => by
        by_cases e : j = k
        · rw [e]; exact h
        · exact HO.out j (by omega)
      obtain ⟨x, hx⟩ : ∃ x, x = iG l k := ⟨_, rfl⟩
      rw [← hx] at c0 u0 u1 HX
      clear hx
      have CC := fun (W : World) => may17 x W u0 u1
      cases cb : canB x
      · have e : v = false := HF.out (by rw [HX.out, cb]; rfl)
        subst e
        rw [cb] at CC
        clear c1 HT HF HX HV HO
        go_wp2_with (first | (go_at_call 42; refine Calls.mono (CC _) ?_; rintro e w1 ⟨rfl, rfl⟩))
        go_ret
        exact ⟨rfl, rfl⟩
      · rw [cb] at CC
        by_cases e0 : k = 0
        · have HT' := hidOg (HT.out (by rw [HX.out, cb, e0]; rfl))
          clear HT HF HX HV HO
          subst e0
          have c0 : w.cell? ⟨b, off, none⟩ = some (.int .u64 x) := by simpa using c0
          clear c1
          go_wp2_with (first | (go_at_call 42; refine Calls.mono (CC _) ?_; rintro e w1 ⟨rfl, rfl⟩))
          go_round
          case rel => exact ⟨1, by omega, by go_num, HT'.out⟩
          case measure => simp [intOf]; omega
        · obtain ⟨j, rfl⟩ : ∃ j, k = j + 1 := ⟨k - 1, by omega⟩
          have c1 : w.cell? ⟨b, off + j, none⟩ = some (.int .u64 (iG l j)) := c1 (by omega)
          obtain ⟨y, hy⟩ : ∃ y, y = iG l j := ⟨_, rfl⟩
          rw [← hy] at c1
          have HX : Hid (rigK l (j + 1) = decide (y < x)) := by unfold Hid; rw [HX.out, cb, hy]; simp
          clear hy HO e0
          by_cases hxy : y < x
          · have HT' := hidOg (HT.out (by rw [HX.out]; simpa using hxy))
            clear HT HF HX HV
            have hle : ¬ (x ≤ y) := by omega
            go_wp2_with (first | (go_at_call 42; refine Calls.mono (CC _) ?_; rintro e w1 ⟨rfl, rfl⟩))
            go_round
            case rel => exact ⟨j + 2, by omega, by go_num, HT'.out⟩
            case measure => simp [intOf]; omega
          · have e : v = false := HF.out (by rw [HX.out]; simpa using hxy)
            subst e
            clear HT HF HX HV
            have hle : x ≤ y := by omega
            go_wp2_with (first | (go_at_call 42; refine Calls.mono (CC _) ?_; rintro e w1 ⟨rfl, rfl⟩))
            go_ret
            exact ⟨rfl, rfl⟩
    · obtain rfl : k = n := by omega
      have E : Hid (v = decide ((k : Int) ≤ 12)) := by
        unfold Hid; rw [HV.out, may_rig (by rw [← HN.out]; exact HO.out), ← HN.out]
        by_cases h : k ≤ 12
        · rw [decide_eq_true h, decide_eq_true (by omega)]
        · rw [decide_eq_false h, decide_eq_false (by omega)]
      go_wp2
      go_ret
      exact ⟨ret_bool E.out.symm, rfl⟩

def inB (r : List Int) (y : Int) : Bool := decide (y ∈ r)
def neB (z y : Int) : Bool := !(y == z)
theorem own_ge {w : World} {base s n k : Nat} {e : TypeId} {v : Value} {xs : List Value} (h : w.ownsRow base e s v n xs) (hk : v.ownBlock = some k) : base ≤ k := by
  rcases h.2 with ⟨rfl, _⟩ | ⟨g, cap, cur, rfl, hg, _⟩
  · cases hk
  · have : g = k := Option.some.inj hk
    omega

end Go.Proofs.Ytjnhalomkmdcgaa
