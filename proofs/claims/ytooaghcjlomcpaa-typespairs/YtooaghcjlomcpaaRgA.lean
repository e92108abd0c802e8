/- The document's answer: May, Right, Has, Taken, Mentions, Meet, Without, Targets. -/
import Derived.Test.YtooaghcjlomcpaaTyL
namespace Go.Proofs.Ytooaghcjlomcpaa
open Go.RowKit

theorem may17 (x : Int) (w : World) (h0 : 0 ≤ x) (h1 : x < 18446744073709551616) :
    Calls Try.prog 17 #[.int .u64 x] w fun e w' => e = .returned (.bool (canB x)) ∧ w' = w := by
  have CK := fun (W : World) => refKind_any x W h0 h1
  by_cases k : kindOf x = 2
  · have E : Hid (canB x = true) := by unfold Hid canB; simp [k]
    go_enter Try.func17, Try.ntmps17
    go_wp2_with (first | (go_at_call 52; refine Calls.mono (CK _) ?_; rintro e w1 ⟨rfl, rfl⟩))
    go_ret
    exact ⟨ret_bool E.out.symm, rfl⟩
  · have E : Hid (canB x = (kindOf x == 3)) := by unfold Hid canB paiK; simp [k]; rfl
    have k' : (kindOf x == 2) = false := by simpa using k
    go_enter Try.func17, Try.ntmps17
    go_wp2_with (first | (go_at_call 52; refine Calls.mono (CK _) ?_; rintro e w1 ⟨rfl, rfl⟩))
    go_ret
    exact ⟨ret_bool E.out.symm, rfl⟩

/-- What Right has seen of the first k. -/
def rigK (l : List Int) (j : Nat) : Bool := canB (iG l j) && (decide (j = 0) || decide (iG l (j - 1) < iG l j))
theorem may_rig {l : List Int} (h : ∀ j, j < l.length → rigK l j = true) : mayT l = decide (l.length ≤ 12) := by
  by_cases h12 : l.length ≤ 12
  · rw [decide_eq_true h12]
    refine mayT_true fun j hj => ?_
    have := h j hj
    unfold rigK at this
    unfold okAt
    have e : decide (j = 12) = false := by simp; omega
    rw [e]; simpa using this
  · rw [decide_eq_false h12]
    exact mayT_false 12 (by omega) (by simp [okAt])
theorem may_rig_no {l : List Int} (j : Nat) (hj : j < l.length) (h : rigK l j = false) : mayT l = false := by
  refine mayT_false j hj ?_
  unfold rigK at h
  unfold okAt
  rw [Bool.and_assoc, h]; simp

set_option maxRecDepth 20000 in
set_option maxHeartbeats 4000000 in
theorem right12 (p : Option Addr) (l : List Int) (c : Nat) (w : World) (hS : IRow .u64 w.heap.size w p l) (hU : U64 l) (hn : l.length ≤ 1099511627776) :
    Calls Try.prog 12 #[.slice p l.length c] w fun e w' => e = .returned (.bool (mayT l)) ∧ w' = w := by
  obtain ⟨n, hn'⟩ : ∃ n, n = l.length := ⟨_, rfl⟩
  have HN := hidOg hn'
  obtain ⟨v, hv⟩ : ∃ v, v = mayT l := ⟨_, rfl⟩
  have HV := hidOg hv
  have HS := hidOg hS
  have HU := hidOg hU
  rw [← hn'] at hn ⊢
  rw [← hv]
  clear hS hU hn' hv
  go_enter Try.func12, Try.ntmps12
  go_wp2
  go_loop [7] (fun i => ∃ k : Nat, k ≤ n ∧ i = .int .i64 k ∧ ∀ j, j < k → rigK l j = true) (fun i => n - (intOf i).toNat)
  case atStart => exact ⟨0, Nat.zero_le _, rfl, fun j h => by omega⟩
  case round =>
    obtain ⟨k, hk, rfl, hok⟩ := hrel
    have HO := hidOg hok
    clear hok
    by_cases hlt : k < n
    · obtain ⟨b, off, rfl, hbB, hcs⟩ := HS.out (by have := HN.out; omega)
      have c0 := hcs k (by have := HN.out; omega)
      have c1 : 0 < k → w.cell? ⟨b, off + (k - 1), none⟩ = some (.int .u64 (iG l (k - 1))) := fun _ => hcs (k - 1) (by have := HN.out; omega)
      obtain ⟨u0, u1⟩ := HU.out.at (k := k) (by have := HN.out; omega)
      clear hcs
      have HX : Hid (rigK l k = (canB (iG l k) && (decide (k = 0) || decide (iG l (k - 1) < iG l k)))) := rfl
      have HF : Hid (rigK l k = false → v = false) := fun h => by rw [HV.out]; exact may_rig_no k (by have := HN.out; omega) h
      have HT : Hid (rigK l k = true → ∀ j, j < k + 1 → rigK l j = true) := fun h j hj => by
        by_cases e : j = k
        · rw [e]; exact h
        · exact HO.out j (by omega)
      obtain ⟨x, hx⟩ : ∃ x, x = iG l k := ⟨_, rfl⟩
      rw [← hx] at c0 u0 u1 HX
      clear hx
      have CC := fun (W : World) => may17 x W u0 u1
      cases cb : canB x
      · have e : v = false := HF.out (by rw [HX.out, cb]; rfl)
        subst e
        rw [cb] at CC
        clear c1 HT HF HX HV HO
        go_wp2_with (first | (go_at_call 17; refine Calls.mono (CC _) ?_; rintro e w1 ⟨rfl, rfl⟩))
        go_ret
        exact ⟨rfl, rfl⟩
      · rw [cb] at CC
        by_cases e0 : k = 0
        · have HT' := hidOg (HT.out (by rw [HX.out, cb, e0]; rfl))
          clear HT HF HX HV HO
          subst e0
          have c0 : w.cell? ⟨b, off, none⟩ = some (.int .u64 x) := by simpa using c0
          clear c1
          go_wp2_with (first | (go_at_call 17; refine Calls.mono (CC _) ?_; rintro e w1 ⟨rfl, rfl⟩))
          go_round
          case rel => exact ⟨1, by omega, by go_num, HT'.out⟩
          case measure => simp [intOf]; omega
        · obtain ⟨j, rfl⟩ : ∃ j, k = j + 1 := ⟨k - 1, by omega⟩
          have c1 : w.cell? ⟨b, off + j, none⟩ = some (.int .u64 (iG l j)) := c1 (by omega)
          obtain ⟨y, hy⟩ : ∃ y, y = iG l j := ⟨_, rfl⟩
          rw [← hy] at c1
          have HX : Hid (rigK l (j + 1) = decide (y < x)) := by unfold Hid; rw [HX.out, cb, hy]; simp
          clear hy HO e0
          by_cases hxy : y < x
          · have HT' := hidOg (HT.out (by rw [HX.out]; simpa using hxy))
            clear HT HF HX HV
            have hle : ¬ (x ≤ y) := by omega
            go_wp2_with (first | (go_at_call 17; refine Calls.mono (CC _) ?_; rintro e w1 ⟨rfl, rfl⟩))
            go_round
            case rel => exact ⟨j + 2, by omega, by go_num, HT'.out⟩
            case measure => simp [intOf]; omega
          · have e : v = false := HF.out (by rw [HX.out]; simpa using hxy)
            subst e
            clear HT HF HX HV
            have hle : x ≤ y := by omega
            go_wp2_with (first | (go_at_call 17; refine Calls.mono (CC _) ?_; rintro e w1 ⟨rfl, rfl⟩))
            go_ret
            exact ⟨rfl, rfl⟩
    · obtain rfl : k = n := by omega
      have E : Hid (v = decide ((k : Int) ≤ 12)) := by
        unfold Hid; rw [HV.out, may_rig (by rw [← HN.out]; exact HO.out), ← HN.out]
        by_cases h : k ≤ 12
        · rw [decide_eq_true h, decide_eq_true (by omega)]
        · rw [decide_eq_false h, decide_eq_false (by omega)]
      go_wp2
      go_ret
      exact ⟨ret_bool E.out.symm, rfl⟩

set_option maxRecDepth 20000 in
set_option maxHeartbeats 2000000 in
theorem has25 (p : Option Addr) (l : List Int) (c : Nat) (x : Int) (w : World) (hS : IRow .u64 w.heap.size w p l) (hn : l.length ≤ 1099511627776) :
    Calls Try.prog 25 #[.slice p l.length c, .int .u64 x] w fun e w' => e = .returned (.bool (decide (x ∈ l))) ∧ w' = w := by
  obtain ⟨n, hn'⟩ : ∃ n, n = l.length := ⟨_, rfl⟩
  have HN := hidOg hn'
  obtain ⟨v, hv⟩ : ∃ v, v = decide (x ∈ l) := ⟨_, rfl⟩
  have HV := hidOg hv
  have HS := hidOg hS
  rw [← hn'] at hn ⊢
  rw [← hv]
  clear hS hn' hv
  go_enter Try.func25, Try.ntmps25
  go_wp2
  go_loop [9] (fun i => ∃ k : Nat, k ≤ n ∧ i = .int .i64 k ∧ ∀ j, j < k → iG l j ≠ x) (fun i => n - (intOf i).toNat)
  case atStart => exact ⟨0, Nat.zero_le _, rfl, fun j h => by omega⟩
  case round =>
    obtain ⟨k, hk, rfl, hok⟩ := hrel
    have HO := hidOg hok
    clear hok
    by_cases hlt : k < n
    · obtain ⟨b, off, rfl, hbB, hcs⟩ := HS.out (by have := HN.out; omega)
      have c0 := hcs k (by have := HN.out; omega)
      clear hcs
      obtain ⟨y, hy⟩ : ∃ y, y = iG l k := ⟨_, rfl⟩
      rw [← hy] at c0
      have HY := hidOg hy
      clear hy
      by_cases hxy : y = x
      · have e : v = true := by rw [HV.out, decide_eq_true]; rw [← hxy, HY.out]; exact iG_mem (by rw [← HN.out]; exact hlt)
        subst hxy e
        clear HV HO HY
        go_wp2
        go_ret
        exact ⟨rfl, rfl⟩
      · have h' : (y == x) = false := by simpa using hxy
        have HO' : Hid (∀ j, j < k + 1 → iG l j ≠ x) := fun j hj => by
          by_cases e : j = k
          · rw [e, ← HY.out]; exact hxy
          · exact HO.out j (by omega)
        clear HO HY hxy
        go_wp2
        go_round
        case rel => exact ⟨k + 1, by omega, by go_num, HO'.out⟩
        case measure => simp [intOf]; omega
    · obtain rfl : k = n := by omega
      have e : v = false := by
        rw [HV.out, decide_eq_false]; intro h
        obtain ⟨j, hj, e⟩ := List.getElem_of_mem h
        exact HO.out j (by rw [HN.out]; exact hj) (by rw [iG_eq hj]; exact e)
      subst e
      clear HV HO
      go_wp2
      go_ret
      exact ⟨rfl, rfl⟩

def inB (r : List Int) (y : Int) : Bool := decide (y ∈ r)
def neB (z y : Int) : Bool := !(y == z)
theorem own_ge {w : World} {base s n k : Nat} {e : TypeId} {v : Value} {xs : List Value} (h : w.ownsRow base e s v n xs) (hk : v.ownBlock = some k) : base ≤ k := by
  rcases h.2 with ⟨rfl, _⟩ | ⟨g, cap, cur, rfl, hg, _⟩
  · cases hk
  · have : g = k := Option.some.inj hk
    omega

set_option maxRecDepth 20000 in
set_option maxHeartbeats 4000000 in
theorem taken23 (p : Option Addr) (l : List Int) (c : Nat) (pat : Int) (g0 : 0 ≤ pat) (g1 : pat < 18446744073709551616) (w : World) (hS : IRow .u64 w.heap.size w p l) (hU : U64 l) (hn : l.length ≤ 1099511627776) :
    Calls Try.prog 23 #[.slice p l.length c, .int .u64 pat] w fun e w' => Gives (l.filter (takesB pat)) w e w' := by
  obtain ⟨i0, hi, hz0, hz1, hz2⟩ := info_parts Try.info33
  obtain ⟨n, hn'⟩ : ∃ n, n = l.length := ⟨_, rfl⟩
  have HN := hidOg hn'
  have HFI : Hid (tolN l (takesB pat) n = l.filter (takesB pat)) := by unfold Hid; rw [tolN_filter l _ n (by omega), hn', List.take_length]
  have HS := hidOg hS
  have HU := hidOg hU
  rw [← hn'] at hn ⊢
  clear hS hU hn'
  go_enter Try.func23, Try.ntmps23
  go_wp2
  go_loopw [5, 10] (fun o i wr => ∃ k : Nat, k ≤ n ∧ i = .int .i64 k ∧ wr.ownsRow w.heap.size 33 1 o (tolN l (takesB pat) k).length ((tolN l (takesB pat) k).map (Value.int .u64)) ∧ Below w.heap.size w wr) (fun _ i _ => n - (intOf i).toNat)
  case atStart => exact ⟨0, Nat.zero_le _, rfl, World.ownsRow_nil _ _ _ _, Below.refl _ _⟩
  case round =>
    obtain ⟨k, hk, rfl, ho, hB⟩ := hrel
    have HO := hidOg ho
    have HB := hidOg hB
    have hsz := hB.size
    have HLL : Hid ((tolN l (takesB pat) k).length ≤ k) := tolN_len l _ k
    clear ho hB
    by_cases hlt : k < n
    · obtain ⟨b, off, rfl, hbB, hcs⟩ := (HS.out.below HB.out (Nat.le_refl _)) (by have := HN.out; omega)
      have c0 := hcs k (by have := HN.out; omega)
      clear hcs
      obtain ⟨u0, u1⟩ := HU.out.at (k := k) (by have := HN.out; omega)
      have HT1 : Hid ((takesB pat) (iG l k) = true → tolN l (takesB pat) (k + 1) = tolN l (takesB pat) k ++ [iG l k]) := tolN_t
      have HT0 : Hid ((takesB pat) (iG l k) = false → tolN l (takesB pat) (k + 1) = tolN l (takesB pat) k) := tolN_f
      obtain ⟨x, hx⟩ : ∃ x, x = iG l k := ⟨_, rfl⟩
      rw [← hx] at c0 u0 u1 HT1 HT0
      clear hx
      have CT := fun (W : World) => refTakes_any pat x W g0 g1 u0 u1
      cases hb : (takesB pat) x
      · have HA := hidOg (HT0.out hb)
        rw [hb] at CT
        clear HT0 HT1
        go_wp2_with (first | (go_at_call 59; refine Calls.mono (CT _) ?_; rintro e w1 ⟨rfl, rfl⟩))
        go_roundw
        case rel => exact ⟨k + 1, by omega, by go_num, by rw [HA.out]; exact HO.out, HB.out⟩
        case measure => simp [intOf]; omega
      · have HA := hidOg (HT1.out hb)
        have hll := HLL.out
        obtain ⟨t, ht⟩ : ∃ t, t = tolN l (takesB pat) k := ⟨_, rfl⟩
        rw [← ht] at HO HA hll
        clear ht HLL
        rw [hb] at CT
        clear HT0 HT1
        go_wp2_with (first | (go_at_call 59; refine Calls.mono (CT _) ?_; rintro e w1 ⟨rfl, rfl⟩) | (at_builtin; refine wpList_append_own _ rfl _ _ 22 rfl w.heap.size 33 i0 (.int .u64 0) 1 8 Try.underlying22 hi hz0 hz1 hz2 rfl (by decide) _ _ _ rfl (HO.out.alloc _) _ 1 1 [.int .u64 (x)] rfl rfl (cell_one_new _ _ _) (by simp [Value.oneCell']) (by unfold maxLen; omega) (by omega) (by simp; omega) ?_; intro v6 w6 hown6 hgrow6 _))
        go_roundw
        case rel => exact ⟨k + 1, by omega, by go_num, by rw [HA.out]; simpa using hown6, (HB.out.alloc HB.out.size _).grown hgrow6 (by simp; omega) (fun j hj => own_ge HO.out hj)⟩
        case measure => simp [intOf]; omega
    · obtain rfl : k = n := by omega
      go_wp2
      go_ret
      exact gives_owns (w0 := w) (Below.refl _ _) (by rw [← HFI.out]; exact HO.out) (by rw [← HFI.out]; have := HLL.out; omega) HB.out

set_option maxRecDepth 20000 in
set_option maxHeartbeats 4000000 in
theorem meet20 (p : Option Addr) (l : List Int) (c : Nat) (q : Option Addr) (r : List Int) (d : Nat) (w : World) (hS : IRow .u64 w.heap.size w p l) (hU : U64 l) (hn : l.length ≤ 1099511627776) (hR : Row w q r d) :
    Calls Try.prog 20 #[.slice p l.length c, .slice q r.length d] w fun e w' => Gives (l.filter (inB r)) w e w' := by
  obtain ⟨i0, hi, hz0, hz1, hz2⟩ := info_parts Try.info33
  obtain ⟨n, hn'⟩ : ∃ n, n = l.length := ⟨_, rfl⟩
  have HN := hidOg hn'
  have HFI : Hid (tolN l (inB r) n = l.filter (inB r)) := by unfold Hid; rw [tolN_filter l _ n (by omega), hn', List.take_length]
  have HS := hidOg hS
  have HU := hidOg hU
  rw [← hn'] at hn ⊢
  clear hS hU hn'
  go_enter Try.func20, Try.ntmps20
  go_wp2
  go_loopw [5, 10] (fun o i wr => ∃ k : Nat, k ≤ n ∧ i = .int .i64 k ∧ wr.ownsRow w.heap.size 33 1 o (tolN l (inB r) k).length ((tolN l (inB r) k).map (Value.int .u64)) ∧ Below w.heap.size w wr) (fun _ i _ => n - (intOf i).toNat)
  case atStart => exact ⟨0, Nat.zero_le _, rfl, World.ownsRow_nil _ _ _ _, Below.refl _ _⟩
  case round =>
    obtain ⟨k, hk, rfl, ho, hB⟩ := hrel
    have HO := hidOg ho
    have HB := hidOg hB
    have hsz := hB.size
    have HLL : Hid ((tolN l (inB r) k).length ≤ k) := tolN_len l _ k
    clear ho hB
    by_cases hlt : k < n
    · obtain ⟨b, off, rfl, hbB, hcs⟩ := (HS.out.below HB.out (Nat.le_refl _)) (by have := HN.out; omega)
      have c0 := hcs k (by have := HN.out; omega)
      clear hcs
      obtain ⟨u0, u1⟩ := HU.out.at (k := k) (by have := HN.out; omega)
      have HT1 : Hid ((inB r) (iG l k) = true → tolN l (inB r) (k + 1) = tolN l (inB r) k ++ [iG l k]) := tolN_t
      have HT0 : Hid ((inB r) (iG l k) = false → tolN l (inB r) (k + 1) = tolN l (inB r) k) := tolN_f
      obtain ⟨x, hx⟩ : ∃ x, x = iG l k := ⟨_, rfl⟩
      rw [← hx] at c0 u0 u1 HT1 HT0
      clear hx
      have CT := has25 q r d x wr (hR.i.below HB.out (Nat.le_refl _) |>.mono hsz) hR.n
      cases hb : (inB r) x
      · have HA := hidOg (HT0.out hb)
        have hb : decide (x ∈ r) = false := hb
        rw [hb] at CT
        clear HT0 HT1 hb
        go_wp2_with (first | (go_at_call 25; refine Calls.mono CT ?_; rintro e w1 ⟨rfl, rfl⟩))
        go_roundw
        case rel => exact ⟨k + 1, by omega, by go_num, by rw [HA.out]; exact HO.out, HB.out⟩
        case measure => simp [intOf]; omega
      · have HA := hidOg (HT1.out hb)
        have hll := HLL.out
        obtain ⟨t, ht⟩ : ∃ t, t = tolN l (inB r) k := ⟨_, rfl⟩
        rw [← ht] at HO HA hll
        clear ht HLL
        have hb : decide (x ∈ r) = true := hb
        rw [hb] at CT
        clear HT0 HT1 hb
        go_wp2_with (first | (go_at_call 25; refine Calls.mono CT ?_; rintro e w1 ⟨rfl, rfl⟩) | (at_builtin; refine wpList_append_own _ rfl _ _ 22 rfl w.heap.size 33 i0 (.int .u64 0) 1 8 Try.underlying22 hi hz0 hz1 hz2 rfl (by decide) _ _ _ rfl (HO.out.alloc _) _ 1 1 [.int .u64 (x)] rfl rfl (cell_one_new _ _ _) (by simp [Value.oneCell']) (by unfold maxLen; omega) (by omega) (by simp; omega) ?_; intro v6 w6 hown6 hgrow6 _))
        go_roundw
        case rel => exact ⟨k + 1, by omega, by go_num, by rw [HA.out]; simpa using hown6, (HB.out.alloc HB.out.size _).grown hgrow6 (by simp; omega) (fun j hj => own_ge HO.out hj)⟩
        case measure => simp [intOf]; omega
    · obtain rfl : k = n := by omega
      go_wp2
      go_ret
      exact gives_owns (w0 := w) (Below.refl _ _) (by rw [← HFI.out]; exact HO.out) (by rw [← HFI.out]; have := HLL.out; omega) HB.out

set_option maxRecDepth 20000 in
set_option maxHeartbeats 4000000 in
theorem without35 (p : Option Addr) (l : List Int) (c : Nat) (z : Int) (w : World) (hS : IRow .u64 w.heap.size w p l) (hU : U64 l) (hn : l.length ≤ 1099511627776) :
    Calls Try.prog 35 #[.slice p l.length c, .int .u64 z] w fun e w' => Gives (l.filter (neB z)) w e w' := by
  obtain ⟨i0, hi, hz0, hz1, hz2⟩ := info_parts Try.info33
  obtain ⟨n, hn'⟩ : ∃ n, n = l.length := ⟨_, rfl⟩
  have HN := hidOg hn'
  have HFI : Hid (tolN l (neB z) n = l.filter (neB z)) := by unfold Hid; rw [tolN_filter l _ n (by omega), hn', List.take_length]
  have HS := hidOg hS
  have HU := hidOg hU
  rw [← hn'] at hn ⊢
  clear hS hU hn'
  go_enter Try.func35, Try.ntmps35
  go_wp2
  go_loopw [5, 10] (fun o i wr => ∃ k : Nat, k ≤ n ∧ i = .int .i64 k ∧ wr.ownsRow w.heap.size 33 1 o (tolN l (neB z) k).length ((tolN l (neB z) k).map (Value.int .u64)) ∧ Below w.heap.size w wr) (fun _ i _ => n - (intOf i).toNat)
  case atStart => exact ⟨0, Nat.zero_le _, rfl, World.ownsRow_nil _ _ _ _, Below.refl _ _⟩
  case round =>
    obtain ⟨k, hk, rfl, ho, hB⟩ := hrel
    have HO := hidOg ho
    have HB := hidOg hB
    have hsz := hB.size
    have HLL : Hid ((tolN l (neB z) k).length ≤ k) := tolN_len l _ k
    clear ho hB
    by_cases hlt : k < n
    · obtain ⟨b, off, rfl, hbB, hcs⟩ := (HS.out.below HB.out (Nat.le_refl _)) (by have := HN.out; omega)
      have c0 := hcs k (by have := HN.out; omega)
      clear hcs
      obtain ⟨u0, u1⟩ := HU.out.at (k := k) (by have := HN.out; omega)
      have HT1 : Hid ((neB z) (iG l k) = true → tolN l (neB z) (k + 1) = tolN l (neB z) k ++ [iG l k]) := tolN_t
      have HT0 : Hid ((neB z) (iG l k) = false → tolN l (neB z) (k + 1) = tolN l (neB z) k) := tolN_f
      obtain ⟨x, hx⟩ : ∃ x, x = iG l k := ⟨_, rfl⟩
      rw [← hx] at c0 u0 u1 HT1 HT0
      clear hx
      cases hb : (neB z) x
      · have HA := hidOg (HT0.out hb)
        have hb : x = z := by simpa [neB] using hb
        subst hb
        clear HT0 HT1
        go_wp2
        go_roundw
        case rel => exact ⟨k + 1, by omega, by go_num, by rw [HA.out]; exact HO.out, HB.out⟩
        case measure => simp [intOf]; omega
      · have HA := hidOg (HT1.out hb)
        have hll := HLL.out
        obtain ⟨t, ht⟩ : ∃ t, t = tolN l (neB z) k := ⟨_, rfl⟩
        rw [← ht] at HO HA hll
        clear ht HLL
        have hb : (x == z) = false := by simpa [neB] using hb
        clear HT0 HT1
        go_wp2_with (first | (at_builtin; refine wpList_append_own _ rfl _ _ 22 rfl w.heap.size 33 i0 (.int .u64 0) 1 8 Try.underlying22 hi hz0 hz1 hz2 rfl (by decide) _ _ _ rfl (HO.out.alloc _) _ 1 1 [.int .u64 (x)] rfl rfl (cell_one_new _ _ _) (by simp [Value.oneCell']) (by unfold maxLen; omega) (by omega) (by simp; omega) ?_; intro v6 w6 hown6 hgrow6 _))
        go_roundw
        case rel => exact ⟨k + 1, by omega, by go_num, by rw [HA.out]; simpa using hown6, (HB.out.alloc HB.out.size _).grown hgrow6 (by simp; omega) (fun j hj => own_ge HO.out hj)⟩
        case measure => simp [intOf]; omega
    · obtain rfl : k = n := by omega
      go_wp2
      go_ret
      exact gives_owns (w0 := w) (Below.refl _ _) (by rw [← HFI.out]; exact HO.out) (by rw [← HFI.out]; have := HLL.out; omega) HB.out

set_option maxRecDepth 20000 in
set_option maxHeartbeats 4000000 in
theorem mentions28 (p : Option Addr) (l : List Int) (c : Nat) (n0 : Int) (w : World) (hS : IRow .u64 w.heap.size w p l) (hU : U64 l) (hn : l.length ≤ 1099511627776) :
    Calls Try.prog 28 #[.slice p l.length c, .int .i64 n0] w fun e w' => Gives (l.filter (menB n0)) w e w' := by
  obtain ⟨i0, hi, hz0, hz1, hz2⟩ := info_parts Try.info33
  obtain ⟨n, hn'⟩ : ∃ n, n = l.length := ⟨_, rfl⟩
  have HN := hidOg hn'
  have HFI : Hid (tolN l (menB n0) n = l.filter (menB n0)) := by unfold Hid; rw [tolN_filter l _ n (by omega), hn', List.take_length]
  have HS := hidOg hS
  have HU := hidOg hU
  rw [← hn'] at hn ⊢
  clear hS hU hn'
  go_enter Try.func28, Try.ntmps28
  go_wp2
  go_loopw [5, 12] (fun o i wr => ∃ k : Nat, k ≤ n ∧ i = .int .i64 k ∧ wr.ownsRow w.heap.size 33 1 o (tolN l (menB n0) k).length ((tolN l (menB n0) k).map (Value.int .u64)) ∧ Below w.heap.size w wr) (fun _ i _ => n - (intOf i).toNat)
  case atStart => exact ⟨0, Nat.zero_le _, rfl, World.ownsRow_nil _ _ _ _, Below.refl _ _⟩
  case round =>
    obtain ⟨k, hk, rfl, ho, hB⟩ := hrel
    have HO := hidOg ho
    have HB := hidOg hB
    have hsz := hB.size
    have HLL : Hid ((tolN l (menB n0) k).length ≤ k) := tolN_len l _ k
    clear ho hB
    by_cases hlt : k < n
    · obtain ⟨b, off, rfl, hbB, hcs⟩ := (HS.out.below HB.out (Nat.le_refl _)) (by have := HN.out; omega)
      have c0 := hcs k (by have := HN.out; omega)
      clear hcs
      obtain ⟨u0, u1⟩ := HU.out.at (k := k) (by have := HN.out; omega)
      have HT1 : Hid ((menB n0) (iG l k) = true → tolN l (menB n0) (k + 1) = tolN l (menB n0) k ++ [iG l k]) := tolN_t
      have HT0 : Hid ((menB n0) (iG l k) = false → tolN l (menB n0) (k + 1) = tolN l (menB n0) k) := tolN_f
      obtain ⟨x, hx⟩ : ∃ x, x = iG l k := ⟨_, rfl⟩
      rw [← hx] at c0 u0 u1 HT1 HT0
      clear hx
      have CP := fun (W : World) => refParts_any x W u0 u1
      have CK := fun (W : World) => refKind_any x W u0 u1
      obtain ⟨a, ha⟩ : ∃ a, a = p1 x := ⟨_, rfl⟩
      obtain ⟨b', hb'⟩ : ∃ b', b' = p2 x := ⟨_, rfl⟩
      obtain ⟨kk, hkk⟩ : ∃ kk, kk = kindOf x := ⟨_, rfl⟩
      have HVY : Hid (p2 x = b') := hb'.symm
      rw [← ha, ← hb'] at CP
      rw [← hkk] at CK
      have E : menB n0 x = (decide (kk = 3) && (decide (a = n0) || decide (b' = n0))) := by rw [ha, hb', hkk]; rfl
      have CS : (menB n0 x = true ∧ kk = 3 ∧ (a == n0) = true) ∨ (menB n0 x = true ∧ kk = 3 ∧ (a == n0) = false ∧ (b' == n0) = true) ∨ (menB n0 x = false ∧ kk = 3 ∧ (a == n0) = false ∧ (b' == n0) = false) ∨ (menB n0 x = false ∧ (kk == 3) = false) := by
        rw [E]
        by_cases e1 : kk = 3
        · by_cases e2 : a = n0
          · simp [e1, e2]
          · by_cases e3 : b' = n0
            · simp [e1, e2, e3]
            · simp [e1, e2, e3]
        · simp [e1]
      clear E ha hb' hkk
      rcases CS with ⟨hb, rfl, e2⟩ | ⟨hb, rfl, e2, e3⟩ | ⟨hb, rfl, e2, e3⟩ | ⟨hb, e1⟩
      · have HA := hidOg (HT1.out hb)
        have hll := HLL.out
        obtain ⟨t, ht⟩ : ∃ t, t = tolN l (menB n0) k := ⟨_, rfl⟩
        rw [← ht] at HO HA hll
        clear ht HLL
        clear HT0 HT1 hb HVY
        go_wp2_with (first | (go_at_call 62; refine Calls.mono (CP _) ?_; rintro e w1 ⟨rfl, rfl⟩) | (go_at_call 52; refine Calls.mono (CK _) ?_; rintro e w1 ⟨rfl, rfl⟩) | (at_builtin; refine wpList_append_own _ rfl _ _ 22 rfl w.heap.size 33 i0 (.int .u64 0) 1 8 Try.underlying22 hi hz0 hz1 hz2 rfl (by decide) _ _ _ rfl (HO.out.alloc _) _ 1 1 [.int .u64 (x)] rfl rfl (cell_one_new _ _ _) (by simp [Value.oneCell']) (by unfold maxLen; omega) (by omega) (by simp; omega) ?_; intro v6 w6 hown6 hgrow6 _))
        go_roundw
        case rel => exact ⟨k + 1, by omega, by go_num, by rw [HA.out]; simpa using hown6, (HB.out.alloc HB.out.size _).grown hgrow6 (by simp; omega) (fun j hj => own_ge HO.out hj)⟩
        case measure => simp [intOf]; omega
      · have HA := hidOg (HT1.out hb)
        have hll := HLL.out
        obtain ⟨t, ht⟩ : ∃ t, t = tolN l (menB n0) k := ⟨_, rfl⟩
        rw [← ht] at HO HA hll
        clear ht HLL
        clear HT0 HT1 hb HVY
        go_wp2_with (first | (go_at_call 62; refine Calls.mono (CP _) ?_; rintro e w1 ⟨rfl, rfl⟩) | (go_at_call 52; refine Calls.mono (CK _) ?_; rintro e w1 ⟨rfl, rfl⟩) | (at_builtin; refine wpList_append_own _ rfl _ _ 22 rfl w.heap.size 33 i0 (.int .u64 0) 1 8 Try.underlying22 hi hz0 hz1 hz2 rfl (by decide) _ _ _ rfl (HO.out.alloc _) _ 1 1 [.int .u64 (x)] rfl rfl (cell_one_new _ _ _) (by simp [Value.oneCell']) (by unfold maxLen; omega) (by omega) (by simp; omega) ?_; intro v6 w6 hown6 hgrow6 _))
        go_roundw
        case rel => exact ⟨k + 1, by omega, by go_num, by rw [HA.out]; simpa using hown6, (HB.out.alloc HB.out.size _).grown hgrow6 (by simp; omega) (fun j hj => own_ge HO.out hj)⟩
        case measure => simp [intOf]; omega
      · have HA := hidOg (HT0.out hb)
        clear HT0 HT1 hb HVY
        go_wp2_with (first | (go_at_call 62; refine Calls.mono (CP _) ?_; rintro e w1 ⟨rfl, rfl⟩) | (go_at_call 52; refine Calls.mono (CK _) ?_; rintro e w1 ⟨rfl, rfl⟩))
        go_roundw
        case rel => exact ⟨k + 1, by omega, by go_num, by rw [HA.out]; exact HO.out, HB.out⟩
        case measure => simp [intOf]; omega
      · have HA := hidOg (HT0.out hb)
        clear HT0 HT1 hb HVY
        go_wp2_with (first | (go_at_call 62; refine Calls.mono (CP _) ?_; rintro e w1 ⟨rfl, rfl⟩) | (go_at_call 52; refine Calls.mono (CK _) ?_; rintro e w1 ⟨rfl, rfl⟩))
        go_roundw
        case rel => exact ⟨k + 1, by omega, by go_num, by rw [HA.out]; exact HO.out, HB.out⟩
        case measure => simp [intOf]; omega
    · obtain rfl : k = n := by omega
      go_wp2
      go_ret
      exact gives_owns (w0 := w) (Below.refl _ _) (by rw [← HFI.out]; exact HO.out) (by rw [← HFI.out]; have := HLL.out; omega) HB.out

set_option maxRecDepth 20000 in
set_option maxHeartbeats 4000000 in
theorem targets27 (p : Option Addr) (l : List Int) (c : Nat) (n0 : Int) (w : World) (hS : IRow .u64 w.heap.size w p l) (hU : U64 l) (hn : l.length ≤ 1099511627776) :
    Calls Try.prog 27 #[.slice p l.length c, .int .i64 n0] w fun e w' => GivesI ((l.filter (relB n0)).map p2) w e w' := by
  obtain ⟨i0, hi, hz0, hz1, hz2⟩ := info_parts Try.info3
  obtain ⟨n, hn'⟩ : ∃ n, n = l.length := ⟨_, rfl⟩
  have HN := hidOg hn'
  have HFI : Hid (tolN l (relB n0) n = l.filter (relB n0)) := by unfold Hid; rw [tolN_filter l _ n (by omega), hn', List.take_length]
  have HS := hidOg hS
  have HU := hidOg hU
  rw [← hn'] at hn ⊢
  clear hS hU hn'
  go_enter Try.func27, Try.ntmps27
  go_wp2
  go_loopw [5, 12] (fun o i wr => ∃ k : Nat, k ≤ n ∧ i = .int .i64 k ∧ wr.ownsRow w.heap.size 3 1 o (tolN l (relB n0) k).length ((tolN l (relB n0) k).map (fun y => Value.int .i64 (p2 y))) ∧ Below w.heap.size w wr) (fun _ i _ => n - (intOf i).toNat)
  case atStart => exact ⟨0, Nat.zero_le _, rfl, World.ownsRow_nil _ _ _ _, Below.refl _ _⟩
  case round =>
    obtain ⟨k, hk, rfl, ho, hB⟩ := hrel
    have HO := hidOg ho
    have HB := hidOg hB
    have hsz := hB.size
    have HLL : Hid ((tolN l (relB n0) k).length ≤ k) := tolN_len l _ k
    clear ho hB
    by_cases hlt : k < n
    · obtain ⟨b, off, rfl, hbB, hcs⟩ := (HS.out.below HB.out (Nat.le_refl _)) (by have := HN.out; omega)
      have c0 := hcs k (by have := HN.out; omega)
      clear hcs
      obtain ⟨u0, u1⟩ := HU.out.at (k := k) (by have := HN.out; omega)
      have HT1 : Hid ((relB n0) (iG l k) = true → tolN l (relB n0) (k + 1) = tolN l (relB n0) k ++ [iG l k]) := tolN_t
      have HT0 : Hid ((relB n0) (iG l k) = false → tolN l (relB n0) (k + 1) = tolN l (relB n0) k) := tolN_f
      obtain ⟨x, hx⟩ : ∃ x, x = iG l k := ⟨_, rfl⟩
      rw [← hx] at c0 u0 u1 HT1 HT0
      clear hx
      have CP := fun (W : World) => refParts_any x W u0 u1
      have CK := fun (W : World) => refKind_any x W u0 u1
      obtain ⟨a, ha⟩ : ∃ a, a = p1 x := ⟨_, rfl⟩
      obtain ⟨b', hb'⟩ : ∃ b', b' = p2 x := ⟨_, rfl⟩
      obtain ⟨kk, hkk⟩ : ∃ kk, kk = kindOf x := ⟨_, rfl⟩
      have HVY : Hid (p2 x = b') := hb'.symm
      rw [← ha, ← hb'] at CP
      rw [← hkk] at CK
      have E : relB n0 x = (decide (kk = 3) && decide (a = n0)) := by rw [ha, hkk]; rfl
      have CS : (relB n0 x = true ∧ kk = 3 ∧ (a == n0) = true) ∨ (relB n0 x = false ∧ kk = 3 ∧ (a == n0) = false) ∨ (relB n0 x = false ∧ (kk == 3) = false) := by
        rw [E]
        by_cases e1 : kk = 3
        · by_cases e2 : a = n0
          · simp [e1, e2]
          · simp [e1, e2]
        · simp [e1]
      clear E ha hb' hkk
      rcases CS with ⟨hb, rfl, e2⟩ | ⟨hb, rfl, e2⟩ | ⟨hb, e1⟩
      · have HA := hidOg (HT1.out hb)
        have hll := HLL.out
        obtain ⟨t, ht⟩ : ∃ t, t = tolN l (relB n0) k := ⟨_, rfl⟩
        rw [← ht] at HO HA hll
        clear ht HLL
        clear HT0 HT1 hb
        go_wp2_with (first | (go_at_call 62; refine Calls.mono (CP _) ?_; rintro e w1 ⟨rfl, rfl⟩) | (go_at_call 52; refine Calls.mono (CK _) ?_; rintro e w1 ⟨rfl, rfl⟩) | (at_builtin; refine wpList_append_own _ rfl _ _ 39 rfl w.heap.size 3 i0 (.int .i64 0) 1 8 Try.underlying39 hi hz0 hz1 hz2 rfl (by decide) _ _ _ rfl (HO.out.alloc _) _ 1 1 [.int .i64 (b')] rfl rfl (cell_one_new _ _ _) (by simp [Value.oneCell']) (by unfold maxLen; omega) (by omega) (by simp; omega) ?_; intro v6 w6 hown6 hgrow6 _))
        go_roundw
        case rel => exact ⟨k + 1, by omega, by go_num, by rw [HA.out]; simpa [HVY.out] using hown6, (HB.out.alloc HB.out.size _).grown hgrow6 (by simp; omega) (fun j hj => own_ge HO.out hj)⟩
        case measure => simp [intOf]; omega
      · have HA := hidOg (HT0.out hb)
        clear HT0 HT1 hb
        go_wp2_with (first | (go_at_call 62; refine Calls.mono (CP _) ?_; rintro e w1 ⟨rfl, rfl⟩) | (go_at_call 52; refine Calls.mono (CK _) ?_; rintro e w1 ⟨rfl, rfl⟩))
        go_roundw
        case rel => exact ⟨k + 1, by omega, by go_num, by rw [HA.out]; exact HO.out, HB.out⟩
        case measure => simp [intOf]; omega
      · have HA := hidOg (HT0.out hb)
        clear HT0 HT1 hb
        go_wp2_with (first | (go_at_call 62; refine Calls.mono (CP _) ?_; rintro e w1 ⟨rfl, rfl⟩) | (go_at_call 52; refine Calls.mono (CK _) ?_; rintro e w1 ⟨rfl, rfl⟩))
        go_roundw
        case rel => exact ⟨k + 1, by omega, by go_num, by rw [HA.out]; exact HO.out, HB.out⟩
        case measure => simp [intOf]; omega
    · obtain rfl : k = n := by omega
      go_wp2
      go_ret
      have ho := HO.out
      rw [HFI.out] at ho
      have e1 : ((l.filter (relB n0)).map p2).length = (l.filter (relB n0)).length := by simp
      have e2 : (l.filter (relB n0)).map (fun y => Value.int .i64 (p2 y)) = ((l.filter (relB n0)).map p2).map (Value.int .i64) := by rw [List.map_map]; rfl
      rw [e2, ← e1] at ho
      obtain ⟨p', c', e, hi', _⟩ := irow_owns ho
      exact ⟨p', c', by rw [← e]; rfl, hi', HB.out⟩

end Go.Proofs.Ytooaghcjlomcpaa
