/- The document's answer: With, Of, Compare; slices.ContainsFunc. -/
import Derived.Test.YtooaghcjlomcpaaRgA
namespace Go.Proofs.Ytooaghcjlomcpaa
open Go.RowKit

def loB (x y : Int) : Bool := decide (y < x)
def hiB (x y : Int) : Bool := decide (x < y)
theorem insL_eq (l : List Int) (x : Int) : insL l x = (l.filter (loB x) ++ [x]) ++ l.filter (hiB x) := by
  unfold insL; rw [List.append_assoc]; rfl

set_option maxRecDepth 20000 in
set_option maxHeartbeats 4000000 in
theorem with33 (p : Option Addr) (l : List Int) (c : Nat) (x : Int) (w : World) (hS : IRow .u64 w.heap.size w p l) (hn : l.length ≤ 1099511627776) :
    Calls Try.prog 33 #[.slice p l.length c, .int .u64 x] w fun e w' => ∃ v, e = .returned v ∧ w'.ownsRow w.heap.size 33 1 v (insL l x).length ((insL l x).map (Value.int .u64)) ∧ Below w.heap.size w w' := by
  obtain ⟨i0, hi, hz0, hz1, hz2⟩ := info_parts Try.info33
  obtain ⟨n, hn'⟩ : ∃ n, n = l.length := ⟨_, rfl⟩
  have HN := hidOg hn'
  have HF1 : Hid (tolN l (loB x) n = l.filter (loB x)) := by unfold Hid; rw [tolN_filter l _ n (by omega), hn', List.take_length]
  have HF2 : Hid (tolN l (hiB x) n = l.filter (hiB x)) := by unfold Hid; rw [tolN_filter l _ n (by omega), hn', List.take_length]
  obtain ⟨R, hR⟩ : ∃ R, R = insL l x := ⟨_, rfl⟩
  have HR : Hid (R = (l.filter (loB x) ++ [x]) ++ l.filter (hiB x)) := by unfold Hid; rw [hR, insL_eq]
  have HS := hidOg hS
  rw [← hn'] at hn ⊢
  rw [← hR]
  clear hS hn' hR
  go_enter Try.func33, Try.ntmps33
  go_wp2
  go_loopw [5, 12] (fun o i wr => ∃ k : Nat, k ≤ n ∧ i = .int .i64 k ∧ wr.ownsRow w.heap.size 33 1 o (tolN l (loB x) k).length ((tolN l (loB x) k).map (Value.int .u64)) ∧ Below w.heap.size w wr) (fun _ i _ => n - (intOf i).toNat)
  case atStart => exact ⟨0, Nat.zero_le _, rfl, World.ownsRow_nil _ _ _ _, Below.refl _ _⟩
  case round =>
    obtain ⟨k, hk, rfl, ho, hB⟩ := hrel
    have HO := hidOg ho
    have HB := hidOg hB
    have hsz := hB.size
    have HLL : Hid ((tolN l (loB x) k).length ≤ k) := tolN_len l _ k
    clear ho hB
    by_cases hlt : k < n
    · obtain ⟨b, off, rfl, hbB, hcs⟩ := (HS.out.below HB.out (Nat.le_refl _)) (by have := HN.out; omega)
      have c0 := hcs k (by have := HN.out; omega)
      clear hcs
      have HT1 : Hid (loB x (iG l k) = true → tolN l (loB x) (k + 1) = tolN l (loB x) k ++ [iG l k]) := tolN_t
      have HT0 : Hid (loB x (iG l k) = false → tolN l (loB x) (k + 1) = tolN l (loB x) k) := tolN_f
      obtain ⟨y, hy⟩ : ∃ y, y = iG l k := ⟨_, rfl⟩
      rw [← hy] at c0 HT1 HT0
      clear hy
      by_cases hb : y < x
      · have HA := hidOg (HT1.out (by unfold loB; exact decide_eq_true hb))
        have hll := HLL.out
        obtain ⟨t, ht⟩ : ∃ t, t = tolN l (loB x) k := ⟨_, rfl⟩
        rw [← ht] at HO HA hll
        clear ht HLL HT0 HT1
        go_wp2_with (first | (at_builtin; refine wpList_append_own _ rfl _ _ 22 rfl w.heap.size 33 i0 (.int .u64 0) 1 8 Try.underlying22 hi hz0 hz1 hz2 rfl (by decide) _ _ _ rfl (HO.out.alloc _) _ 1 1 [.int .u64 y] rfl rfl (cell_one_new _ _ _) (by simp [Value.oneCell']) (by unfold maxLen; omega) (by omega) (by simp; omega) ?_; intro v6 w6 hown6 hgrow6 _))
        go_roundw
        case rel => exact ⟨k + 1, by omega, by go_num, by rw [HA.out]; simpa using hown6, (HB.out.alloc HB.out.size _).grown hgrow6 (by simp; omega) (fun j hj => own_ge HO.out hj)⟩
        case measure => simp [intOf]; omega
      · have HA := hidOg (HT0.out (by unfold loB; exact decide_eq_false hb))
        clear HT0 HT1
        go_wp2
        go_roundw
        case rel => exact ⟨k + 1, by omega, by go_num, by rw [HA.out]; exact HO.out, HB.out⟩
        case measure => simp [intOf]; omega
    · obtain rfl : k = n := by omega
      have hll := HLL.out
      rw [HF1.out] at HO hll
      obtain ⟨t, ht⟩ : ∃ t, t = l.filter (loB x) := ⟨_, rfl⟩
      rw [← ht] at HO hll HR
      clear ht HLL HF1
      go_wp2_with (first | (at_builtin; refine wpList_append_own _ rfl _ _ 22 rfl w.heap.size 33 i0 (.int .u64 0) 1 8 Try.underlying22 hi hz0 hz1 hz2 rfl (by decide) _ _ _ rfl (HO.out.alloc _) _ 1 1 [.int .u64 x] rfl rfl (cell_one_new _ _ _) (by simp [Value.oneCell']) (by unfold maxLen; omega) (by omega) (by simp; omega) ?_; intro v6 w6 hown6 hgrow6 _))
      have HB6 : Hid (Below w.heap.size w w6) := (HB.out.alloc HB.out.size _).grown hgrow6 (by simp; omega) (fun j hj => own_ge HO.out hj)
      obtain ⟨T, hT⟩ : ∃ T, T = t ++ [x] := ⟨_, rfl⟩
      have hTl : T.length = t.length + 1 := by rw [hT]; simp
      have HO6 : Hid (w6.ownsRow w.heap.size 33 1 v6 T.length (T.map (Value.int .u64))) := by unfold Hid; rw [hT]; simpa using hown6
      rw [← hT] at HR
      clear hown6 hgrow6 HO HB hT
      go_loopw [5, 30] (fun o i wr => ∃ k' : Nat, k' ≤ k ∧ i = .int .i64 k' ∧ wr.ownsRow w.heap.size 33 1 o (T ++ tolN l (hiB x) k').length ((T ++ tolN l (hiB x) k').map (Value.int .u64)) ∧ Below w.heap.size w wr) (fun _ i _ => k - (intOf i).toNat)
      case atStart => exact ⟨0, Nat.zero_le _, rfl, by simpa [tolN] using HO6.out, HB6.out⟩
      case round =>
        obtain ⟨j, hj, rfl, ho, hB⟩ := hrel
        have HO := hidOg ho
        have HB := hidOg hB
        have hsz2 := hB.size
        have HLL : Hid ((T ++ tolN l (hiB x) j).length ≤ j + T.length) := by unfold Hid; have := tolN_len l (hiB x) j; simp; omega
        clear ho hB HO6 HB6
        by_cases hlt2 : j < k
        · obtain ⟨b, off, rfl, hbB, hcs⟩ := (HS.out.below HB.out (Nat.le_refl _)) (by have := HN.out; omega)
          have c0 := hcs j (by have := HN.out; omega)
          clear hcs
          have HT1 : Hid (hiB x (iG l j) = true → tolN l (hiB x) (j + 1) = tolN l (hiB x) j ++ [iG l j]) := tolN_t
          have HT0 : Hid (hiB x (iG l j) = false → tolN l (hiB x) (j + 1) = tolN l (hiB x) j) := tolN_f
          obtain ⟨y, hy⟩ : ∃ y, y = iG l j := ⟨_, rfl⟩
          rw [← hy] at c0 HT1 HT0
          clear hy
          by_cases hb : x < y
          · have HA := hidOg (HT1.out (by unfold hiB; exact decide_eq_true hb))
            have hll2 := HLL.out
            have HA2 : Hid (T ++ tolN l (hiB x) (j + 1) = (T ++ tolN l (hiB x) j) ++ [y]) := by unfold Hid; rw [HA.out, List.append_assoc]
            obtain ⟨s, hs⟩ : ∃ s, s = T ++ tolN l (hiB x) j := ⟨_, rfl⟩
            rw [← hs] at HO HA2 hll2
            clear hs HLL HT0 HT1 HA
            go_wp2_with (first | (at_builtin; refine wpList_append_own _ rfl _ _ 22 rfl w.heap.size 33 i0 (.int .u64 0) 1 8 Try.underlying22 hi hz0 hz1 hz2 rfl (by decide) _ _ _ rfl (HO.out.alloc _) _ 1 1 [.int .u64 y] rfl rfl (cell_one_new _ _ _) (by simp [Value.oneCell']) (by unfold maxLen; omega) (by omega) (by simp; omega) ?_; intro v7 w7 hown7 hgrow7 _))
            go_roundw
            case rel => exact ⟨j + 1, by omega, by go_num, by rw [HA2.out]; simpa using hown7, (HB.out.alloc HB.out.size _).grown hgrow7 (by simp; omega) (fun i hi => own_ge HO.out hi)⟩
            case measure => simp [intOf]; omega
          · have HA := hidOg (HT0.out (by unfold hiB; exact decide_eq_false hb))
            clear HT0 HT1
            go_wp2
            go_roundw
            case rel => exact ⟨j + 1, by omega, by go_num, by rw [HA.out]; exact HO.out, HB.out⟩
            case measure => simp [intOf]; omega
        · obtain rfl : j = k := by omega
          have e : Hid (T ++ tolN l (hiB x) j = R) := by unfold Hid; rw [HF2.out, HR.out]
          go_wp2
          go_ret
          exact ⟨_, rfl, by rw [← e.out]; exact HO.out, HB.out⟩

theorem insL_bd {l : List Int} (x : Int) : (insL l x).length ≤ l.length + 1 := by
  rw [insL_eq]; simp only [List.length_append, List.length_cons, List.length_nil]
  have a : (l.filter (loB x)).length + (l.filter (hiB x)).length ≤ l.length := by
    induction l with
    | nil => simp
    | cons y t ih =>
      simp only [List.filter_cons, loB, hiB]
      by_cases h : y < x
      · have h' : ¬ x < y := by omega
        simp only [decide_eq_true h, decide_eq_false h', if_true, Bool.false_eq_true, if_false, List.length_cons]
        omega
      · simp only [decide_eq_false h, Bool.false_eq_true, if_false]
        by_cases g : x < y
        · simp only [decide_eq_true g, if_true, List.length_cons]; omega
        · simp only [decide_eq_false g, Bool.false_eq_true, if_false, List.length_cons]; omega
  omega
theorem with33r (p : Option Addr) (l : List Int) (c : Nat) (x : Int) (w : World) (h : Row w p l c) (hn : l.length < 1099511627776) :
    Calls Try.prog 33 #[.slice p l.length c, .int .u64 x] w fun e w' => Gives (insL l x) w e w' := by
  refine Calls.mono (with33 p l c x w h.i h.n) ?_
  rintro e w' ⟨v, rfl, ho, hb⟩
  exact gives_owns (w0 := w) (Below.refl _ _) ho (by have := insL_bd (l := l) x; omega) hb

set_option maxRecDepth 20000 in
set_option maxHeartbeats 4000000 in
theorem of14 (p : Option Addr) (l : List Int) (c : Nat) (w : World) (hS : IRow .u64 w.heap.size w p l) (hn : l.length < 1099511627776) :
    Calls Try.prog 14 #[.slice p l.length c] w fun e w' => Gives (ofL l) w e w' := by
  obtain ⟨n, hn'⟩ : ∃ n, n = l.length := ⟨_, rfl⟩
  have HN := hidOg hn'
  have HE : Hid (ofL l = ofN l n) := by unfold Hid ofL; rw [hn']
  have HS := hidOg hS
  rw [← hn'] at hn ⊢
  clear hS hn'
  go_enter Try.func14, Try.ntmps14
  go_wp2
  go_loopw [3, 8] (fun o i wr => ∃ (k : Nat) (pt : Option Addr) (ct : Nat), k ≤ n ∧ i = .int .i64 k ∧ o = .slice pt (ofN l k).length ct ∧ Res w.heap.size wr pt (ofN l k) ct ∧ Below w.heap.size w wr) (fun _ i _ => n - (intOf i).toNat)
  case atStart => exact ⟨0, none, 0, Nat.zero_le _, rfl, rfl, Res.nil _ _, Below.refl _ _⟩
  case round =>
    obtain ⟨k, pt, ct, hk, rfl, rfl, hr, hB⟩ := hrel
    have HR := hidOg hr
    have HB := hidOg hB
    have HLL : Hid ((ofN l k).length ≤ k) := ofN_len l k
    clear hr hB
    by_cases hlt : k < n
    · obtain ⟨b, off, rfl, hbB, hcs⟩ := (HS.out.below HB.out (Nat.le_refl _)) (by have := HN.out; omega)
      have c0 := hcs k (by have := HN.out; omega)
      clear hcs
      have HA : Hid (ofN l (k + 1) = insL (ofN l k) (iG l k)) := rfl
      have CW := with33r pt (ofN l k) ct (iG l k) wr HR.out.row (by have := HLL.out; omega)
      obtain ⟨y, hy⟩ : ∃ y, y = iG l k := ⟨_, rfl⟩
      rw [← hy] at c0 HA CW
      clear hy
      obtain ⟨t, ht⟩ : ∃ t, t = ofN l k := ⟨_, rfl⟩
      rw [← ht] at HR HA CW ⊢
      clear ht HLL
      go_wp2_with (first | (go_at_call 33; refine Calls.mono CW ?_; rintro e w1 ⟨p1', c1', rfl, hr1, hb1⟩))
      go_roundw
      case rel => exact ⟨k + 1, p1', c1', by omega, by go_num, by rw [HA.out], by rw [HA.out]; exact ⟨hr1.row, fun a ha => Nat.le_trans HB.out.size (hr1.fr a ha)⟩, HB.out.trans (hb1.mono HB.out.size)⟩
      case measure => simp [intOf]; omega
    · obtain rfl : k = n := by omega
      go_wp2
      go_ret
      exact ⟨pt, ct, by rw [HE.out]; rfl, by rw [HE.out]; exact HR.out, HB.out⟩

set_option maxRecDepth 20000 in
set_option maxHeartbeats 4000000 in
theorem compare22 (p : Option Addr) (l : List Int) (c : Nat) (q : Option Addr) (r : List Int) (d : Nat) (w : World) (hS : IRow .u64 w.heap.size w p l) (hR : IRow .u64 w.heap.size w q r) (l1 : l.length ≤ 1099511627776) (l2 : r.length ≤ 1099511627776) :
    Calls Try.prog 22 #[.slice p l.length c, .slice q r.length d] w fun e w' => e = .returned (.int .i64 (cmpL l r)) ∧ w' = w := by
  obtain ⟨v, hv⟩ : ∃ v, v = cmpL l r := ⟨_, rfl⟩
  rw [← hv]
  have HV : Hid (v = cmpL (l.drop 0) (r.drop 0)) := hv
  obtain ⟨n, hn⟩ : ∃ n, n = l.length := ⟨_, rfl⟩
  obtain ⟨m, hm⟩ : ∃ m, m = r.length := ⟨_, rfl⟩
  have HN := hidOg hn
  have HM := hidOg hm
  have HS := hidOg hS
  have HR := hidOg hR
  rw [← hn] at l1 ⊢
  rw [← hm] at l2 ⊢
  clear hS hR hv hn hm
  go_enter Try.func22, Try.ntmps22
  go_wp2
  go_loop [9] (fun i => ∃ k : Nat, k ≤ n ∧ k ≤ m ∧ i = .int .i64 k ∧ v = cmpL (l.drop k) (r.drop k)) (fun i => n - (intOf i).toNat)
  case atStart => exact ⟨0, Nat.zero_le _, Nat.zero_le _, rfl, HV.out⟩
  case round =>
    obtain ⟨k, hk, hkm, rfl, hv⟩ := hrel
    have HW := hidOg hv
    clear hv HV
    by_cases hkn : k < n
    · obtain ⟨b, off, rfl, hbB, hcs⟩ := HS.out (by have := HN.out; omega)
      have c0 := hcs k (by have := HN.out; omega)
      clear hcs
      obtain ⟨x, hx⟩ : ∃ x, x = iG l k := ⟨_, rfl⟩
      rw [← hx] at c0
      have HX := hidOg hx
      clear hx
      by_cases hlm : k < m
      · obtain ⟨b', off', rfl, hbB', hcs'⟩ := HR.out (by have := HM.out; omega)
        have c0' := hcs' k (by have := HM.out; omega)
        clear hcs'
        obtain ⟨y, hy⟩ : ∃ y, y = iG r k := ⟨_, rfl⟩
        rw [← hy] at c0'
        have HY := hidOg hy
        clear hy
        have HE : Hid (v = if x < y then -1 else if y < x then 1 else cmpL (l.drop (k + 1)) (r.drop (k + 1))) := by
          unfold Hid; rw [HW.out, cmp_step (by rw [← HN.out]; exact hkn) (by rw [← HM.out]; exact hlm), HX.out, HY.out]
        have hge : ((k : Int) == (m : Int)) = false := by simp; omega
        by_cases h1 : x < y
        · have e : v = -1 := by rw [HE.out, if_pos h1]
          have h2 : ¬ (y < x) := by omega
          subst e
          clear HW HE
          go_wp2
          go_ret
          exact ⟨rfl, rfl⟩
        · by_cases h2 : y < x
          · have e : v = 1 := by rw [HE.out, if_neg h1, if_pos h2]
            subst e
            clear HW HE
            go_wp2
            go_ret
            exact ⟨rfl, rfl⟩
          · have HE' : Hid (v = cmpL (l.drop (k + 1)) (r.drop (k + 1))) := by unfold Hid; rw [HE.out, if_neg h1, if_neg h2]
            clear HW HE
            go_wp2
            go_round
            case rel => exact ⟨k + 1, by omega, by omega, by go_num, HE'.out⟩
            case measure => simp [intOf]; omega
      · have e : v = 1 := by rw [HW.out]; exact cmp_end (by rw [← HN.out]; exact hkn) (by have := HM.out; omega)
        obtain rfl : k = m := by omega
        subst e
        clear HW
        go_wp2
        go_ret
        exact ⟨rfl, rfl⟩
    · obtain rfl : k = n := by omega
      by_cases hlm : k < m
      · have e : v = -1 := by rw [HW.out]; exact cmp_out (by have := HN.out; omega) (by have := HM.out; omega)
        subst e
        clear HW
        go_wp2
        go_ret
        exact ⟨rfl, rfl⟩
      · have e : v = 0 := by rw [HW.out]; exact cmp_both (by have := HN.out; omega) (by have := HM.out; omega)
        have hge : ¬ ((k : Int) < (m : Int)) := by omega
        subst e
        clear HW
        go_wp2
        go_ret
        exact ⟨rfl, rfl⟩

theorem clo16 (x : Int) (w : World) (h0 : 0 ≤ x) (h1 : x < 18446744073709551616) : Calls Try.prog 16 #[.int .u64 x] w fun e w' => e = .returned (.bool (!canB x)) ∧ w' = w := by
  have CM := may17 x w h0 h1
  clear h0 h1
  go_enter Try.func16, Try.ntmps16
  go_wp2_with (first | (go_at_call 17; refine Calls.mono CM ?_; rintro e w1 ⟨rfl, rfl⟩))
  go_ret
  exact ⟨rfl, rfl⟩

set_option maxRecDepth 20000 in
set_option maxHeartbeats 2000000 in
theorem index51 (p : Option Addr) (l : List Int) (c : Nat) (w : World) (hS : IRow .u64 w.heap.size w p l) (hU : U64 l) (hn : l.length ≤ 1099511627776) :
    Calls Try.prog 51 #[.slice p l.length c, .func (.func 16) #[] #[]] w fun e w' => ∃ i : Int, e = .returned (.int .i64 i) ∧ decide (0 ≤ i) = !(l.all canB) ∧ w' = w := by
  obtain ⟨n, hn'⟩ : ∃ n, n = l.length := ⟨_, rfl⟩
  have HN := hidOg hn'
  obtain ⟨v, hv⟩ : ∃ v, v = l.all canB := ⟨_, rfl⟩
  have HV := hidOg hv
  have HS := hidOg hS
  have HU := hidOg hU
  rw [← hn'] at hn ⊢
  rw [← hv]
  clear hS hU hn' hv
  go_enter Try.func51, Try.ntmps51
  go_wp2
  go_loop [8] (fun i => ∃ k : Nat, k ≤ n ∧ i = .int .i64 k ∧ ∀ j, j < k → canB (iG l j) = true) (fun i => n - (intOf i).toNat)
  case atStart => exact ⟨0, Nat.zero_le _, rfl, fun j h => by omega⟩
  case round =>
    obtain ⟨k, hk, rfl, hok⟩ := hrel
    have HO := hidOg hok
    clear hok
    by_cases hlt : k < n
    · obtain ⟨b, off, rfl, hbB, hcs⟩ := HS.out (by have := HN.out; omega)
      have c0 := hcs k (by have := HN.out; omega)
      clear hcs
      obtain ⟨u0, u1⟩ := HU.out.at (k := k) (by have := HN.out; omega)
      have HF : Hid (canB (iG l k) = false → v = false) := fun h => by
        rw [HV.out, Bool.eq_false_iff]; intro h'; rw [List.all_eq_true] at h'
        have := h' _ (iG_mem (by rw [← HN.out]; exact hlt)); rw [h] at this; cases this
      have HT : Hid (canB (iG l k) = true → ∀ j, j < k + 1 → canB (iG l j) = true) := fun h j hj => by
        by_cases e : j = k
        · rw [e]; exact h
        · exact HO.out j (by omega)
      obtain ⟨y, hy⟩ : ∃ y, y = iG l k := ⟨_, rfl⟩
      rw [← hy] at c0 u0 u1 HF HT
      clear hy HO
      have CC := fun (W : World) => clo16 y W u0 u1
      cases hb : canB y
      · have e := HF.out hb
        subst e
        rw [hb] at CC
        clear HF HT HV hb
        go_wp2_with (first | (go_at_call 16; refine Calls.mono (CC _) ?_; rintro e w1 ⟨rfl, rfl⟩))
        go_ret
        exact ⟨(k : Int), rfl, by simp, rfl⟩
      · have HT' := hidOg (HT.out hb)
        rw [hb] at CC
        clear HF HT hb
        go_wp2_with (first | (go_at_call 16; refine Calls.mono (CC _) ?_; rintro e w1 ⟨rfl, rfl⟩))
        go_round
        case rel => exact ⟨k + 1, by omega, by go_num, HT'.out⟩
        case measure => simp [intOf]; omega
    · obtain rfl : k = n := by omega
      have e : v = true := by
        rw [HV.out, List.all_eq_true]; intro x hx
        obtain ⟨j, hj, rfl⟩ := List.getElem_of_mem hx
        rw [← iG_eq hj]; exact HO.out j (by rw [HN.out]; exact hj)
      subst e
      clear HV HO
      go_wp2
      go_ret
      exact ⟨-1, rfl, by decide, rfl⟩
theorem contains15 (p : Option Addr) (l : List Int) (c : Nat) (w : World) (h : Row w p l c) (hU : U64 l) :
    Calls Try.prog 15 #[.slice p l.length c, .func (.func 16) #[] #[]] w fun e w' => e = .returned (.bool (!(l.all canB))) ∧ w' = w := by
  have CI := index51 p l c w h.i hU h.n
  obtain ⟨v, hv⟩ : ∃ v, v = !(l.all canB) := ⟨_, rfl⟩
  rw [← hv] at CI ⊢
  clear h hU hv
  go_enter Try.func15, Try.ntmps15
  go_wp2_with (first | (go_at_call 51; refine Calls.mono CI ?_; rintro e w1 ⟨i, rfl, hi, rfl⟩; have HI := hidOg hi; clear hi))
  go_ret
  exact ⟨ret_bool HI.out, rfl⟩
end Go.Proofs.Ytooaghcjlomcpaa
