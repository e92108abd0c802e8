/- The law's values; slices.EqualFunc at slices.Equal. -/
import Derived.Test.YtkbikngkhaeakaaRfE
namespace Go.Proofs.Ytkbikngkhaeakaa
open Go.RowKit

set_option maxRecDepth 20000 in
set_option maxHeartbeats 2000000 in
theorem equalFunc19 (p : Option Addr) (A : List RR) (c : Nat) (q : Option Addr) (C : List RR) (d : Nat) (w : World) (hA : VRow w.heap.size w p A) (hC : VRow w.heap.size w q C) (hn : A.length ≤ 1000000) (hl : ∀ k, k < A.length → (rL A k).length ≤ 1099511627776) :
    Calls Try.prog 19 #[.slice p A.length c, .slice q C.length d, .func (.func 21) #[] #[]] w fun e w' => e = .returned (.bool (decide (lS A = lS C))) ∧ Below w.heap.size w w' := by
  by_cases hlen : A.length = C.length
  · obtain ⟨v, hv⟩ : ∃ v, v = decide (lS A = lS C) := ⟨_, rfl⟩
    rw [← hv]
    have HV := hidOg hv
    have HLn := hidOg hlen
    obtain ⟨m, hm⟩ : ∃ m, m = A.length := ⟨_, rfl⟩
    have HM := hidOg hm
    have HAr := hidOg hA
    have HCr := hidOg hC
    have HLB := hidOg hl
    rw [← hlen, ← hm]
    rw [← hm] at hn
    clear hv hlen hm hA hC hl
    go_enter Try.func19, Try.ntmps19
    go_wp2
    go_loopw [17] (fun i wr => ∃ k : Nat, k ≤ m ∧ i = .int .i64 k ∧ (∀ j, j < k → rL A j = rL C j) ∧ Below w.heap.size w wr) (fun i _ => m - (intOf i).toNat)
    case atStart => exact ⟨0, Nat.zero_le _, rfl, fun j h => by omega, Below.refl _ _⟩
    case round =>
      obtain ⟨k, hk, rfl, hall, hB⟩ := hrel
      have HA := hidOg hall
      have HB := hidOg hB
      clear hall hB
      by_cases hlt : k < m
      · obtain ⟨b, off, rfl, hbN, hcs⟩ := (HAr.out.to HB.out) (by rw [← HM.out]; omega)
        obtain ⟨b', off', rfl, hbN', hcs'⟩ := (HCr.out.to HB.out) (by rw [← HLn.out, ← HM.out]; omega)
        obtain ⟨c0, hI⟩ := hcs k (by rw [← HM.out]; exact hlt)
        obtain ⟨c0', hI'⟩ := hcs' k (by rw [← HLn.out, ← HM.out]; exact hlt)
        have CE := equal21 (rP A k) (rL A k) (rC A k) (rP C k) (rL C k) (rC C k) wr hI hI' (HLB.out k (by rw [← HM.out]; exact hlt))
        obtain ⟨s, hs⟩ : ∃ s, s = samI (rL A k) (rL C k) := ⟨_, rfl⟩
        rw [← hs] at CE
        have HS : Hid (s = decide (rL A k = rL C k)) := hs
        obtain ⟨l1, h1⟩ : ∃ l1, l1 = (rL A k).length := ⟨_, rfl⟩
        obtain ⟨l2, h2⟩ : ∃ l2, l2 = (rL C k).length := ⟨_, rfl⟩
        rw [← h1] at CE c0
        rw [← h2] at CE c0'
        clear hs h1 h2 hI hI' hcs hcs'
        cases s
        · have e : v = false := by
            rw [HV.out, decide_eq_false]
            intro h
            have hne : ¬ rL A k = rL C k := of_decide_eq_false HS.out.symm
            apply hne
            rw [← lS_at (R := A) (by rw [← HM.out]; exact hlt), ← lS_at (R := C) (by rw [← HLn.out, ← HM.out]; exact hlt)]
            simp only [h]
          subst e
          go_wp2_with (first | (go_at_call 21; refine Calls.mono CE ?_; rintro e w1 ⟨rfl, hb1⟩))
          go_ret
          exact ⟨rfl, HB.out.trans (hb1.mono HB.out.size)⟩
        · go_wp2_with (first | (go_at_call 21; refine Calls.mono CE ?_; rintro e w1 ⟨rfl, hb1⟩))
          go_roundw
          case rel =>
            refine ⟨k + 1, by omega, by go_num, fun j hj => ?_, HB.out.trans (hb1.mono HB.out.size)⟩
            by_cases e : j = k
            · rw [e]; exact of_decide_eq_true HS.out.symm
            · exact HA.out j (by omega)
          case measure => simp [intOf]; omega
      · obtain rfl : m = k := by omega
        have e : v = true := by
          rw [HV.out, decide_eq_true]
          apply List.ext_getElem
          · rw [lS_len, lS_len]; exact HLn.out
          · intro j h1 h2
            rw [lS_len] at h1 h2
            rw [lS_at h1, lS_at h2]
            exact HA.out j (by rw [HM.out]; exact h1)
        subst e
        go_wp2
        go_ret
        exact ⟨rfl, HB.out⟩
  · have e : decide (lS A = lS C) = false := by
      rw [decide_eq_false]; intro h; exact hlen (by rw [← lS_len A, ← lS_len C, h])
    rw [e]
    have hd : ((A.length : Int) != (C.length : Int)) = true := by simp; omega
    clear hA hC hl hlen e
    go_enter Try.func19, Try.ntmps19
    go_wp2
    go_ret
    exact ⟨rfl, Below.refl _ _⟩
/-- The values that the law takes. -/
def valS (R : List RR) (k : Nat) : List (List Int) := ((lS R).take k).map (·.take 6)
theorem valS_succ {R : List RR} {k : Nat} (h : k < R.length) : valS R (k + 1) = valS R k ++ [(rL R k).take 6] := by
  unfold valS
  rw [List.take_succ_eq_append_getElem (by rw [lS_len]; exact h), List.map_append, lS_at h]; rfl
/-- Rows that came in: each has room. -/
def RoomV (R : List RR) : Prop := ∀ k, k < R.length → (rL R k).length ≤ rC R k
set_option maxRecDepth 20000 in
set_option maxHeartbeats 2000000 in
theorem values22 (q : Option Addr) (R : List RR) (d : Nat) (w : World) (hR : VRow w.heap.size w q R) (hd : R.length ≤ d) (hrm : RoomV R) (hln : R.length ≤ maxLen) (hlv : ∀ k, k < R.length → (rL R k).length ≤ maxLen) :
    Calls Try.prog 22 #[.slice q R.length d] w fun e w' => GivesV (valS R (min R.length 8)) w e w' := by
  have HR := hidOg hR
  have HRM := hidOg hrm
  have HLV := hidOg hlv
  obtain ⟨n, hn⟩ : ∃ n, n = R.length := ⟨_, rfl⟩
  have HN := hidOg hn
  rw [← hn] at hd hln ⊢
  unfold maxLen at hln
  obtain ⟨t, ht⟩ : ∃ t, t = min n 8 := ⟨_, rfl⟩
  have h1 : (if (8 : Int) < (n : Int) then (8 : Int) else (n : Int)) = (t : Int) := by rw [ht]; split <;> omega
  have h2 : min (n : Int) 8 = (t : Int) := by omega
  have t0 : (0 : Int) ≤ (t : Int) := by omega
  have t1 : (t : Int) ≤ (d : Int) := by omega
  have t8 : t ≤ 8 := by omega
  have HTN : Hid (t ≤ n) := by unfold Hid; omega
  rw [← ht]
  have HI : Hid (∃ q' c' X, (Value.slice none 0 0) = .slice q' X.length c' ∧ lS X = valS R 0 ∧ RV w.heap.size X q' c' w ∧ Below w.heap.size w w) := ⟨none, 0, [], rfl, rfl, RV.nil _ _, Below.refl _ _⟩
  clear hR hrm hlv hn ht
  go_enter Try.func22, Try.ntmps22
  go_wp2
  go_loopw [3, 12] (fun o i wr => ∃ k : Nat, k ≤ t ∧ i = .int .i64 k ∧ ∃ q' c' X, o = .slice q' X.length c' ∧ lS X = valS R k ∧ RV w.heap.size X q' c' wr ∧ Below w.heap.size w wr) (fun _ i _ => t - (intOf i).toNat)
  case atStart => exact ⟨0, Nat.zero_le _, rfl, HI.out⟩
  case round =>
    obtain ⟨k, hk, rfl, q', c', X, rfl, hX, hV, hb⟩ := hrel
    have HX := hidOg hX
    have HV := hidOg hV
    have HB := hidOg hb
    clear HI hX hV hb
    obtain ⟨nx, hnx⟩ : ∃ nx, nx = X.length := ⟨_, rfl⟩
    have HNX := hidOg hnx
    have HNK : Hid (nx = k) := by
      unfold Hid; rw [hnx, ← lS_len, HX.out]; unfold valS; rw [List.length_map, List.length_take, lS_len, ← HN.out]; have := HTN.out; omega
    rw [← hnx]
    clear hnx
    by_cases hlt : k < t
    · have hkR : k < R.length := by rw [← HN.out]; have := HTN.out; omega
      obtain ⟨b, off, rfl, hbN, hcs⟩ := (HR.out.to HB.out) (by omega)
      obtain ⟨c0, hI⟩ := hcs k hkR
      have hrc := HRM.out k hkR
      have hml := HLV.out k hkR
      obtain ⟨u, hu⟩ : ∃ u, u = ((rL R k).take 6).length := ⟨_, rfl⟩
      obtain ⟨m, hm⟩ : ∃ m, m = (rL R k).length := ⟨_, rfl⟩
      have hu' : u = min 6 m := by rw [hu, hm, List.length_take]
      rw [← hm] at c0 hrc hml
      unfold maxLen at hml
      have g1 : (if (6 : Int) < (m : Int) then (6 : Int) else (m : Int)) = (u : Int) := by split <;> omega
      have g2 : min (m : Int) 6 = (u : Int) := by omega
      have u0 : (0 : Int) ≤ (u : Int) := by omega
      have u1 : (u : Int) ≤ ((rC R k : Nat) : Int) := by omega
      have CC := clone39 (rP R k) ((rL R k).take 6) (rC R k) wr (hI.take 6) (by rw [← hu]; omega)
      rw [← hu] at CC
      have HU := hidOg hu
      have hkn : k < (t : Int) := by omega
      have KEY : Hid (∀ (pv : Option Addr) (cv : Nat) (w1 : World), OwnR wr.heap.size w1 pv ((rL R k).take 6) cv → Below wr.heap.size wr w1 → ∃ p2 c2 w2, (Builtin.append_ #[35, 35] 35 #[.slice q' nx c', .slice (some ⟨w1.heap.size, 0, none⟩) 1 1]).run Try.prog (w1.alloc (.cells #[.slice pv u cv] 38)) = .ok (.slice p2 (nx + 1) c2) w2 ∧ Hid (RV w.heap.size (X ++ [(pv, (rL R k).take 6, cv)]) p2 c2 w2 ∧ Below w.heap.size w w2)) := fun pv cv w1 ho hb1 => by
        have hV1 : RV w.heap.size X q' c' w1 := HV.out.to hb1
        have hs1 : w.heap.size ≤ w1.heap.size := Nat.le_trans HB.out.size hb1.size
        obtain ⟨p2, c2, w2, hrun, ho2, hg2⟩ := app_rv (w1.alloc (.cells #[.slice pv ((rL R k).take 6).length cv] 38)) 35 w.heap.size q' X c' [(pv, (rL R k).take 6, cv)] ⟨w1.heap.size, 0, none⟩ 1 (hV1.to (bal _ _)) (cell_new1 w1 _ 38) (fun x hx => by rw [List.mem_singleton.1 hx]; exact (ho.weak (Nat.zero_le _)).to (bal _ _)) (by rw [← HNX.out, HNK.out]; simp; omega) (Nat.le_trans hs1 (bal w1 _).size)
        rw [List.length_append, ← HNX.out, ← HU.out] at hrun
        exact ⟨p2, c2, w2, hrun, ho2, (HB.out.trans ((hb1.mono HB.out.size).trans ((Below.refl _ _).alloc hs1 _))).trans (grown_bel (Below.refl _ _) (fun a ha => owns_fresh hV1.o a ha) (Nat.le_trans hs1 (bal w1 _).size) hg2)⟩
      clear hcs hI hrc hu' hm hu
      go_wp2_with (first | (go_at_call 39; refine Calls.mono CC ?_; rintro e w1 ⟨v, rfl, hr, hb1⟩; obtain ⟨pv, cv, rfl, _⟩ := irow_owns hr; obtain ⟨p2, c2, w2, hrun, HK⟩ := KEY.out pv cv w1 ⟨hr, by rw [← HU.out]; omega⟩ hb1; rw [← HU.out]; clear hr hb1) | (at_builtin; refine Lib.wpList_append_run _ rfl _ _ 35 35 rfl _ _ rfl rfl _ w2 hrun ?_))
      go_roundw
      case rel =>
        obtain ⟨hk1, hk2⟩ := HK.out
        refine ⟨k + 1, by omega, by go_num, p2, c2, _, ?_, ?_, hk1, hk2⟩
        · rw [List.length_append, ← HNX.out]; rfl
        · rw [valS_succ hkR, ← HX.out]; simp [lS]
      case measure => simp [intOf]; omega
    · obtain rfl : t = k := by omega
      go_wp2
      go_ret
      exact ⟨q', c', X, by rw [HNX.out]; rfl, HX.out, HV.out, HB.out⟩
end Go.Proofs.Ytkbikngkhaeakaa
