/- RealSums: its walk. -/
import Derived.Test.YtglfhgedaknljaaSx
namespace Go.Proofs.Ytglfhgedaknljaa
open Go.RowKit

def nanV : Int := 9221120237041090560
theorem nuW_nan : nuW 9221120237041090560 = false := by decide
theorem sumV_nan {r : Nat} (h : NaNw r) : sumV r = 9221120237041090560 := by unfold sumV; rw [h.2]; rfl
theorem sum_n (p : Option Addr) (l : List Int) (c : Nat) (r : Nat) (w : World) (h : Fw w p l c) (hs : Summed 0 l r) (hr : r < 18446744073709551616) (hn : nuW (r : Int) = false) :
    Calls Try.prog 24 #[.slice p l.length c] w fun e w' => e = .returned (.int .u64 9221120237041090560) ∧ Below w.heap.size w w' := by
  refine (sum24 p l c w h).mono ?_
  rintro e w' ⟨q, _, rfl, hq, hb⟩
  refine ⟨?_, hb⟩
  rcases hs.same hq with rfl | ⟨_, b⟩
  · rw [sumV_nan ⟨hr, hn⟩]
  · rw [sumV_nan b]
theorem sum_y (p : Option Addr) (l : List Int) (c : Nat) (r : Nat) (w : World) (h : Fw w p l c) (hs : Summed 0 l r) (hn : nuW (r : Int) = true) :
    Calls Try.prog 24 #[.slice p l.length c] w fun e w' => e = .returned (.int .u64 (r : Int)) ∧ Below w.heap.size w w' := by
  refine (sum24 p l c w h).mono ?_
  rintro e w' ⟨q, _, rfl, hq, hb⟩
  refine ⟨?_, hb⟩
  rcases hs.same hq with rfl | ⟨a, _⟩
  · unfold sumV; rw [hn]; rfl
  · rw [a.2] at hn; cases hn
theorem sum_x (x : Int) (w : World) (hx : W64 x) : Calls Try.prog 24 #[.slice (some ⟨w.heap.size, 0, none⟩) 1 1] (w.alloc (.cells #[.int .u64 x] 26)) fun e w' => e = .returned (.int .u64 (if nuW x then unW x else 9221120237041090560)) ∧ Below w.heap.size w w' := by
  refine (sum24 _ [x] 1 _ (fw_made1 w x hx)).mono ?_
  rintro e w' ⟨q, _, rfl, hq, hb⟩
  refine ⟨?_, below1 hb⟩
  rcases hq.alone hx with ⟨h1, h2⟩ | ⟨h1, h2⟩
  · rw [h1, sumV_nan h2]; rfl
  · have hu := unW_64 hx
    have e1 : ((unW x).toNat : Int) = unW x := Int.toNat_of_nonneg hu.1
    have e2 : nuW (unW x) = true := by
      unfold unW; split
      · decide
      · exact h1
    rw [h1, h2]; unfold sumV; rw [e1, e2]
theorem sum_0 (w : World) : Calls Try.prog 24 #[.slice none 0 0] w fun e w' => e = .returned (.int .u64 0) ∧ Below w.heap.size w w' := by
  refine (sum24 none [] 0 w (fw_nil w)).mono ?_
  rintro e w' ⟨q, _, rfl, hq, hb⟩
  cases hq
  exact ⟨rfl, hb⟩
theorem un_un (x : Int) : unW (unW x) = unW x := by unfold unW; split <;> simp_all
theorem same_x {x : Int} (h : nuW x = true) : tsW 3 (unW x) x = true := by
  have e2 : nuW (unW x) = true := by
    unfold unW; split
    · decide
    · exact h
  rw [ts3, e2, h, un_un]; simp
theorem any_nan {l : List Int} {r : Nat} (hu : U64 l) (hs : Summed 0 l r) (hn : nuW (r : Int) = true) : l.any (fun x => !nuW x) = false := by
  rw [Bool.eq_false_iff]
  intro h
  obtain ⟨x, hx, h⟩ := List.any_eq_true.1 h
  have := Summed.has hu hs ⟨x, hx, by simpa using h⟩
  rw [this.2] at hn; cases hn
theorem any_both {l : List Int} {r : Nat} (hs : Summed 0 l r) (hn : nuW (r : Int) = true) (h1 : l.any (fun x => 9218868437227405312 == x) = true) : l.any (fun x => 18442240474082181120 == x) = false := by
  rw [Bool.eq_false_iff]
  intro h
  obtain ⟨x, hx, h⟩ := List.any_eq_true.1 h
  obtain ⟨y, hy, h1⟩ := List.any_eq_true.1 h1
  have e1 : 18442240474082181120 = x := by simpa using h
  have e2 : 9218868437227405312 = y := by simpa using h1
  have := Summed.both hs (by rw [e2]; exact hy) (by rw [e1]; exact hx)
  rw [this.2] at hn; cases hn

set_option maxHeartbeats 4000000 in
set_option maxRecDepth 20000 in
theorem sums_walk (pp : Option Addr) (l0 : List Int) (c0 : Nat) (x : Int) (w : World) (hi : InR w pp l0 c0) (hx : W64 x) : Calls Try.prog 7 #[.slice pp l0.length c0, .int .u64 x] w fun e w' => e = .returned (.bool true) ∧ Below w.heap.size w w' := by
  have UU : Hid (U64 (l0.take 40) ∧ (l0.take 40).length ≤ 40) := ⟨hi.u.take 40, by simp; omega⟩
  have FW := fun (W : World) (hb : Below w.heap.size w W) => few9 pp l0 c0 W (hi.to hb)
  obtain ⟨l, hl⟩ : ∃ l, l = l0.take 40 := ⟨_, rfl⟩
  rw [← hl] at UU FW
  clear hl hi
  go_enter Try.func7, Try.ntmps7
  go_wp2_with (first | (go_at_call 8; refine Calls.mono (wakes8 _) ?_; rintro e w1 ⟨rfl, hb1⟩) | (go_at_call 9; refine Calls.mono (FW _ hb1) ?_; rintro e w2 ⟨p, c, rfl, hr2, hc2, hb2⟩))
  have hF : Fw w2 p l c := ⟨hr2, hc2, UU.out.1, UU.out.2⟩
  have hB := hidOg (bt hb1 hb2)
  have hl : Hid (l.length ≤ 40) := hF.n
  clear hr2 hc2 hb1 hb2 UU FW
  go_loopw [5, 17] (fun s i wr => ∃ (k : Nat) (r : Nat), k ≤ l.length ∧ i = .int .i64 k ∧ s = .float .f64 r ∧ Summed 0 (l.take k) r ∧ Below w2.heap.size w2 wr) (fun _ i _ => l.length - (intOf i).toNat)
  case atStart => exact ⟨0, 0, by omega, rfl, rfl, rfl, Below.refl _ _⟩
  case round =>
    obtain ⟨k, r, hk, rfl, rfl, hs, hb⟩ := hrel
    by_cases hlt : k < l.length
    · obtain ⟨b, off, rfl, hN, hc⟩ := (hF.to hb).i (by omega)
      have hck := hc k hlt
      obtain ⟨r', w', hrun, hadd, hb', -⟩ := run_add r (iG l k).toNat wr
      have FB := run_frombits (iG l k)
      have HS := hidOg hs
      have HB := hidOg hb
      have HA := hidOg hadd
      have HB' := hidOg hb'
      have NN := kstep (k := k) (l := l) hlt hl.out
      clear hs hb hadd hc hF hb' hN
      go_wp2
      go_roundw
      case rel => exact ⟨k + 1, r', NN.1, by rw [NN.2.1], rfl, by rw [NN.2.2.2]; exact HS.out.snoc HA.out, bt HB.out HB'.out⟩
      case measure => rw [NN.2.1]; exact NN.2.2.1
    · have hkl : k = l.length := by omega
      rw [hkl, List.take_length] at hs
      have hr := hs.lt (by decide)
      have NA := fun (W : World) => isNaN25 r W hr
      have BI := run_bits r
      have HB := hidOg hb
      have CL := fun (W : World) => class16 x W hx
      have SX := fun (W : World) => sum_x x W hx
      have TX := fun (W : World) => test19 3 (unW x) x W (unW_64 hx) hx
      have C1 := fun (W : World) (h : Below w2.heap.size w2 W) => containsf27 p l c W (hF.to h)
      have C2 := fun (W : World) (h : Below w2.heap.size w2 W) => contains29 p l c 9218868437227405312 W (hF.to h)
      have C3 := fun (W : World) (h : Below w2.heap.size w2 W) => contains29 p l c 18442240474082181120 W (hF.to h)
      have Y1 := fun h => hidOg (any_nan hF.u hs h)
      have Y2 := fun h => any_both hs h
      obtain ⟨a1, ha1⟩ : ∃ a1, a1 = l.any (fun x => !nuW x) := ⟨_, rfl⟩
      obtain ⟨a2, ha2⟩ : ∃ a2, a2 = l.any (fun x => 9218868437227405312 == x) := ⟨_, rfl⟩
      obtain ⟨a3, ha3⟩ : ∃ a3, a3 = l.any (fun x => 18442240474082181120 == x) := ⟨_, rfl⟩
      rw [← ha1] at C1 Y1
      rw [← ha2] at C2 Y2
      rw [← ha3] at C3 Y2
      have hx4 : Hid (nuW x = decide (clW x ≠ 4)) := rfl
      cases hn : nuW (r : Int)
      · have SS := fun (W : World) (h : Below w2.heap.size w2 W) => sum_n p l c r W (hF.to h) hs hr hn
        rw [hn] at NA
        clear Y1 Y2 ha1 ha2 ha3 hs hb hF hn
        cases hnx : nuW x
        · have hc4 : clW x = 4 := by have := hx4.out; rw [hnx] at this; simpa using this.symm
          rw [hnx] at SX
          rw [hc4] at CL
          clear hx4 hnx hc4 TX
          simp only [Bool.false_eq_true, if_false] at SX
          cases a1 <;> cases a2 <;> cases a3
          · go_wp2_with (first | (go_at_call 25; refine Calls.mono (NA _) ?_; rintro e w3 ⟨rfl, hw⟩; rw [hw]; clear hw w3) | (go_at_call 27; refine Calls.mono (C1 _ HB.out) ?_; rintro e w3 ⟨rfl, hw⟩; rw [hw]; clear hw w3) | (go_at_call_has 29 (9218868437227405312 : Int); refine Calls.mono (C2 _ HB.out) ?_; rintro e w3 ⟨rfl, hw⟩; rw [hw]; clear hw w3) | (go_at_call_has 29 (18442240474082181120 : Int); refine Calls.mono (C3 _ HB.out) ?_; rintro e w3 ⟨rfl, hw⟩; rw [hw]; clear hw w3) | (go_at_call 16; refine Calls.mono (CL _) ?_; rintro e w3 ⟨rfl, hw⟩; rw [hw]; clear hw w3) | (go_at_call_has 24 p; refine Calls.mono (SS _ HB.out) ?_; rintro e w3 ⟨rfl, hb3⟩; have HB := hidOg (bt HB.out hb3); clear hb3) | (go_at_call_has 24 (1 : Nat); refine Calls.mono (SX _) ?_; rintro e w3 ⟨rfl, hb3⟩; have HB := hidOg (bt HB.out hb3); clear hb3) | (go_at_call_has 24 (0 : Nat); refine Calls.mono (sum_0 _) ?_; rintro e w3 ⟨rfl, hb3⟩; have HB := hidOg (bt HB.out hb3); clear hb3) | (go_at_call 19; refine Calls.mono (TX _) ?_; rintro e w3 ⟨rfl, hb3⟩; have HB := hidOg (bt HB.out hb3); clear hb3))
            go_ret
            exact ⟨rfl, bt hB.out HB.out⟩
          · go_wp2_with (first | (go_at_call 25; refine Calls.mono (NA _) ?_; rintro e w3 ⟨rfl, hw⟩; rw [hw]; clear hw w3) | (go_at_call 27; refine Calls.mono (C1 _ HB.out) ?_; rintro e w3 ⟨rfl, hw⟩; rw [hw]; clear hw w3) | (go_at_call_has 29 (9218868437227405312 : Int); refine Calls.mono (C2 _ HB.out) ?_; rintro e w3 ⟨rfl, hw⟩; rw [hw]; clear hw w3) | (go_at_call_has 29 (18442240474082181120 : Int); refine Calls.mono (C3 _ HB.out) ?_; rintro e w3 ⟨rfl, hw⟩; rw [hw]; clear hw w3) | (go_at_call 16; refine Calls.mono (CL _) ?_; rintro e w3 ⟨rfl, hw⟩; rw [hw]; clear hw w3) | (go_at_call_has 24 p; refine Calls.mono (SS _ HB.out) ?_; rintro e w3 ⟨rfl, hb3⟩; have HB := hidOg (bt HB.out hb3); clear hb3) | (go_at_call_has 24 (1 : Nat); refine Calls.mono (SX _) ?_; rintro e w3 ⟨rfl, hb3⟩; have HB := hidOg (bt HB.out hb3); clear hb3) | (go_at_call_has 24 (0 : Nat); refine Calls.mono (sum_0 _) ?_; rintro e w3 ⟨rfl, hb3⟩; have HB := hidOg (bt HB.out hb3); clear hb3) | (go_at_call 19; refine Calls.mono (TX _) ?_; rintro e w3 ⟨rfl, hb3⟩; have HB := hidOg (bt HB.out hb3); clear hb3))
            go_ret
            exact ⟨rfl, bt hB.out HB.out⟩
          · go_wp2_with (first | (go_at_call 25; refine Calls.mono (NA _) ?_; rintro e w3 ⟨rfl, hw⟩; rw [hw]; clear hw w3) | (go_at_call 27; refine Calls.mono (C1 _ HB.out) ?_; rintro e w3 ⟨rfl, hw⟩; rw [hw]; clear hw w3) | (go_at_call_has 29 (9218868437227405312 : Int); refine Calls.mono (C2 _ HB.out) ?_; rintro e w3 ⟨rfl, hw⟩; rw [hw]; clear hw w3) | (go_at_call_has 29 (18442240474082181120 : Int); refine Calls.mono (C3 _ HB.out) ?_; rintro e w3 ⟨rfl, hw⟩; rw [hw]; clear hw w3) | (go_at_call 16; refine Calls.mono (CL _) ?_; rintro e w3 ⟨rfl, hw⟩; rw [hw]; clear hw w3) | (go_at_call_has 24 p; refine Calls.mono (SS _ HB.out) ?_; rintro e w3 ⟨rfl, hb3⟩; have HB := hidOg (bt HB.out hb3); clear hb3) | (go_at_call_has 24 (1 : Nat); refine Calls.mono (SX _) ?_; rintro e w3 ⟨rfl, hb3⟩; have HB := hidOg (bt HB.out hb3); clear hb3) | (go_at_call_has 24 (0 : Nat); refine Calls.mono (sum_0 _) ?_; rintro e w3 ⟨rfl, hb3⟩; have HB := hidOg (bt HB.out hb3); clear hb3) | (go_at_call 19; refine Calls.mono (TX _) ?_; rintro e w3 ⟨rfl, hb3⟩; have HB := hidOg (bt HB.out hb3); clear hb3))
            go_ret
            exact ⟨rfl, bt hB.out HB.out⟩
          · go_wp2_with (first | (go_at_call 25; refine Calls.mono (NA _) ?_; rintro e w3 ⟨rfl, hw⟩; rw [hw]; clear hw w3) | (go_at_call 27; refine Calls.mono (C1 _ HB.out) ?_; rintro e w3 ⟨rfl, hw⟩; rw [hw]; clear hw w3) | (go_at_call_has 29 (9218868437227405312 : Int); refine Calls.mono (C2 _ HB.out) ?_; rintro e w3 ⟨rfl, hw⟩; rw [hw]; clear hw w3) | (go_at_call_has 29 (18442240474082181120 : Int); refine Calls.mono (C3 _ HB.out) ?_; rintro e w3 ⟨rfl, hw⟩; rw [hw]; clear hw w3) | (go_at_call 16; refine Calls.mono (CL _) ?_; rintro e w3 ⟨rfl, hw⟩; rw [hw]; clear hw w3) | (go_at_call_has 24 p; refine Calls.mono (SS _ HB.out) ?_; rintro e w3 ⟨rfl, hb3⟩; have HB := hidOg (bt HB.out hb3); clear hb3) | (go_at_call_has 24 (1 : Nat); refine Calls.mono (SX _) ?_; rintro e w3 ⟨rfl, hb3⟩; have HB := hidOg (bt HB.out hb3); clear hb3) | (go_at_call_has 24 (0 : Nat); refine Calls.mono (sum_0 _) ?_; rintro e w3 ⟨rfl, hb3⟩; have HB := hidOg (bt HB.out hb3); clear hb3) | (go_at_call 19; refine Calls.mono (TX _) ?_; rintro e w3 ⟨rfl, hb3⟩; have HB := hidOg (bt HB.out hb3); clear hb3))
            go_ret
            exact ⟨rfl, bt hB.out HB.out⟩
          · go_wp2_with (first | (go_at_call 25; refine Calls.mono (NA _) ?_; rintro e w3 ⟨rfl, hw⟩; rw [hw]; clear hw w3) | (go_at_call 27; refine Calls.mono (C1 _ HB.out) ?_; rintro e w3 ⟨rfl, hw⟩; rw [hw]; clear hw w3) | (go_at_call_has 29 (9218868437227405312 : Int); refine Calls.mono (C2 _ HB.out) ?_; rintro e w3 ⟨rfl, hw⟩; rw [hw]; clear hw w3) | (go_at_call_has 29 (18442240474082181120 : Int); refine Calls.mono (C3 _ HB.out) ?_; rintro e w3 ⟨rfl, hw⟩; rw [hw]; clear hw w3) | (go_at_call 16; refine Calls.mono (CL _) ?_; rintro e w3 ⟨rfl, hw⟩; rw [hw]; clear hw w3) | (go_at_call_has 24 p; refine Calls.mono (SS _ HB.out) ?_; rintro e w3 ⟨rfl, hb3⟩; have HB := hidOg (bt HB.out hb3); clear hb3) | (go_at_call_has 24 (1 : Nat); refine Calls.mono (SX _) ?_; rintro e w3 ⟨rfl, hb3⟩; have HB := hidOg (bt HB.out hb3); clear hb3) | (go_at_call_has 24 (0 : Nat); refine Calls.mono (sum_0 _) ?_; rintro e w3 ⟨rfl, hb3⟩; have HB := hidOg (bt HB.out hb3); clear hb3) | (go_at_call 19; refine Calls.mono (TX _) ?_; rintro e w3 ⟨rfl, hb3⟩; have HB := hidOg (bt HB.out hb3); clear hb3))
            go_ret
            exact ⟨rfl, bt hB.out HB.out⟩
          · go_wp2_with (first | (go_at_call 25; refine Calls.mono (NA _) ?_; rintro e w3 ⟨rfl, hw⟩; rw [hw]; clear hw w3) | (go_at_call 27; refine Calls.mono (C1 _ HB.out) ?_; rintro e w3 ⟨rfl, hw⟩; rw [hw]; clear hw w3) | (go_at_call_has 29 (9218868437227405312 : Int); refine Calls.mono (C2 _ HB.out) ?_; rintro e w3 ⟨rfl, hw⟩; rw [hw]; clear hw w3) | (go_at_call_has 29 (18442240474082181120 : Int); refine Calls.mono (C3 _ HB.out) ?_; rintro e w3 ⟨rfl, hw⟩; rw [hw]; clear hw w3) | (go_at_call 16; refine Calls.mono (CL _) ?_; rintro e w3 ⟨rfl, hw⟩; rw [hw]; clear hw w3) | (go_at_call_has 24 p; refine Calls.mono (SS _ HB.out) ?_; rintro e w3 ⟨rfl, hb3⟩; have HB := hidOg (bt HB.out hb3); clear hb3) | (go_at_call_has 24 (1 : Nat); refine Calls.mono (SX _) ?_; rintro e w3 ⟨rfl, hb3⟩; have HB := hidOg (bt HB.out hb3); clear hb3) | (go_at_call_has 24 (0 : Nat); refine Calls.mono (sum_0 _) ?_; rintro e w3 ⟨rfl, hb3⟩; have HB := hidOg (bt HB.out hb3); clear hb3) | (go_at_call 19; refine Calls.mono (TX _) ?_; rintro e w3 ⟨rfl, hb3⟩; have HB := hidOg (bt HB.out hb3); clear hb3))
            go_ret
            exact ⟨rfl, bt hB.out HB.out⟩
          · go_wp2_with (first | (go_at_call 25; refine Calls.mono (NA _) ?_; rintro e w3 ⟨rfl, hw⟩; rw [hw]; clear hw w3) | (go_at_call 27; refine Calls.mono (C1 _ HB.out) ?_; rintro e w3 ⟨rfl, hw⟩; rw [hw]; clear hw w3) | (go_at_call_has 29 (9218868437227405312 : Int); refine Calls.mono (C2 _ HB.out) ?_; rintro e w3 ⟨rfl, hw⟩; rw [hw]; clear hw w3) | (go_at_call_has 29 (18442240474082181120 : Int); refine Calls.mono (C3 _ HB.out) ?_; rintro e w3 ⟨rfl, hw⟩; rw [hw]; clear hw w3) | (go_at_call 16; refine Calls.mono (CL _) ?_; rintro e w3 ⟨rfl, hw⟩; rw [hw]; clear hw w3) | (go_at_call_has 24 p; refine Calls.mono (SS _ HB.out) ?_; rintro e w3 ⟨rfl, hb3⟩; have HB := hidOg (bt HB.out hb3); clear hb3) | (go_at_call_has 24 (1 : Nat); refine Calls.mono (SX _) ?_; rintro e w3 ⟨rfl, hb3⟩; have HB := hidOg (bt HB.out hb3); clear hb3) | (go_at_call_has 24 (0 : Nat); refine Calls.mono (sum_0 _) ?_; rintro e w3 ⟨rfl, hb3⟩; have HB := hidOg (bt HB.out hb3); clear hb3) | (go_at_call 19; refine Calls.mono (TX _) ?_; rintro e w3 ⟨rfl, hb3⟩; have HB := hidOg (bt HB.out hb3); clear hb3))
            go_ret
            exact ⟨rfl, bt hB.out HB.out⟩
          · go_wp2_with (first | (go_at_call 25; refine Calls.mono (NA _) ?_; rintro e w3 ⟨rfl, hw⟩; rw [hw]; clear hw w3) | (go_at_call 27; refine Calls.mono (C1 _ HB.out) ?_; rintro e w3 ⟨rfl, hw⟩; rw [hw]; clear hw w3) | (go_at_call_has 29 (9218868437227405312 : Int); refine Calls.mono (C2 _ HB.out) ?_; rintro e w3 ⟨rfl, hw⟩; rw [hw]; clear hw w3) | (go_at_call_has 29 (18442240474082181120 : Int); refine Calls.mono (C3 _ HB.out) ?_; rintro e w3 ⟨rfl, hw⟩; rw [hw]; clear hw w3) | (go_at_call 16; refine Calls.mono (CL _) ?_; rintro e w3 ⟨rfl, hw⟩; rw [hw]; clear hw w3) | (go_at_call_has 24 p; refine Calls.mono (SS _ HB.out) ?_; rintro e w3 ⟨rfl, hb3⟩; have HB := hidOg (bt HB.out hb3); clear hb3) | (go_at_call_has 24 (1 : Nat); refine Calls.mono (SX _) ?_; rintro e w3 ⟨rfl, hb3⟩; have HB := hidOg (bt HB.out hb3); clear hb3) | (go_at_call_has 24 (0 : Nat); refine Calls.mono (sum_0 _) ?_; rintro e w3 ⟨rfl, hb3⟩; have HB := hidOg (bt HB.out hb3); clear hb3) | (go_at_call 19; refine Calls.mono (TX _) ?_; rintro e w3 ⟨rfl, hb3⟩; have HB := hidOg (bt HB.out hb3); clear hb3))
            go_ret
            exact ⟨rfl, bt hB.out HB.out⟩
        · have hc4 : (clW x != 4) = true := by have := hx4.out; rw [hnx] at this; simpa using this.symm
          have hc5 : (clW x == 4) = false := by simpa using hc4
          rw [same_x hnx] at TX
          rw [hnx] at SX
          obtain ⟨u, hu⟩ : ∃ u, u = unW x := ⟨_, rfl⟩
          rw [← hu] at TX SX
          clear hx4 hnx hu
          simp only [if_true] at SX
          cases a1 <;> cases a2 <;> cases a3
          · go_wp2_with (first | (go_at_call 25; refine Calls.mono (NA _) ?_; rintro e w3 ⟨rfl, hw⟩; rw [hw]; clear hw w3) | (go_at_call 27; refine Calls.mono (C1 _ HB.out) ?_; rintro e w3 ⟨rfl, hw⟩; rw [hw]; clear hw w3) | (go_at_call_has 29 (9218868437227405312 : Int); refine Calls.mono (C2 _ HB.out) ?_; rintro e w3 ⟨rfl, hw⟩; rw [hw]; clear hw w3) | (go_at_call_has 29 (18442240474082181120 : Int); refine Calls.mono (C3 _ HB.out) ?_; rintro e w3 ⟨rfl, hw⟩; rw [hw]; clear hw w3) | (go_at_call 16; refine Calls.mono (CL _) ?_; rintro e w3 ⟨rfl, hw⟩; rw [hw]; clear hw w3) | (go_at_call_has 24 p; refine Calls.mono (SS _ HB.out) ?_; rintro e w3 ⟨rfl, hb3⟩; have HB := hidOg (bt HB.out hb3); clear hb3) | (go_at_call_has 24 (1 : Nat); refine Calls.mono (SX _) ?_; rintro e w3 ⟨rfl, hb3⟩; have HB := hidOg (bt HB.out hb3); clear hb3) | (go_at_call_has 24 (0 : Nat); refine Calls.mono (sum_0 _) ?_; rintro e w3 ⟨rfl, hb3⟩; have HB := hidOg (bt HB.out hb3); clear hb3) | (go_at_call 19; refine Calls.mono (TX _) ?_; rintro e w3 ⟨rfl, hb3⟩; have HB := hidOg (bt HB.out hb3); clear hb3))
            go_ret
            exact ⟨rfl, bt hB.out HB.out⟩
          · go_wp2_with (first | (go_at_call 25; refine Calls.mono (NA _) ?_; rintro e w3 ⟨rfl, hw⟩; rw [hw]; clear hw w3) | (go_at_call 27; refine Calls.mono (C1 _ HB.out) ?_; rintro e w3 ⟨rfl, hw⟩; rw [hw]; clear hw w3) | (go_at_call_has 29 (9218868437227405312 : Int); refine Calls.mono (C2 _ HB.out) ?_; rintro e w3 ⟨rfl, hw⟩; rw [hw]; clear hw w3) | (go_at_call_has 29 (18442240474082181120 : Int); refine Calls.mono (C3 _ HB.out) ?_; rintro e w3 ⟨rfl, hw⟩; rw [hw]; clear hw w3) | (go_at_call 16; refine Calls.mono (CL _) ?_; rintro e w3 ⟨rfl, hw⟩; rw [hw]; clear hw w3) | (go_at_call_has 24 p; refine Calls.mono (SS _ HB.out) ?_; rintro e w3 ⟨rfl, hb3⟩; have HB := hidOg (bt HB.out hb3); clear hb3) | (go_at_call_has 24 (1 : Nat); refine Calls.mono (SX _) ?_; rintro e w3 ⟨rfl, hb3⟩; have HB := hidOg (bt HB.out hb3); clear hb3) | (go_at_call_has 24 (0 : Nat); refine Calls.mono (sum_0 _) ?_; rintro e w3 ⟨rfl, hb3⟩; have HB := hidOg (bt HB.out hb3); clear hb3) | (go_at_call 19; refine Calls.mono (TX _) ?_; rintro e w3 ⟨rfl, hb3⟩; have HB := hidOg (bt HB.out hb3); clear hb3))
            go_ret
            exact ⟨rfl, bt hB.out HB.out⟩
          · go_wp2_with (first | (go_at_call 25; refine Calls.mono (NA _) ?_; rintro e w3 ⟨rfl, hw⟩; rw [hw]; clear hw w3) | (go_at_call 27; refine Calls.mono (C1 _ HB.out) ?_; rintro e w3 ⟨rfl, hw⟩; rw [hw]; clear hw w3) | (go_at_call_has 29 (9218868437227405312 : Int); refine Calls.mono (C2 _ HB.out) ?_; rintro e w3 ⟨rfl, hw⟩; rw [hw]; clear hw w3) | (go_at_call_has 29 (18442240474082181120 : Int); refine Calls.mono (C3 _ HB.out) ?_; rintro e w3 ⟨rfl, hw⟩; rw [hw]; clear hw w3) | (go_at_call 16; refine Calls.mono (CL _) ?_; rintro e w3 ⟨rfl, hw⟩; rw [hw]; clear hw w3) | (go_at_call_has 24 p; refine Calls.mono (SS _ HB.out) ?_; rintro e w3 ⟨rfl, hb3⟩; have HB := hidOg (bt HB.out hb3); clear hb3) | (go_at_call_has 24 (1 : Nat); refine Calls.mono (SX _) ?_; rintro e w3 ⟨rfl, hb3⟩; have HB := hidOg (bt HB.out hb3); clear hb3) | (go_at_call_has 24 (0 : Nat); refine Calls.mono (sum_0 _) ?_; rintro e w3 ⟨rfl, hb3⟩; have HB := hidOg (bt HB.out hb3); clear hb3) | (go_at_call 19; refine Calls.mono (TX _) ?_; rintro e w3 ⟨rfl, hb3⟩; have HB := hidOg (bt HB.out hb3); clear hb3))
            go_ret
            exact ⟨rfl, bt hB.out HB.out⟩
          · go_wp2_with (first | (go_at_call 25; refine Calls.mono (NA _) ?_; rintro e w3 ⟨rfl, hw⟩; rw [hw]; clear hw w3) | (go_at_call 27; refine Calls.mono (C1 _ HB.out) ?_; rintro e w3 ⟨rfl, hw⟩; rw [hw]; clear hw w3) | (go_at_call_has 29 (9218868437227405312 : Int); refine Calls.mono (C2 _ HB.out) ?_; rintro e w3 ⟨rfl, hw⟩; rw [hw]; clear hw w3) | (go_at_call_has 29 (18442240474082181120 : Int); refine Calls.mono (C3 _ HB.out) ?_; rintro e w3 ⟨rfl, hw⟩; rw [hw]; clear hw w3) | (go_at_call 16; refine Calls.mono (CL _) ?_; rintro e w3 ⟨rfl, hw⟩; rw [hw]; clear hw w3) | (go_at_call_has 24 p; refine Calls.mono (SS _ HB.out) ?_; rintro e w3 ⟨rfl, hb3⟩; have HB := hidOg (bt HB.out hb3); clear hb3) | (go_at_call_has 24 (1 : Nat); refine Calls.mono (SX _) ?_; rintro e w3 ⟨rfl, hb3⟩; have HB := hidOg (bt HB.out hb3); clear hb3) | (go_at_call_has 24 (0 : Nat); refine Calls.mono (sum_0 _) ?_; rintro e w3 ⟨rfl, hb3⟩; have HB := hidOg (bt HB.out hb3); clear hb3) | (go_at_call 19; refine Calls.mono (TX _) ?_; rintro e w3 ⟨rfl, hb3⟩; have HB := hidOg (bt HB.out hb3); clear hb3))
            go_ret
            exact ⟨rfl, bt hB.out HB.out⟩
          · go_wp2_with (first | (go_at_call 25; refine Calls.mono (NA _) ?_; rintro e w3 ⟨rfl, hw⟩; rw [hw]; clear hw w3) | (go_at_call 27; refine Calls.mono (C1 _ HB.out) ?_; rintro e w3 ⟨rfl, hw⟩; rw [hw]; clear hw w3) | (go_at_call_has 29 (9218868437227405312 : Int); refine Calls.mono (C2 _ HB.out) ?_; rintro e w3 ⟨rfl, hw⟩; rw [hw]; clear hw w3) | (go_at_call_has 29 (18442240474082181120 : Int); refine Calls.mono (C3 _ HB.out) ?_; rintro e w3 ⟨rfl, hw⟩; rw [hw]; clear hw w3) | (go_at_call 16; refine Calls.mono (CL _) ?_; rintro e w3 ⟨rfl, hw⟩; rw [hw]; clear hw w3) | (go_at_call_has 24 p; refine Calls.mono (SS _ HB.out) ?_; rintro e w3 ⟨rfl, hb3⟩; have HB := hidOg (bt HB.out hb3); clear hb3) | (go_at_call_has 24 (1 : Nat); refine Calls.mono (SX _) ?_; rintro e w3 ⟨rfl, hb3⟩; have HB := hidOg (bt HB.out hb3); clear hb3) | (go_at_call_has 24 (0 : Nat); refine Calls.mono (sum_0 _) ?_; rintro e w3 ⟨rfl, hb3⟩; have HB := hidOg (bt HB.out hb3); clear hb3) | (go_at_call 19; refine Calls.mono (TX _) ?_; rintro e w3 ⟨rfl, hb3⟩; have HB := hidOg (bt HB.out hb3); clear hb3))
            go_ret
            exact ⟨rfl, bt hB.out HB.out⟩
          · go_wp2_with (first | (go_at_call 25; refine Calls.mono (NA _) ?_; rintro e w3 ⟨rfl, hw⟩; rw [hw]; clear hw w3) | (go_at_call 27; refine Calls.mono (C1 _ HB.out) ?_; rintro e w3 ⟨rfl, hw⟩; rw [hw]; clear hw w3) | (go_at_call_has 29 (9218868437227405312 : Int); refine Calls.mono (C2 _ HB.out) ?_; rintro e w3 ⟨rfl, hw⟩; rw [hw]; clear hw w3) | (go_at_call_has 29 (18442240474082181120 : Int); refine Calls.mono (C3 _ HB.out) ?_; rintro e w3 ⟨rfl, hw⟩; rw [hw]; clear hw w3) | (go_at_call 16; refine Calls.mono (CL _) ?_; rintro e w3 ⟨rfl, hw⟩; rw [hw]; clear hw w3) | (go_at_call_has 24 p; refine Calls.mono (SS _ HB.out) ?_; rintro e w3 ⟨rfl, hb3⟩; have HB := hidOg (bt HB.out hb3); clear hb3) | (go_at_call_has 24 (1 : Nat); refine Calls.mono (SX _) ?_; rintro e w3 ⟨rfl, hb3⟩; have HB := hidOg (bt HB.out hb3); clear hb3) | (go_at_call_has 24 (0 : Nat); refine Calls.mono (sum_0 _) ?_; rintro e w3 ⟨rfl, hb3⟩; have HB := hidOg (bt HB.out hb3); clear hb3) | (go_at_call 19; refine Calls.mono (TX _) ?_; rintro e w3 ⟨rfl, hb3⟩; have HB := hidOg (bt HB.out hb3); clear hb3))
            go_ret
            exact ⟨rfl, bt hB.out HB.out⟩
          · go_wp2_with (first | (go_at_call 25; refine Calls.mono (NA _) ?_; rintro e w3 ⟨rfl, hw⟩; rw [hw]; clear hw w3) | (go_at_call 27; refine Calls.mono (C1 _ HB.out) ?_; rintro e w3 ⟨rfl, hw⟩; rw [hw]; clear hw w3) | (go_at_call_has 29 (9218868437227405312 : Int); refine Calls.mono (C2 _ HB.out) ?_; rintro e w3 ⟨rfl, hw⟩; rw [hw]; clear hw w3) | (go_at_call_has 29 (18442240474082181120 : Int); refine Calls.mono (C3 _ HB.out) ?_; rintro e w3 ⟨rfl, hw⟩; rw [hw]; clear hw w3) | (go_at_call 16; refine Calls.mono (CL _) ?_; rintro e w3 ⟨rfl, hw⟩; rw [hw]; clear hw w3) | (go_at_call_has 24 p; refine Calls.mono (SS _ HB.out) ?_; rintro e w3 ⟨rfl, hb3⟩; have HB := hidOg (bt HB.out hb3); clear hb3) | (go_at_call_has 24 (1 : Nat); refine Calls.mono (SX _) ?_; rintro e w3 ⟨rfl, hb3⟩; have HB := hidOg (bt HB.out hb3); clear hb3) | (go_at_call_has 24 (0 : Nat); refine Calls.mono (sum_0 _) ?_; rintro e w3 ⟨rfl, hb3⟩; have HB := hidOg (bt HB.out hb3); clear hb3) | (go_at_call 19; refine Calls.mono (TX _) ?_; rintro e w3 ⟨rfl, hb3⟩; have HB := hidOg (bt HB.out hb3); clear hb3))
            go_ret
            exact ⟨rfl, bt hB.out HB.out⟩
          · go_wp2_with (first | (go_at_call 25; refine Calls.mono (NA _) ?_; rintro e w3 ⟨rfl, hw⟩; rw [hw]; clear hw w3) | (go_at_call 27; refine Calls.mono (C1 _ HB.out) ?_; rintro e w3 ⟨rfl, hw⟩; rw [hw]; clear hw w3) | (go_at_call_has 29 (9218868437227405312 : Int); refine Calls.mono (C2 _ HB.out) ?_; rintro e w3 ⟨rfl, hw⟩; rw [hw]; clear hw w3) | (go_at_call_has 29 (18442240474082181120 : Int); refine Calls.mono (C3 _ HB.out) ?_; rintro e w3 ⟨rfl, hw⟩; rw [hw]; clear hw w3) | (go_at_call 16; refine Calls.mono (CL _) ?_; rintro e w3 ⟨rfl, hw⟩; rw [hw]; clear hw w3) | (go_at_call_has 24 p; refine Calls.mono (SS _ HB.out) ?_; rintro e w3 ⟨rfl, hb3⟩; have HB := hidOg (bt HB.out hb3); clear hb3) | (go_at_call_has 24 (1 : Nat); refine Calls.mono (SX _) ?_; rintro e w3 ⟨rfl, hb3⟩; have HB := hidOg (bt HB.out hb3); clear hb3) | (go_at_call_has 24 (0 : Nat); refine Calls.mono (sum_0 _) ?_; rintro e w3 ⟨rfl, hb3⟩; have HB := hidOg (bt HB.out hb3); clear hb3) | (go_at_call 19; refine Calls.mono (TX _) ?_; rintro e w3 ⟨rfl, hb3⟩; have HB := hidOg (bt HB.out hb3); clear hb3))
            go_ret
            exact ⟨rfl, bt hB.out HB.out⟩
      · have SS := fun (W : World) (h : Below w2.heap.size w2 W) => sum_y p l c r W (hF.to h) hs hn
        have ne : ((r : Int) == 9221120237041090560) = false := by
          rw [beq_eq_false_iff_ne]; intro h; rw [h, nuW_nan] at hn; cases hn
        have Z1 := (Y1 hn).out
        have Z2 := Y2 hn
        rw [hn] at NA
        clear Y1 Y2 ha1 ha2 ha3 hs hb hF hn
        cases hnx : nuW x
        · have hc4 : clW x = 4 := by have := hx4.out; rw [hnx] at this; simpa using this.symm
          rw [hnx] at SX
          rw [hc4] at CL
          clear hx4 hnx hc4 TX
          simp only [Bool.false_eq_true, if_false] at SX
          subst Z1
          cases a2
          · clear Z2
            go_wp2_with (first | (go_at_call 25; refine Calls.mono (NA _) ?_; rintro e w3 ⟨rfl, hw⟩; rw [hw]; clear hw w3) | (go_at_call 27; refine Calls.mono (C1 _ HB.out) ?_; rintro e w3 ⟨rfl, hw⟩; rw [hw]; clear hw w3) | (go_at_call_has 29 (9218868437227405312 : Int); refine Calls.mono (C2 _ HB.out) ?_; rintro e w3 ⟨rfl, hw⟩; rw [hw]; clear hw w3) | (go_at_call_has 29 (18442240474082181120 : Int); refine Calls.mono (C3 _ HB.out) ?_; rintro e w3 ⟨rfl, hw⟩; rw [hw]; clear hw w3) | (go_at_call 16; refine Calls.mono (CL _) ?_; rintro e w3 ⟨rfl, hw⟩; rw [hw]; clear hw w3) | (go_at_call_has 24 p; refine Calls.mono (SS _ HB.out) ?_; rintro e w3 ⟨rfl, hb3⟩; have HB := hidOg (bt HB.out hb3); clear hb3) | (go_at_call_has 24 (1 : Nat); refine Calls.mono (SX _) ?_; rintro e w3 ⟨rfl, hb3⟩; have HB := hidOg (bt HB.out hb3); clear hb3) | (go_at_call_has 24 (0 : Nat); refine Calls.mono (sum_0 _) ?_; rintro e w3 ⟨rfl, hb3⟩; have HB := hidOg (bt HB.out hb3); clear hb3) | (go_at_call 19; refine Calls.mono (TX _) ?_; rintro e w3 ⟨rfl, hb3⟩; have HB := hidOg (bt HB.out hb3); clear hb3))
            go_ret
            exact ⟨rfl, bt hB.out HB.out⟩
          · obtain rfl := Z2 rfl
            clear Z2
            go_wp2_with (first | (go_at_call 25; refine Calls.mono (NA _) ?_; rintro e w3 ⟨rfl, hw⟩; rw [hw]; clear hw w3) | (go_at_call 27; refine Calls.mono (C1 _ HB.out) ?_; rintro e w3 ⟨rfl, hw⟩; rw [hw]; clear hw w3) | (go_at_call_has 29 (9218868437227405312 : Int); refine Calls.mono (C2 _ HB.out) ?_; rintro e w3 ⟨rfl, hw⟩; rw [hw]; clear hw w3) | (go_at_call_has 29 (18442240474082181120 : Int); refine Calls.mono (C3 _ HB.out) ?_; rintro e w3 ⟨rfl, hw⟩; rw [hw]; clear hw w3) | (go_at_call 16; refine Calls.mono (CL _) ?_; rintro e w3 ⟨rfl, hw⟩; rw [hw]; clear hw w3) | (go_at_call_has 24 p; refine Calls.mono (SS _ HB.out) ?_; rintro e w3 ⟨rfl, hb3⟩; have HB := hidOg (bt HB.out hb3); clear hb3) | (go_at_call_has 24 (1 : Nat); refine Calls.mono (SX _) ?_; rintro e w3 ⟨rfl, hb3⟩; have HB := hidOg (bt HB.out hb3); clear hb3) | (go_at_call_has 24 (0 : Nat); refine Calls.mono (sum_0 _) ?_; rintro e w3 ⟨rfl, hb3⟩; have HB := hidOg (bt HB.out hb3); clear hb3) | (go_at_call 19; refine Calls.mono (TX _) ?_; rintro e w3 ⟨rfl, hb3⟩; have HB := hidOg (bt HB.out hb3); clear hb3))
            go_ret
            exact ⟨rfl, bt hB.out HB.out⟩
        · have hc4 : (clW x != 4) = true := by have := hx4.out; rw [hnx] at this; simpa using this.symm
          have hc5 : (clW x == 4) = false := by simpa using hc4
          rw [same_x hnx] at TX
          rw [hnx] at SX
          obtain ⟨u, hu⟩ : ∃ u, u = unW x := ⟨_, rfl⟩
          rw [← hu] at TX SX
          clear hx4 hnx hu
          simp only [if_true] at SX
          subst Z1
          cases a2
          · clear Z2
            go_wp2_with (first | (go_at_call 25; refine Calls.mono (NA _) ?_; rintro e w3 ⟨rfl, hw⟩; rw [hw]; clear hw w3) | (go_at_call 27; refine Calls.mono (C1 _ HB.out) ?_; rintro e w3 ⟨rfl, hw⟩; rw [hw]; clear hw w3) | (go_at_call_has 29 (9218868437227405312 : Int); refine Calls.mono (C2 _ HB.out) ?_; rintro e w3 ⟨rfl, hw⟩; rw [hw]; clear hw w3) | (go_at_call_has 29 (18442240474082181120 : Int); refine Calls.mono (C3 _ HB.out) ?_; rintro e w3 ⟨rfl, hw⟩; rw [hw]; clear hw w3) | (go_at_call 16; refine Calls.mono (CL _) ?_; rintro e w3 ⟨rfl, hw⟩; rw [hw]; clear hw w3) | (go_at_call_has 24 p; refine Calls.mono (SS _ HB.out) ?_; rintro e w3 ⟨rfl, hb3⟩; have HB := hidOg (bt HB.out hb3); clear hb3) | (go_at_call_has 24 (1 : Nat); refine Calls.mono (SX _) ?_; rintro e w3 ⟨rfl, hb3⟩; have HB := hidOg (bt HB.out hb3); clear hb3) | (go_at_call_has 24 (0 : Nat); refine Calls.mono (sum_0 _) ?_; rintro e w3 ⟨rfl, hb3⟩; have HB := hidOg (bt HB.out hb3); clear hb3) | (go_at_call 19; refine Calls.mono (TX _) ?_; rintro e w3 ⟨rfl, hb3⟩; have HB := hidOg (bt HB.out hb3); clear hb3))
            go_ret
            exact ⟨rfl, bt hB.out HB.out⟩
          · obtain rfl := Z2 rfl
            clear Z2
            go_wp2_with (first | (go_at_call 25; refine Calls.mono (NA _) ?_; rintro e w3 ⟨rfl, hw⟩; rw [hw]; clear hw w3) | (go_at_call 27; refine Calls.mono (C1 _ HB.out) ?_; rintro e w3 ⟨rfl, hw⟩; rw [hw]; clear hw w3) | (go_at_call_has 29 (9218868437227405312 : Int); refine Calls.mono (C2 _ HB.out) ?_; rintro e w3 ⟨rfl, hw⟩; rw [hw]; clear hw w3) | (go_at_call_has 29 (18442240474082181120 : Int); refine Calls.mono (C3 _ HB.out) ?_; rintro e w3 ⟨rfl, hw⟩; rw [hw]; clear hw w3) | (go_at_call 16; refine Calls.mono (CL _) ?_; rintro e w3 ⟨rfl, hw⟩; rw [hw]; clear hw w3) | (go_at_call_has 24 p; refine Calls.mono (SS _ HB.out) ?_; rintro e w3 ⟨rfl, hb3⟩; have HB := hidOg (bt HB.out hb3); clear hb3) | (go_at_call_has 24 (1 : Nat); refine Calls.mono (SX _) ?_; rintro e w3 ⟨rfl, hb3⟩; have HB := hidOg (bt HB.out hb3); clear hb3) | (go_at_call_has 24 (0 : Nat); refine Calls.mono (sum_0 _) ?_; rintro e w3 ⟨rfl, hb3⟩; have HB := hidOg (bt HB.out hb3); clear hb3) | (go_at_call 19; refine Calls.mono (TX _) ?_; rintro e w3 ⟨rfl, hb3⟩; have HB := hidOg (bt HB.out hb3); clear hb3))
            go_ret
            exact ⟨rfl, bt hB.out HB.out⟩
end Go.Proofs.Ytglfhgedaknljaa
