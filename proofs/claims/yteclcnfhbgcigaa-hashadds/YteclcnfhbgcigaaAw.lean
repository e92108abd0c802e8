/- HashAdds: its walk. -/
import Derived.Test.YteclcnfhbgcigaaAd
namespace Go.Proofs.Yteclcnfhbgcigaa
open Go.RowKit

theorem min_facts30 (len n : Nat) (hn : n = min len 30) : (if (30 : Int) < (len : Int) then (30 : Int) else (len : Int)) = (n : Int) ∧ min (len : Int) 30 = (n : Int) ∧ (0 : Int) ≤ (n : Int) := by
  subst hn
  refine ⟨?_, by omega, by omega⟩
  split <;> omega

set_option maxHeartbeats 2000000 in
set_option maxRecDepth 20000 in
theorem adds_walk (p q : Option Addr) (hs x : List Nat) (c d : Nat) (w : World) (hl : InR w p hs c) (hr : InR w q x d) :
    Calls Try.prog 3 #[.slice p hs.length c, .slice q x.length d] w fun e w' => e = .returned (.bool true) ∧ Below w.heap.size w w' := by
  obtain ⟨n, hn⟩ : ∃ n, n = min x.length 30 := ⟨_, rfl⟩
  obtain ⟨f1, f2, f3⟩ := min_facts30 _ _ hn
  have rc := hr.r
  have k1 : (n : Int) ≤ (d : Int) := by omega
  have l30 : n ≤ 30 := by omega
  have ln : (x.take 30).length = n := by rw [List.length_take]; omega
  have HA : Hid (NRow w.heap.size w q (x.take 30)) := hr.i.take 30
  have UA : Hid (U64 (x.take 30)) := hr.u.take 30
  obtain ⟨a, ha⟩ : ∃ a, a = x.take 30 := ⟨_, rfl⟩
  rw [← ha] at HA UA ln
  obtain ⟨L, hL⟩ : ∃ L, L = x.length := ⟨_, rfl⟩
  rw [← hL] at f1 f2 ⊢
  have HH := hidOg hl
  have hm := hl.m
  have CL := fun (W : World) (hb : Below w.heap.size w W) => clone9 q a d W ((HA.out.below hb (Nat.le_refl _)).mono hb.size) (by omega)
  have OF := fun (P : Option Addr) (C : Nat) (W : World) (h : NRow W.heap.size W P a) => of10 P a C W h UA.out (by omega)
  have RF := fun (P : Option Addr) (C : Nat) (W : World) (h : NRow W.heap.size W P a) => refOf11 P a C W h UA.out (by omega)
  have EQ := fun (P : Option Addr) (C : Nat) (W : World) (h : NRow W.heap.size W P a) (hb : Below w.heap.size w W) => equal12 P q a C d W h ((HA.out.below hb (Nat.le_refl _)).mono hb.size) (by omega)
  rw [ln] at OF RF EQ CL
  unfold Gives at CL
  rw [ln] at CL
  obtain ⟨o, ho⟩ : ∃ o, o = hOf a := ⟨_, rfl⟩
  rw [← ho] at OF RF
  clear ha hL hl hr rc hn ho
  go_enter Try.func3, Try.ntmps3
  go_wp2_with (first
    | (go_at_call 8; refine Calls.mono (wakes8 _) ?_; rintro e w1 ⟨rfl, hb1⟩)
    | (go_at_call 9; refine Calls.mono (CL _ hb1) ?_; clear CL; rintro e w2 ⟨P, C, rfl, NP, hb2⟩; have hB2 := hb1.trans (hb2.mono hb1.size))
    | (go_at_call 10; refine Calls.mono (OF P C _ NP) ?_; clear OF; rintro e w3 ⟨rfl, hb3⟩; have NP3 := NP.to hb3; have hB3 := hB2.trans (hb3.mono hB2.size))
    | (go_at_call 11; refine Calls.mono (RF P C _ NP3) ?_; clear RF; rintro e w4 ⟨rfl, hb4⟩; have NP4 := NP3.to hb4; have hB4 := hB3.trans (hb4.mono hB3.size))
    | (go_at_call 12; refine Calls.mono (EQ P C _ NP4 hB4) ?_; clear EQ; rintro e w5 ⟨rfl, hb5⟩; have NP5 := NP4.to hb5; have hB5 := hB4.trans (hb5.mono hB4.size)))
  have HN := hidOg NP5
  have HW := hidOg hB5
  have HHi := hidOg ((HH.out.i.below hB5 (Nat.le_refl _)).mono hB5.size)
  have HHu := hidOg HH.out.u
  clear hb1 hb2 hb3 hb4 hb5 hB2 hB3 hB4 hB5 NP NP3 NP4 NP5 HH f1 f2 f3 k1 HA
  go_loopw [34] (fun i wr => ∃ k : Nat, k ≤ hs.length ∧ i = .int .i64 k ∧ Below w5.heap.size w5 wr) (fun i _ => hs.length - (intOf i).toNat)
  case atStart => exact ⟨0, Nat.zero_le _, rfl, Below.refl _ _⟩
  case round =>
    obtain ⟨k, hk, rfl, hnx⟩ := hrel
    have HX := hidOg hnx
    clear hnx
    by_cases hlt : k < hs.length
    · obtain ⟨b, off, rfl, hbB, hcs⟩ := (HHi.out.below HX.out (Nat.le_refl _)) (by omega)
      have c0 := hcs k hlt
      have HU := hidOg (HHu.out.at hlt)
      obtain ⟨h, hh⟩ : ∃ h, h = nG hs k := ⟨_, rfl⟩
      rw [← hh] at c0 HU
      clear hcs hh
      by_cases h12 : k = 12
      · subst h12
        go_wp2
        go_ret
        exact ⟨rfl, HW.out.trans (HX.out.mono HW.out.size)⟩
      · have e12 : ((k : Int) == 12) = false := by simp; omega
        go_wp2
        go_loopw [43] (fun i wx => ∃ j : Nat, j ≤ n ∧ i = .int .i64 j ∧ Below w5.heap.size w5 wx) (fun i _ => n - (intOf i).toNat)
        case atStart => exact ⟨0, Nat.zero_le _, rfl, HX.out⟩
        case round =>
          obtain ⟨j, hj, rfl, hnx⟩ := hrel
          have HY := hidOg hnx
          clear hnx
          by_cases hlj : j < n
          · obtain ⟨b', off', rfl, hbB', hcs'⟩ := (HN.out.below HY.out (Nat.le_refl _)) (by omega)
            have c1 := hcs' j (by omega)
            have hV := UA.out.at (show j < a.length by omega)
            have A1 := fun (W : World) => hadd13 h (nG a j) W HU.out hV
            have A2 := fun (W : World) => refAdd14 h (nG a j) W HU.out hV
            obtain ⟨y, hy⟩ : ∃ y, y = nG a j := ⟨_, rfl⟩
            obtain ⟨z, hz⟩ : ∃ z, z = hId h y := ⟨_, rfl⟩
            rw [← hy] at c1 A1 A2
            rw [← hz] at A1 A2
            clear hcs' hy hz hV
            by_cases h8 : j < 8
            · go_wp2_with (first
                | (go_at_call 13; refine Calls.mono (A1 _) ?_; clear A1; rintro e w6 ⟨rfl, hb6⟩)
                | (go_at_call 14; refine Calls.mono (A2 _) ?_; clear A2; rintro e w7 ⟨rfl, hb7⟩))
              go_roundw
              case rel => exact ⟨j + 1, by omega, by go_num, HY.out.trans ((bt hb6 hb7).mono HY.out.size)⟩
              case measure => simp [intOf]; omega
            · clear A1 A2
              go_wp2
              go_roundw
              case rel => exact ⟨j + 1, by omega, by go_num, HY.out⟩
              case measure => simp [intOf]; omega
          · obtain rfl : j = n := by omega
            go_wp2
            go_roundw
            case rel => exact ⟨k + 1, by omega, by go_num, HY.out⟩
            case measure => simp [intOf]; omega
    · obtain rfl : k = hs.length := by omega
      go_wp2
      go_ret
      exact ⟨rfl, HW.out.trans (HX.out.mono HW.out.size)⟩
end Go.Proofs.Yteclcnfhbgcigaa
