/- HashParts: its walk. -/
import Derived.Test.YteclcnfhbgcigaaPaA
namespace Go.Proofs.Yteclcnfhbgcigaa
open Go.RowKit

theorem min_facts (len n : Nat) (hn : n = min len 20) : (if (20 : Int) < (len : Int) then (20 : Int) else (len : Int)) = (n : Int) ∧ min (len : Int) 20 = (n : Int) ∧ (0 : Int) ≤ (n : Int) := by
  subst hn
  refine ⟨?_, by omega, by omega⟩
  split <;> omega
theorem adN_zero (h : Nat) (l : List Nat) : adN h l 0 = h := rfl
theorem adN_back {h : Nat} (hh : h < 18446744073709551616) {l : List Nat} {k : Nat} (hk : k < l.length) : uId (adN h l (k + 1)) (nG l k) = adN h l k := by
  rw [adN_succ hk, uId_hId (adN_lt hh l k)]
theorem hOf_lt (l : List Nat) : hOf l < 18446744073709551616 := fold_lt _ _ (by decide)

set_option maxHeartbeats 2000000 in
set_option maxRecDepth 20000 in
theorem parts_walk (p q : Option Addr) (l r : List Nat) (c d : Nat) (w : World) (hl : InR w p l c) (hr : InR w q r d) :
    Calls Try.prog 6 #[.slice p l.length c, .slice q r.length d] w fun e w' => e = .returned (.bool true) ∧ Below w.heap.size w w' := by
  obtain ⟨n, hn⟩ : ∃ n, n = min l.length 20 := ⟨_, rfl⟩
  obtain ⟨m, hm⟩ : ∃ m, m = min r.length 20 := ⟨_, rfl⟩
  obtain ⟨f1, f2, f3⟩ := min_facts _ _ hn
  obtain ⟨g1, g2, g3⟩ := min_facts _ _ hm
  have lc := hl.r
  have rc := hr.r
  have k1 : (n : Int) ≤ (c : Int) := by omega
  have k2 : (m : Int) ≤ (d : Int) := by omega
  have l20 : n ≤ 20 := by omega
  have r20 : m ≤ 20 := by omega
  have ln : (l.take 20).length = n := by rw [List.length_take]; omega
  have rm : (r.take 20).length = m := by rw [List.length_take]; omega
  have HA : Hid (NRow w.heap.size w p (l.take 20)) := hl.i.take 20
  have HB : Hid (NRow w.heap.size w q (r.take 20)) := hr.i.take 20
  have UA : Hid (U64 (l.take 20)) := hl.u.take 20
  have UB : Hid (U64 (r.take 20)) := hr.u.take 20
  obtain ⟨a, ha⟩ : ∃ a, a = l.take 20 := ⟨_, rfl⟩
  obtain ⟨b, hb⟩ : ∃ b, b = r.take 20 := ⟨_, rfl⟩
  rw [← ha] at HA UA ln
  rw [← hb] at HB UB rm
  clear ha hb hl hr lc rc hn hm
  obtain ⟨L, hL⟩ : ∃ L, L = l.length := ⟨_, rfl⟩
  obtain ⟨R, hR⟩ : ∃ R, R = r.length := ⟨_, rfl⟩
  rw [← hL] at f1 f2 ⊢
  rw [← hR] at g1 g2 ⊢
  clear hL hR
  go_enter Try.func6, Try.ntmps6
  go_wp2_with (first | (go_at_call 8; refine Calls.mono (wakes8 _) ?_; rintro e w1 ⟨rfl, hb1⟩))
  go_region
  have HB1 : Hid (Below w.heap.size w w1.drew) := hb1.trans (below_drew _ _)
  obtain ⟨w2, hw2⟩ : ∃ w2, w2 = w1.drew := ⟨_, rfl⟩
  rw [← hw2] at HB1 ⊢
  clear hw2 hb1 f1 f2 g1 g2 f3 g3 k1 k2
  have OF := fun (W : World) (hb : Below w.heap.size w W) => of10 p a n W ((HA.out.below hb (Nat.le_refl _)).mono hb.size) UA.out (by omega)
  rw [ln] at OF
  have HO := hidOg (hOf_lt a)
  obtain ⟨o, ho⟩ : ∃ o, o = hOf a := ⟨_, rfl⟩
  rw [← ho] at OF HO
  have HOo := hidOg ho
  clear ho
  have O2 := OF w2 HB1.out
  clear OF
  go_wp2_with (first | (go_at_call 10; refine Calls.mono O2 ?_; rintro e w3 ⟨rfl, hb3⟩))
  have HB3 : Hid (Below w.heap.size w w3) := HB1.out.trans (hb3.mono HB1.out.size)
  clear hb3 O2 HB1
  go_loopw [7, 31] (fun v i wr => ∃ k : Nat, k ≤ m ∧ i = .int .i64 k ∧ v = .int .u64 (adN o b k : Nat) ∧ Below w.heap.size w wr) (fun _ i _ => m - (intOf i).toNat)
  case atStart => exact ⟨0, Nat.zero_le _, rfl, by rw [adN_zero], HB3.out⟩
  case round =>
    clear HB3
    obtain ⟨k, hk, rfl, rfl, hnx⟩ := hrel
    have HX := hidOg hnx
    clear hnx
    by_cases hlt : k < m
    · have hlt' : k < b.length := by omega
      obtain ⟨B, off, rfl, hbB, hcs⟩ := (HB.out.below HX.out (Nat.le_refl _)) (by omega)
      have c0 := hcs k hlt'
      have CA := fun (W : World) => hadd13 (adN o b k) (nG b k) W (adN_lt HO.out b k) (UB.out.at hlt')
      have HE := hidOg (adN_succ (h := o) hlt')
      obtain ⟨x, hx⟩ : ∃ x, x = nG b k := ⟨_, rfl⟩
      obtain ⟨y, hy⟩ : ∃ y, y = adN o b k := ⟨_, rfl⟩
      obtain ⟨z, hz⟩ : ∃ z, z = hId y x := ⟨_, rfl⟩
      rw [← hx, ← hy, ← hz] at HE CA
      rw [← hx] at c0
      rw [← hy]
      clear hx hy hz hcs
      go_wp2_with (first | (go_at_call 13; refine Calls.mono (CA _) ?_; rintro e w4 ⟨rfl, hb4⟩))
      go_roundw
      case rel => exact ⟨k + 1, by omega, by go_num, by rw [HE.out], HX.out.trans (hb4.mono HX.out.size)⟩
      case measure => simp [intOf]; omega
    · obtain rfl : k = m := by omega
      clear hlt hk
      obtain ⟨v5, w5, R5, P5, c5, rfl, N5, B5⟩ := append_cut wr p q a b d 23 ((HA.out.below HX.out (Nat.le_refl _)).mono HX.out.size) ((HB.out.below HX.out (Nat.le_refl _)).mono HX.out.size) (by omega) (by omega)
      have O5 := of10 P5 (a ++ b) c5 w5 N5 (fun x hx => by rcases List.mem_append.1 hx with h | h; exact UA.out x h; exact UB.out x h) (by rw [List.length_append]; omega)
      have e5 : hOf (a ++ b) = adN o b b.length := by rw [hOf_append, adN_all, HOo.out]
      have e6 : adN o b b.length = adN o b k := by rw [rm]
      rw [e5, e6] at O5
      have HB5 : Hid (Below w.heap.size w w5) := HX.out.trans (B5.mono HX.out.size)
      obtain ⟨N, hN⟩ : ∃ N, N = (a ++ b).length := ⟨_, rfl⟩
      rw [← hN] at O5 R5
      rw [ln, rm] at R5
      clear e5 e6 N5 B5 hN HX
      obtain ⟨y, hy⟩ : ∃ y, y = adN o b k := ⟨_, rfl⟩
      rw [← hy] at O5 ⊢
      have HY := hidOg hy
      clear hy
      go_wp2_with (first | (at_builtin; refine Lib.wpList_append_run _ rfl _ _ _ _ rfl _ _ rfl rfl _ _ R5 ?_) | (go_at_call 10; refine Calls.mono O5 ?_; rintro e w6 ⟨rfl, hb6⟩))
      have HB6 : Hid (Below w.heap.size w w6) := HB5.out.trans (hb6.mono HB5.out.size)
      clear hb6 R5 O5 HB5
      go_loopw [7, 10] (fun v i wr => ∃ j : Nat, j ≤ k ∧ i = .int .i64 ((j : Int) - 1) ∧ v = .int .u64 (adN o b j : Nat) ∧ Below w.heap.size w wr) (fun _ i _ => (intOf i + 1).toNat)
      case atStart => exact ⟨k, Nat.le_refl _, by go_num, by rw [HY.out], HB6.out⟩
      case round =>
        clear HB6
        obtain ⟨j, hj, rfl, rfl, hnx⟩ := hrel
        have HX := hidOg hnx
        clear hnx
        cases j with
        | succ j =>
          have hlt' : j < b.length := by omega
          obtain ⟨B, off, rfl, hbB, hcs⟩ := (HB.out.below HX.out (Nat.le_refl _)) (by omega)
          have c0 := hcs j hlt'
          have CB := fun (W : World) => back18 (adN o b (j + 1)) (nG b j) W (UB.out.at hlt')
          rw [adN_back HO.out hlt'] at CB
          have e7 : ((j + 1 : Nat) : Int) - 1 = (j : Int) := by omega
          rw [e7]
          obtain ⟨x, hx⟩ : ∃ x, x = nG b j := ⟨_, rfl⟩
          obtain ⟨y1, hy1⟩ : ∃ y1, y1 = adN o b (j + 1) := ⟨_, rfl⟩
          obtain ⟨z, hz⟩ : ∃ z, z = adN o b j := ⟨_, rfl⟩
          have HZ := hidOg hz
          rw [← hx, ← hy1, ← hz] at CB
          rw [← hx] at c0
          rw [← hy1]
          clear hx hy1 hz hcs e7
          go_wp2_with (first | (go_at_call 18; refine Calls.mono (CB _) ?_; rintro e w7 ⟨rfl, hb7⟩))
          go_roundw
          case rel => exact ⟨j, by omega, by go_num, by rw [HZ.out], HX.out.trans (hb7.mono HX.out.size)⟩
          case measure => simp [intOf]
        | zero =>
          have e8 : adN o b 0 = o := rfl
          have e9 : ((0 : Nat) : Int) - 1 = -1 := by omega
          rw [e8, e9]
          clear e8 e9 hj
          go_wp2
          have HX0 := HX
          clear HX HY HB UB
          go_loopw [7, 11] (fun v i wr => ∃ j : Nat, j ≤ n ∧ i = .int .i64 ((j : Int) - 1) ∧ v = .int .u64 (adN 14695981039346656037 a j : Nat) ∧ Below w.heap.size w wr) (fun _ i _ => (intOf i + 1).toNat)
          case atStart => exact ⟨n, Nat.le_refl _, by go_num, by rw [HOo.out, ← ln, adN_all]; rfl, HX0.out⟩
          case round =>
            clear HX0
            obtain ⟨j, hj, rfl, rfl, hnx⟩ := hrel
            have HX := hidOg hnx
            clear hnx
            cases j with
            | succ j =>
              have hlt' : j < a.length := by omega
              obtain ⟨B, off, rfl, hbB, hcs⟩ := (HA.out.below HX.out (Nat.le_refl _)) (by omega)
              have c0 := hcs j hlt'
              have CB := fun (W : World) => back18 (adN 14695981039346656037 a (j + 1)) (nG a j) W (UA.out.at hlt')
              rw [adN_back (by decide) hlt'] at CB
              have e7 : ((j + 1 : Nat) : Int) - 1 = (j : Int) := by omega
              rw [e7]
              obtain ⟨x, hx⟩ : ∃ x, x = nG a j := ⟨_, rfl⟩
              obtain ⟨y1, hy1⟩ : ∃ y1, y1 = adN 14695981039346656037 a (j + 1) := ⟨_, rfl⟩
              obtain ⟨z, hz⟩ : ∃ z, z = adN 14695981039346656037 a j := ⟨_, rfl⟩
              have HZ := hidOg hz
              rw [← hx, ← hy1, ← hz] at CB
              rw [← hx] at c0
              rw [← hy1]
              clear hx hy1 hz hcs e7
              go_wp2_with (first | (go_at_call 18; refine Calls.mono (CB _) ?_; rintro e w7 ⟨rfl, hb7⟩))
              go_roundw
              case rel => exact ⟨j, by omega, by go_num, by rw [HZ.out], HX.out.trans (hb7.mono HX.out.size)⟩
              case measure => simp [intOf]
            | zero =>
              have e8 : ((adN 14695981039346656037 a 0 : Nat) : Int) = 14695981039346656037 := by rw [adN_zero]; simp
              rw [e8]
              clear e8 hj
              go_wp2
              go_ret
              exact ⟨rfl, HX.out⟩
end Go.Proofs.Yteclcnfhbgcigaa
