/- joined. -/
import Derived.Test.YtkbikngkhaeakaaMem
namespace Go.Proofs.Ytkbikngkhaeakaa
open Go.RowKit

/-- A row, and k rows behind it. -/
def catF (l : List Int) (R : List RR) (k : Nat) : List Int := l ++ catN R k
theorem catF_le (l : List Int) (R : List RR) {k m : Nat} (h : k ≤ m) : (catF l R k).length ≤ (catF l R m).length := by
  unfold catF; simp only [List.length_append]; have := catN_le R h; omega
theorem catF_succ (l : List Int) (R : List RR) (k : Nat) : catF l R (k + 1) = catF l R k ++ rL R k := by simp [catF, catN]
/-- A call that hands back a row that it owns. -/
def GivesR (l : List Int) (w : World) (e : Ending) (w' : World) : Prop := ∃ q c, e = .returned (.slice q l.length c) ∧ OwnR w.heap.size w' q l c ∧ Below w.heap.size w w'

set_option maxRecDepth 20000 in
set_option maxHeartbeats 2000000 in
theorem joined38 (p : Option Addr) (l : List Int) (c : Nat) (q : Option Addr) (R : List RR) (d : Nat) (w : World) (hI : IRow .u64 w.heap.size w p l) (hR : VRow w.heap.size w q R) (hr : R.length ≤ 1000) (ht : (catF l R R.length).length ≤ 1099511627776) :
    Calls Try.prog 38 #[.slice p l.length c, .slice q R.length d] w fun e w' => GivesR (catF l R R.length) w e w' := by
  obtain ⟨i0, hi, hz0, hz1, hz2⟩ := info_parts Try.info40
  have HR := hidOg hR
  have HI := hidOg hI
  obtain ⟨N, hN⟩ : ∃ N, N = R.length := ⟨_, rfl⟩
  have HN := hidOg hN
  rw [← hN] at ht hr ⊢
  obtain ⟨tot, htot⟩ : ∃ tot, tot = (catF l R N).length := ⟨_, rfl⟩
  have HT := hidOg htot
  rw [← htot] at ht
  have hl0 : l.length ≤ tot := by rw [htot]; simp [catF]
  obtain ⟨n0, hn0⟩ : ∃ n0, n0 = l.length := ⟨_, rfl⟩
  have HN0 := hidOg hn0
  rw [← hn0] at hl0 ⊢
  have E0 : Hid ((catF l R 0).length = n0) := by unfold Hid; rw [hn0]; simp [catF, catN]
  have TB : Hid (∀ k, k ≤ N → (catF l R k).length ≤ tot) := fun k hk => by rw [htot]; exact catF_le l R hk
  clear hR hI hN htot hn0
  go_enter Try.func38, Try.ntmps38
  go_wp2
  go_loop [5, 16] (fun g i => ∃ k : Nat, k ≤ N ∧ i = .int .i64 k ∧ g = .int .i64 (catF l R k).length) (fun _ i => N - (intOf i).toNat)
  case atStart => exact ⟨0, Nat.zero_le _, rfl, by rw [E0.out]⟩
  case round =>
    obtain ⟨k, hk, rfl, rfl⟩ := hrel
    have l1 : (catF l R k).length ≤ tot := TB.out k hk
    by_cases hlt : k < N
    · obtain ⟨b, off, rfl, hbN, hcs⟩ := HR.out (by have := HN.out; omega)
      have c0 := (hcs k (by have := HN.out; omega)).1
      have l2 : (catF l R (k + 1)).length ≤ tot := TB.out _ (by omega)
      have e : (catF l R (k + 1)).length = (catF l R k).length + (rL R k).length := by rw [catF_succ]; simp
      have l3 : (rL R k).length ≤ 1099511627776 := by omega
      have l4 : (catF l R k).length ≤ 1099511627776 := by omega
      have HE := hidOg e
      clear e l2 hcs l1
      go_wp2
      go_round
      case rel => exact ⟨k + 1, by omega, by go_num, by rw [HE.out]; go_num⟩
      case measure => simp [intOf]; omega
    · obtain rfl : N = k := by omega
      have e : (catF l R N).length = tot := HT.out.symm
      rw [e]
      clear e l1
      go_wp2_with (first | (at_make; refine wpList_make_full _ rfl _ _ 38 rfl w.heap.size 40 i0 (.int .u64 0) 1 Try.underlying38 hi hz0 hz1 .i64 .i64 _ _ tot rfl rfl (by omega) (by omega) (by rw [hz2]; omega) (by unfold maxLen; omega) (by simp) ?_; intro w1 hown hgrow; clear hi hz0 hz1 hz2; obtain ⟨Z, HZ, HZl, hb1⟩ := made_row hown hgrow; clear hown hgrow; obtain ⟨w2, hr2, HZ2, hb2⟩ := copyK_ex (P := Try.prog) w1 38 38 3 40 1 Try.underlying38 Try.size40 (some ⟨w.heap.size, 0, none⟩) p tot tot n0 c w.heap.size 0 Z 40 HZ.out (cellsI .u64 l) n0 (Nat.min_eq_left (by omega)).symm (by rw [cellsI_len, HN0.out]) (fun h => ⟨rfl, srcI HI.out hb1 (Nat.le_refl _) (by rw [← HN0.out]; exact h)⟩) (by rw [cellsI_len, ← HN0.out, HZl.out]; omega) (cellsI_one .u64 _) w.heap.size w hb1 (Nat.le_refl _)))
      have HB2 := hidOg hb2
      clear hb2
      go_loopw [9, 32] (fun g i wr => ∃ k : Nat, k ≤ N ∧ i = .int .i64 k ∧ g = .int .i64 (catF l R k).length ∧ ∃ Y : List Value, wr.heap[w.heap.size]? = some (.cells Y.toArray 40 (0, 0)) ∧ Y.length = tot ∧ Y.take (catF l R k).length = cellsI .u64 (catF l R k) ∧ Below w.heap.size w wr) (fun _ i _ => N - (intOf i).toNat)
      case atStart =>
        refine ⟨0, Nat.zero_le _, rfl, by rw [E0.out], _, HZ2.out, by rw [length_splice _ _ _ (by rw [cellsI_len, ← HN0.out, HZl.out]; omega), HZl.out]; omega, ?_, HB2.out⟩
        have e : catF l R 0 = l := by simp [catF, catN]
        rw [e]
        have := splice_take Z [] (cellsI .u64 l) rfl
        simpa [cellsI_len] using this
      case round =>
        obtain ⟨k, hk, rfl, rfl, Y, hY, hYl, hYt, hB2⟩ := hrel
        have HY := hidOg hY
        have HYl := hidOg hYl
        have HYt := hidOg hYt
        clear HB2
        have HB2 := hidOg hB2
        clear hY hYl hYt hB2 HZ HZl hb1 hr2 HZ2
        have hle : (catF l R k).length ≤ tot := TB.out k hk
        by_cases hlt : k < N
        · obtain ⟨b, off, rfl, hbN, hcs⟩ := (HR.out.below HB2.out (Nat.le_refl _)) (by have := HN.out; omega)
          obtain ⟨c0, hI⟩ := hcs k (by have := HN.out; omega)
          have HI2 := hidOg hI
          clear hI hcs
          have e : (catF l R (k + 1)).length = (catF l R k).length + (rL R k).length := by rw [catF_succ]; simp
          have le2 : (catF l R (k + 1)).length ≤ tot := TB.out _ (by omega)
          have HE := hidOg e
          have HC : Hid (catF l R (k + 1) = catF l R k ++ rL R k) := catF_succ l R k
          have l3 : (catF l R k).length + (rL R k).length ≤ tot := by omega
          clear e le2
          obtain ⟨n, hn⟩ : ∃ n, n = (rL R k).length := ⟨_, rfl⟩
          have HNn := hidOg hn
          obtain ⟨s, hs⟩ : ∃ s, s = (catF l R k).length := ⟨_, rfl⟩
          have HSs := hidOg hs
          rw [← hn] at c0 l3
          rw [← hs] at l3 hle ⊢
          clear hn hs
          by_cases h0 : n = 0
          · have hr3 := fun (ao : Option Addr) (m m' : Nat) => run_copy_noneK (P := Try.prog) wr 38 38 3 40 1 ao (rP R k) m m' 0 (rC R k) Try.underlying38 Try.size40 (by simp)
            have hnil : Hid (rL R k = []) := List.eq_nil_of_length_eq_zero (by rw [← HNn.out]; exact h0)
            subst h0
            go_wp2
            all_goals
              go_roundw
              case rel => exact ⟨k + 1, by omega, by go_num, by rw [HE.out, hnil.out, ← HSs.out]; go_num, Y, HY.out, HYl.out, by rw [HC.out, hnil.out, List.append_nil]; exact HYt.out, HB2.out⟩
              case measure => simp [intOf]; omega
          · obtain ⟨w2, hr2, HZ2, hb2⟩ := copyK_ex (P := Try.prog) wr 38 38 3 40 1 Try.underlying38 Try.size40 (some ⟨w.heap.size, s, none⟩) (rP R k) (tot - s) (tot - s) n (rC R k) w.heap.size s Y 40 HY.out (cellsI .u64 (rL R k)) n (Nat.min_eq_left (by omega)).symm (by rw [cellsI_len, HNn.out]) (fun h => ⟨rfl, srcI HI2.out (Below.refl _ _) HB2.out.size (by rw [← HNn.out]; omega)⟩) (by rw [cellsI_len, ← HNn.out, HYl.out]; omega) (cellsI_one .u64 _) w.heap.size w HB2.out (Nat.le_refl _)
            have hst : ¬ (tot = s) := by omega
            have hst' : ¬ (s = tot) := by omega
            go_wp2
            go_roundw
            case rel => exact ⟨k + 1, by omega, by go_num, by rw [HE.out, ← HSs.out, ← HNn.out]; go_num, _, HZ2.out, by rw [length_splice _ _ _ (by rw [cellsI_len, ← HNn.out, HYl.out]; omega), HYl.out], by rw [HC.out, cellsI_append, List.length_append, HSs.out]; have := splice_take Y (cellsI .u64 (catF l R k)) (cellsI .u64 (rL R k)) (by rw [cellsI_len, Nat.mul_one]; exact HYt.out); simpa [cellsI_len] using this, hb2⟩
            case measure => simp [intOf]; omega
        · obtain rfl : N = k := by omega
          go_wp2
          go_ret
          have hy : wr.heap[w.heap.size]? = some (.cells (cellsI .u64 (catF l R N)).toArray 40 (0, 0)) := by
            rw [HY.out, ← HYt.out, List.take_of_length_le (by have := HYl.out; have := HT.out; omega)]
          have ho := ownR_heap hy (Nat.le_refl _) (by rw [← HT.out]; exact ht)
          exact ⟨_, _, by rw [HT.out]; rfl, ho, HB2.out⟩
end Go.Proofs.Ytkbikngkhaeakaa
