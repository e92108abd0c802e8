/- The document's answer: Spot, Right, Same, At, Who. -/
import Derived.Test.YtijlkdppjmfbhaaRmA
namespace Go.Proofs.Ytijlkdppjmfbhaa
open Go.RowKit

def spB (s : Sp) : Bool := decide (0 ≤ s.1) && (decide (s.1 ≤ 1048576) && (decide (0 ≤ s.2) && (decide (s.2 ≤ 1048578) && (decide (0 < s.1) || decide (s.2 = 0)))))
set_option maxHeartbeats 1000000 in
theorem spot32 (t r : Int) (w : World) : Calls Try.prog 32 #[.agg #[.int .i64 t, .int .i64 r]] w fun e w' => e = .returned (.bool (spB (t, r))) ∧ Below w.heap.size w w' := by
  have HB : Hid (Below w.heap.size w (w.alloc (.cells #[.int .i64 t, .int .i64 r] 34))) := bal _ _
  by_cases h1 : 0 ≤ t
  · skip
    by_cases h2 : t ≤ 1048576
    · skip
      by_cases h3 : 0 ≤ r
      · skip
        by_cases h4 : r ≤ 1048578
        · skip
          by_cases h5 : 0 < t
          · have E : Hid (spB (t, r) = true) := by unfold Hid spB; simp; omega
            go_enter Try.func32, Try.ntmps32
            go_wp2
            go_ret
            exact ⟨ret_bool E.out.symm, HB.out⟩
          · have d5 : decide (0 < t) = false := by simpa using h5
            by_cases h6 : r = 0
            · have E : Hid (spB (t, r) = true) := by unfold Hid spB; simp; omega
              have d6 : (r == 0) = true := by simpa using h6
              clear h6
              go_enter Try.func32, Try.ntmps32
              go_wp2
              go_ret
              exact ⟨ret_bool E.out.symm, HB.out⟩
            · have E : Hid (spB (t, r) = false) := by unfold Hid spB; simp; omega
              have d6 : (r == 0) = false := by simpa using h6
              clear h6
              go_enter Try.func32, Try.ntmps32
              go_wp2
              go_ret
              exact ⟨ret_bool E.out.symm, HB.out⟩
        · have E : Hid (spB (t, r) = false) := by unfold Hid spB; simp; omega
          have dx : decide (r ≤ 1048578) = false := by simpa using h4
          go_enter Try.func32, Try.ntmps32
          go_wp2
          go_ret
          exact ⟨ret_bool E.out.symm, HB.out⟩
      · have E : Hid (spB (t, r) = false) := by unfold Hid spB; simp; omega
        have dx : decide (0 ≤ r) = false := by simpa using h3
        go_enter Try.func32, Try.ntmps32
        go_wp2
        go_ret
        exact ⟨ret_bool E.out.symm, HB.out⟩
    · have E : Hid (spB (t, r) = false) := by unfold Hid spB; simp; omega
      have dx : decide (t ≤ 1048576) = false := by simpa using h2
      go_enter Try.func32, Try.ntmps32
      go_wp2
      go_ret
      exact ⟨ret_bool E.out.symm, HB.out⟩
  · have E : Hid (spB (t, r) = false) := by unfold Hid spB; simp; omega
    have dx : decide (0 ≤ t) = false := by simpa using h1
    go_enter Try.func32, Try.ntmps32
    go_wp2
    go_ret
    exact ⟨ret_bool E.out.symm, HB.out⟩

theorem spB_iff {s : Sp} : spB s = true ↔ s = (0, 0) ∨ plB s = true := by
  obtain ⟨t, r⟩ := s
  unfold spB plB
  simp
  omega
/-- What Right has seen of the first k. -/
def rightP (l : List Sp) (k : Nat) : Prop := ∀ j, j < k → spB (sG l j) = true ∧ ∀ i, i < j → ¬ (0 < (sG l j).1 ∧ sG l i = sG l j)
theorem may_right {l : List Sp} : mayS l = true ↔ l.length ≤ 1048578 ∧ (l.length = 0 ∨ (sG l (l.length - 1)).1 ≠ 0) ∧ rightP l l.length := by
  rw [may_iff]
  constructor
  · rintro ⟨h1, h2, h3⟩
    refine ⟨h1, ?_, fun j hj => ⟨?_, fun i hi => ?_⟩⟩
    · rcases h2 with h2 | h2
      · exact .inl h2
      · have := h3.1 _ h2
        unfold plB at this; simp at this
        exact .inr (by omega)
    · by_cases e : sG l j = (0, 0)
      · exact spB_iff.2 (.inl e)
      · exact spB_iff.2 (.inr (h3.1 j e))
    · rintro ⟨a, b⟩
      have hne : sG l i ≠ (0, 0) := by rw [b]; intro h; rw [h] at a; simp at a
      have := h3.2 i j hne b
      omega
  · rintro ⟨h1, h2, h3⟩
    refine ⟨h1, ?_, fun j hj => ?_, fun i j hi e => ?_⟩
    · rcases h2 with h2 | h2
      · exact .inl h2
      · exact .inr fun e => h2 (by rw [e])
    · rcases spB_iff.1 (h3 j (sG_lt hj)).1 with h | h
      · exact absurd h hj
      · exact h
    · have hj : sG l j ≠ (0, 0) := by rw [← e]; exact hi
      have pos : ∀ k, sG l k ≠ (0, 0) → 0 < (sG l k).1 := fun k hk => by
        rcases spB_iff.1 (h3 k (sG_lt hk)).1 with h | h
        · exact absurd h hk
        · unfold plB at h; simp at h; omega
      rcases Nat.lt_trichotomy i j with h | h | h
      · exact absurd ⟨pos j hj, e⟩ ((h3 j (sG_lt hj)).2 i h)
      · exact h
      · exact absurd ⟨pos i hi, e.symm⟩ ((h3 i (sG_lt hi)).2 j h)
set_option maxHeartbeats 1000000 in
theorem refSame13 (p : Option Addr) (l : List Sp) (c : Nat) (q : Option Addr) (r : List Sp) (d : Nat) (w : World) (hS : SRow w.heap.size w p l) (hR : SRow w.heap.size w q r) (l1 : l.length ≤ 1099511627776) :
    Calls Try.prog 13 #[.agg #[.slice p l.length c], .agg #[.slice q r.length d]] w fun e w' => e = .returned (.bool (samS l r)) ∧ Below w.heap.size w w' := by
  obtain ⟨q0, q1⟩ := al2 w (.cells #[.slice p l.length c] 24) (.cells #[.slice q r.length d] 24)
  have hb := al2b w (.cells #[.slice p l.length c] 24) (.cells #[.slice q r.length d] 24)
  have HB := hidOg hb
  have c0 := cell1_heap q0
  have c1 := cell1_heap q1
  by_cases hl : l.length = r.length
  · obtain ⟨v, hv⟩ : ∃ v, v = samS l r := ⟨_, rfl⟩
    rw [← hv]
    have HV := hidOg hv
    have HL := hidOg hl
    obtain ⟨n, hn⟩ : ∃ n, n = r.length := ⟨_, rfl⟩
    have HN : Hid (n = l.length) := by unfold Hid; omega
    have HS := hidOg (hS.to hb)
    have HR := hidOg (hR.to hb)
    have HNr := hidOg hn
    rw [show l.length = n by omega] at q0 q1 c0 c1 HB HS HR ⊢
    rw [show r.length = n by omega] at q0 q1 c0 c1 HB HS HR ⊢
    have hn1 : n ≤ 1099511627776 := by omega
    obtain ⟨w2, hw2⟩ : ∃ w2, w2 = (w.alloc (.cells #[.slice p n c] 24)).alloc (.cells #[.slice q n d] 24) := ⟨_, rfl⟩
    have HW2 := hidOg hw2
    have Q1 := hidOg q1
    rw [← hw2] at HS HR Q1 HB
    clear hl hn hS hR l1 hv hb q0 q1 hw2
    go_enter Try.func13, Try.ntmps13
    go_wp2
    rw [← HW2.out]
    go_loopw [17] (fun i wr => ∃ k : Nat, k ≤ n ∧ i = .int .i64 k ∧ (∀ j, j < k → sG l j = sG r j) ∧ Below w2.heap.size w2 wr) (fun i _ => n - (intOf i).toNat)
    case atStart => exact ⟨0, Nat.zero_le _, rfl, fun j h => by omega, Below.refl _ _⟩
    case round =>
      obtain ⟨k, hk, rfl, hall, hbr⟩ := hrel
      have HA := hidOg hall
      have HBr := hidOg hbr
      have cq := cell1_heap (atW hbr Q1.out)
      clear hall c0 c1
      by_cases hk' : k < n
      · obtain ⟨b, off, rfl, hbB, hcs⟩ := (HS.out.to hbr) (by have := HN.out; omega)
        obtain ⟨a0, a1⟩ := hcs k (by have := HN.out; omega)
        obtain ⟨b', off', rfl, hbB', hcs'⟩ := (HR.out.to hbr) (by have := HNr.out; omega)
        obtain ⟨g0, g1⟩ := hcs' k (by have := HNr.out; omega)
        clear hcs hcs' hbr
        obtain ⟨⟨x, x2⟩, hx⟩ : ∃ x, x = sG l k := ⟨_, rfl⟩
        obtain ⟨⟨y, y2⟩, hy⟩ : ∃ y, y = sG r k := ⟨_, rfl⟩
        rw [← hx] at a0 a1
        rw [← hy] at g0 g1
        have HX := hidOg hx
        have HY := hidOg hy
        have HZ := hidOg (bal wr (.cells #[.int .i64 x, .int .i64 x2] 34))
        obtain ⟨e0, e1, _⟩ := cell2_heap (blk1 (W := wr) (o := .cells #[.int .i64 x, .int .i64 x2] 34))
        have cq2 := (cell_heap (HZ.out.block (w.heap.size + 1) (World.block_lt_of_cell? _ _ cq)) 0).trans cq
        have g0' := (HZ.out.cell (p := ⟨b', off' + k * 2, none⟩) hbB').trans g0
        have g1' := (HZ.out.cell (p := ⟨b', off' + k * 2 + 1, none⟩) hbB').trans g1
        clear hx hy
        by_cases hxy : x = y ∧ x2 = y2
        · obtain ⟨rfl, rfl⟩ := hxy
          go_wp2
          go_region
          all_goals
            go_wp2
            go_roundw
            case rel => exact ⟨k + 1, by omega, by go_num, fun j hj => (by by_cases e : j = k; { subst e; rw [← HX.out, ← HY.out] }; { exact HA.out j (by omega) }), (HBr.out.trans (HZ.out.mono HBr.out.size)).drew⟩
            case measure => simp [intOf]; omega
        · have HXY : Hid (¬ ((x, x2) = (y, y2))) := fun e => hxy (by injection e with e1 e2; exact ⟨e1, e2⟩)
          by_cases hx1 : x = y
          · have hd2 : (x2 == y2) = false := by simpa using fun e => hxy ⟨hx1, e⟩
            subst hx1
            clear hxy
            go_wp2
            go_region
            all_goals
              go_wp2
              go_ret
              exact ⟨ret_bool (by rw [HV.out, samS_at k (by rw [← HX.out, ← HY.out]; exact HXY.out)]), (HB.out.trans ((HBr.out.trans (HZ.out.mono HBr.out.size)).mono HB.out.size)).drew⟩
          · have hd1 : (x == y) = false := by simpa using hx1
            clear hxy
            go_wp2
            go_region
            all_goals
              go_wp2
              go_ret
              exact ⟨ret_bool (by rw [HV.out, samS_at k (by rw [← HX.out, ← HY.out]; exact HXY.out)]), (HB.out.trans ((HBr.out.trans (HZ.out.mono HBr.out.size)).mono HB.out.size)).drew⟩
      · obtain rfl : k = n := by omega
        go_wp2
        go_ret
        exact ⟨ret_bool (by rw [HV.out, samS_all HL.out (by rw [← HN.out]; exact HA.out)]), HB.out.trans (HBr.out.mono HB.out.size)⟩
  · have hl' : ((l.length : Int) == (r.length : Int)) = false := by simp; omega
    rw [samS_len hl]
    clear hS hR l1 hl hb q0 q1
    go_enter Try.func13, Try.ntmps13
    go_wp2
    go_ret
    exact ⟨rfl, HB.out⟩
end Go.Proofs.Ytijlkdppjmfbhaa
