/- The document's answer: At, Who, Right. -/
import Derived.Test.YtijlkdppjmfbhaaRfA
namespace Go.Proofs.Ytijlkdppjmfbhaa
open Go.RowKit

/-- The spot of an index; nowhere, if it has none. -/
def atV (l : List Sp) (i : Int) : Sp := if 1 ≤ i then sG l (i.toNat - 1) else (0, 0)
set_option maxHeartbeats 1000000 in
theorem refAt16 (p : Option Addr) (l : List Sp) (c : Nat) (i : Int) (w : World) (h : SRow w.heap.size w p l) (hl : l.length ≤ 1099511627776) :
    Calls Try.prog 16 #[.agg #[.slice p l.length c], .int .i64 i] w fun e w' => e = .returned (vS (atV l i)) ∧ Below w.heap.size w w' := by
  have HB : ∀ a b, Below w.heap.size w ((w.alloc (.cells #[.slice p l.length c] 24)).alloc (.cells #[.int .i64 a, .int .i64 b] 34)) := fun a b => ((bal w _).trans ((bal _ _).mono (bal _ _).size))
  by_cases h1 : 1 ≤ i
  · by_cases h2 : i ≤ l.length
    · obtain ⟨k, rfl⟩ : ∃ k : Nat, i = (k : Int) + 1 := ⟨(i - 1).toNat, by omega⟩
      have hkl : k < l.length := by omega
      obtain ⟨b, off, rfl, hbN, hcs⟩ := h (by omega)
      obtain ⟨c0, c1⟩ := hcs k hkl
      have hk1 : (((k : Int) + 1).toNat - 1) = k := by omega
      have HF : Hid (atV l ((k : Int) + 1) = sG l k) := by unfold Hid atV; rw [if_pos h1, hk1]
      rw [HF.out]
      obtain ⟨⟨a, d⟩, hs⟩ : ∃ s, s = sG l k := ⟨_, rfl⟩
      rw [← hs] at c0 c1 ⊢
      have d1 : decide ((k : Int) + 1 < 1) = false := by simp; omega
      have d2 : decide ((l.length : Int) < (k : Int) + 1) = false := by simp; omega
      clear HF hs hcs h hk1
      go_enter Try.func16, Try.ntmps16
      go_wp2
      exact bodyPost_ret (v := vS (a, d)) (by simp [results, Try.results16, go_sem]) rfl ⟨rfl, HB _ _⟩
    · have E : Hid (atV l i = (0, 0)) := by unfold Hid atV; rw [if_pos h1, sG_out (by omega)]
      have d1 : decide (i < 1) = false := by simp; omega
      have d2 : decide ((l.length : Int) < i) = true := by simp; omega
      rw [E.out]
      go_enter Try.func16, Try.ntmps16
      go_wp2
      exact bodyPost_ret (v := vS (0, 0)) (by simp [results, Try.results16, go_sem]) rfl ⟨rfl, HB _ _⟩
  · have E : Hid (atV l i = (0, 0)) := by unfold Hid atV; rw [if_neg h1]
    have d1 : decide (i < 1) = true := by simp; omega
    rw [E.out]
    go_enter Try.func16, Try.ntmps16
    go_wp2
    exact bodyPost_ret (v := vS (0, 0)) (by simp [results, Try.results16, go_sem]) rfl ⟨rfl, HB _ _⟩
/-- Who stands at a spot, by what is seen of the first k. -/
def WhA (l : List Sp) (s : Sp) (v : Int) : Prop := (v = 0 ∧ (0 < s.1 → ∀ k, k < l.length → sG l k ≠ s)) ∨ ∃ k : Nat, k < l.length ∧ v = (k : Int) + 1 ∧ sG l k = s ∧ 0 < s.1
theorem whA_eq {l : List Sp} (hm : mayS l = true) {s : Sp} {v : Int} (h : WhA l s v) : v = whoV l s := by
  have hf := (may_iff.1 hm).2.2
  unfold whoV
  rw [hm, if_pos rfl]
  rcases h with ⟨rfl, h⟩ | ⟨k, hk, rfl, rfl, hp⟩
  · by_cases hp : 0 < s.1
    · symm; refine whF_0.2 fun y hy => h hp y (plN_mem.1 hy).1
    · symm; refine whF_0.2 fun y hy e => ?_
      have := hf.1 y (plN_mem.1 hy).2
      rw [e] at this
      unfold plB at this; simp at this; omega
  · have hne : sG l k ≠ (0, 0) := fun e => by rw [e] at hp; simp at hp
    exact (whF_at hf hne).symm
set_option maxHeartbeats 2000000 in
theorem refWho20 (p : Option Addr) (l : List Sp) (c : Nat) (s : Sp) (w : World) (hS : SRow w.heap.size w p l) (hl : l.length ≤ 1099511627776) :
    Calls Try.prog 20 #[.agg #[.slice p l.length c], .agg #[.int .i64 s.1, .int .i64 s.2]] w fun e w' => ∃ v, e = .returned (.int .i64 v) ∧ WhA l s v ∧ Below w.heap.size w w' := by
  obtain ⟨q0, q1⟩ := al2 w (.cells #[.slice p l.length c] 24) (.cells #[.int .i64 s.1, .int .i64 s.2] 34)
  have hb := al2b w (.cells #[.slice p l.length c] 24) (.cells #[.int .i64 s.1, .int .i64 s.2] 34)
  have HB := hidOg hb
  have c0 := cell1_heap q0
  have HS := hidOg (hS.to hb)
  obtain ⟨n, hn⟩ : ∃ n, n = l.length := ⟨_, rfl⟩
  have HN := hidOg hn
  rw [← hn] at hl q0 q1 c0 HB HS
  rw [← hn]
  obtain ⟨w2, hw2⟩ : ∃ w2, w2 = (w.alloc (.cells #[.slice p n c] 24)).alloc (.cells #[.int .i64 s.1, .int .i64 s.2] 34) := ⟨_, rfl⟩
  have HW2 := hidOg hw2
  have Q1 := hidOg q1
  rw [← hw2] at HS Q1 HB
  have HAN := hidOg (fun v (h : WhA l s v) => h)
  obtain ⟨x, hx⟩ : ∃ x, x = s.1 := ⟨_, rfl⟩
  obtain ⟨x2, hx2⟩ : ∃ x, x = s.2 := ⟨_, rfl⟩
  have HSx : Hid (s = (x, x2)) := by unfold Hid; rw [hx, hx2]
  rw [← hx, ← hx2] at Q1 HW2
  rw [← hx, ← hx2]
  clear hS hn hb q0 q1 hw2 hx hx2
  go_enter Try.func20, Try.ntmps20
  go_wp2
  rw [← HW2.out]
  go_loopw [10] (fun i wr => ∃ k : Nat, k ≤ n ∧ i = .int .i64 k ∧ (∀ j, j < k → 0 < x → sG l j ≠ s) ∧ Below w2.heap.size w2 wr) (fun i _ => n - (intOf i).toNat)
  case atStart => exact ⟨0, Nat.zero_le _, rfl, fun j h => by omega, Below.refl _ _⟩
  case round =>
    obtain ⟨k, hk, rfl, hall, hbr⟩ := hrel
    have HA := hidOg hall
    have HBr := hidOg hbr
    obtain ⟨t0, t1, _⟩ := cell2_heap (atW hbr Q1.out)
    clear hall c0
    by_cases hk' : k < n
    · obtain ⟨b, off, rfl, hbB, hcs⟩ := (HS.out.to hbr) (by have := HN.out; omega)
      obtain ⟨a0, a1⟩ := hcs k (by have := HN.out; omega)
      clear hcs hbr
      obtain ⟨⟨y, y2⟩, hy⟩ : ∃ y, y = sG l k := ⟨_, rfl⟩
      rw [← hy] at a0 a1
      have HY := hidOg hy
      have hz := bal wr (.cells #[.int .i64 y, .int .i64 y2] 34)
      have HZ := hidOg hz
      obtain ⟨e0, e1, _⟩ := cell2_heap (blk1 (W := wr) (o := .cells #[.int .i64 y, .int .i64 y2] 34))
      have t0' := (hz.cell (p := ⟨w.heap.size + 1, 0, none⟩) (World.block_lt_of_cell? _ _ t0)).trans t0
      have t1' := (hz.cell (p := ⟨w.heap.size + 1, 1, none⟩) (World.block_lt_of_cell? _ _ t1)).trans t1
      clear hy hz
      by_cases hxy : y = x ∧ y2 = x2
      · obtain ⟨rfl, rfl⟩ := hxy
        by_cases hp : 0 < y
        · have hpd : decide (0 < y) = true := decide_eq_true hp
          have HP := hidOg hp
          clear hp
          go_wp2
          go_ret
          refine ⟨_, rfl, ?_, HB.out.trans ((HBr.out.trans (HZ.out.mono HBr.out.size)).mono HB.out.size)⟩
          exact .inr ⟨k, by rw [← HN.out]; exact hk', rfl, by rw [HSx.out, HY.out], by rw [HSx.out]; exact HP.out⟩
        · have hpd : decide (0 < y) = false := decide_eq_false hp
          have HP := hidOg hp
          clear hp
          go_wp2
          go_roundw
          case rel => exact ⟨k + 1, by omega, by go_num, fun j hj h0 => absurd h0 HP.out, HBr.out.trans (HZ.out.mono HBr.out.size)⟩
          case measure => simp [intOf]; omega
      · have HXY : Hid (sG l k ≠ s) := by rw [← HY.out, HSx.out]; exact fun e => hxy (by injection e with e1 e2; exact ⟨e1, e2⟩)
        by_cases hx1 : y = x
        · subst hx1
          have hd2 : (y2 == x2) = false := by simpa using fun e => hxy ⟨rfl, e⟩
          clear hxy
          go_wp2
          go_roundw
          case rel => exact ⟨k + 1, by omega, by go_num, fun j hj h0 => (by by_cases e : j = k; { rw [e]; exact HXY.out }; { exact HA.out j (by omega) h0 }), HBr.out.trans (HZ.out.mono HBr.out.size)⟩
          case measure => simp [intOf]; omega
        · have hd1 : (y == x) = false := by simpa using hx1
          clear hxy hx1
          go_wp2
          go_roundw
          case rel => exact ⟨k + 1, by omega, by go_num, fun j hj h0 => (by by_cases e : j = k; { rw [e]; exact HXY.out }; { exact HA.out j (by omega) h0 }), HBr.out.trans (HZ.out.mono HBr.out.size)⟩
          case measure => simp [intOf]; omega
    · obtain rfl : k = n := by omega
      go_wp2
      go_ret
      exact ⟨_, rfl, .inl ⟨rfl, fun h0 j hj => HA.out j (by rw [HN.out]; exact hj) (by rw [HSx.out] at h0; exact h0)⟩, HB.out.trans (HBr.out.mono HB.out.size)⟩
end Go.Proofs.Ytijlkdppjmfbhaa
