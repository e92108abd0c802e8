/- RealOne: its walk. -/
import Derived.Test.YtglfhgedaknljaaNx
namespace Go.Proofs.Ytglfhgedaknljaa
open Go.RowKit

def cntT (a b : Int) : Nat → Int
  | 0 => 0
  | k + 1 => cntT a b k + (if tsW ((k : Int) + 1) a b then 1 else 0)
theorem cnt_t {a b : Int} {k : Nat} (h : tsW ((k : Int) + 1) a b = true) : cntT a b (k + 1) = cntT a b k + 1 := by simp [cntT, h]
theorem cnt_f {a b : Int} {k : Nat} (h : tsW ((k : Int) + 1) a b = false) : cntT a b (k + 1) = cntT a b k := by simp [cntT, h]
theorem cnt_bd (a b : Int) : ∀ k, 0 ≤ cntT a b k ∧ cntT a b k ≤ k
  | 0 => by simp [cntT]
  | k + 1 => by
    have := cnt_bd a b k
    simp only [cntT]; split <;> omega
theorem cnt3 (a b : Int) : cntT a b 3 = (if tsW 1 a b then 1 else 0) + (if tsW 2 a b then 1 else 0) + (if tsW 3 a b then 1 else 0) := by
  simp [cntT]
theorem un_lt {a b : Int} (ha : W64 a) (hb : W64 b) (h : plW (unW a) < plW (unW b)) : plW a < plW b := by
  unfold W64 plW unW at *; revert h; (repeat' split) <;> omega
/-- How two words may stand, and what the tests say of it. -/
theorem one_t {a b : Int} (ha : W64 a) (hb : W64 b) :
    (clW a = 4 ∧ cntT a b 3 = 0 ∧ tsW 1 a b = false ∧ tsW 2 b a = false ∧ tsW 2 a b = false)
    ∨ ((clW a != 4) = true ∧ clW b = 4 ∧ cntT a b 3 = 0 ∧ tsW 1 a b = false ∧ tsW 2 b a = false ∧ tsW 2 a b = false)
    ∨ ((clW a != 4) = true ∧ (clW b != 4) = true ∧ cntT a b 3 = 1 ∧ tsW 1 a b = true ∧ tsW 2 b a = true ∧ tsW 2 a b = false ∧ plW a < plW b)
    ∨ ((clW a != 4) = true ∧ (clW b != 4) = true ∧ cntT a b 3 = 1 ∧ tsW 1 a b = false ∧ tsW 2 b a = false ∧ tsW 2 a b = true ∧ plW b < plW a)
    ∨ ((clW a != 4) = true ∧ (clW b != 4) = true ∧ cntT a b 3 = 1 ∧ tsW 1 a b = false ∧ tsW 2 b a = false ∧ tsW 2 a b = false) := by
  rw [cnt3, ts1, ts2, ts2, ts3]
  have eA : nuW a = decide (clW a ≠ 4) := rfl
  have eB : nuW b = decide (clW b ≠ 4) := rfl
  by_cases h1 : clW a = 4
  · left; simp [eA, h1]
  · right
    by_cases h2 : clW b = 4
    · left; simp [eA, eB, h1, h2]
    · right
      have eA' : nuW a = true := by simp [eA, h1]
      have eB' : nuW b = true := by simp [eB, h2]
      by_cases q1 : plW (unW a) < plW (unW b)
      · left
        have q2 : ¬ plW (unW b) < plW (unW a) := by omega
        have q3 : ¬ plW (unW a) = plW (unW b) := by omega
        simp [eA', eB', h1, h2, q1, q2, q3, un_lt ha hb q1]
      · right
        by_cases q2 : plW (unW b) < plW (unW a)
        · left
          have q3 : ¬ plW (unW a) = plW (unW b) := by omega
          simp [eA', eB', h1, h2, q1, q2, q3, un_lt hb ha q2]
        · right
          have q3 : plW (unW a) = plW (unW b) := by omega
          simp [eA', eB', h1, h2, q3]
theorem one_x {a b : Int} (c : Int) (ha : W64 a) (hb : W64 b) :
    (cmW a b = 1 ∧ cmW b a = -1 ∧ (a == b) = false ∧ plW b < plW a)
    ∨ (cmW a b = -1 ∧ cmW b a = 1 ∧ (a == b) = false ∧ plW a < plW b ∧ (0 < cmW b c ∨ (cmW b c ≤ 0 ∧ cmW a c ≤ 0)))
    ∨ (cmW a b = 0 ∧ cmW b a = 0 ∧ (a == b) = true ∧ plW a = plW b ∧ (0 < cmW b c ∨ (cmW b c ≤ 0 ∧ cmW a c ≤ 0))) := by
  have hy : 0 < cmW b c ∨ cmW b c ≤ 0 := by omega
  have hg : 0 < cmW b c ↔ plW c < plW b := cmI_gt
  have hz : 0 < cmW a c ↔ plW c < plW a := cmI_gt
  rcases Int.lt_trichotomy (plW a) (plW b) with h | h | h
  · right; left
    have ne : a ≠ b := by rintro rfl; omega
    have e1 : cmW a b = -1 := by unfold cmW cmI; rw [if_pos h]
    have e2 : cmW b a = 1 := by unfold cmW cmI; rw [if_neg (by omega), if_pos h]
    exact ⟨e1, e2, by simp [ne], h, by omega⟩
  · right; right
    obtain rfl := plW_inj ha hb h
    have e1 : cmW a a = 0 := by unfold cmW cmI; rw [if_neg (by omega), if_neg (by omega)]
    exact ⟨e1, e1, by simp, rfl, by omega⟩
  · left
    have ne : a ≠ b := by rintro rfl; omega
    have e1 : cmW a b = 1 := by unfold cmW cmI; rw [if_neg (by omega), if_pos h]
    have e2 : cmW b a = -1 := by unfold cmW cmI; rw [if_pos h]
    exact ⟨e1, e2, by simp [ne], h⟩

set_option maxHeartbeats 4000000 in
set_option maxRecDepth 20000 in
theorem one_walk (a b c : Int) (w : World) (ha : W64 a) (hb : W64 b) (hc : W64 c) : Calls Try.prog 5 #[.int .u64 a, .int .u64 b, .int .u64 c] w fun e w' => e = .returned (.bool true) ∧ Below w.heap.size w w' := by
  have OT := hidOg (one_t ha hb)
  have OX := hidOg (one_x c ha hb)
  obtain ⟨f, hf⟩ : ∃ f, f = tsW := ⟨_, rfl⟩
  obtain ⟨g, hg⟩ : ∃ g, g = cmW := ⟨_, rfl⟩
  obtain ⟨q, hq⟩ : ∃ q, q = clW := ⟨_, rfl⟩
  obtain ⟨m, hm⟩ : ∃ m, m = cntT a b := ⟨_, rfl⟩
  have TT : ∀ (k x y : Int) (W : World), W64 x → W64 y → Calls Try.prog 19 #[.int .i64 k, .int .u64 x, .int .u64 y] W fun e w' => e = .returned (.bool (f k x y)) ∧ Below W.heap.size W w' := by rw [hf]; exact test19
  have CC : ∀ (x y : Int) (W : World), W64 x → W64 y → Calls Try.prog 17 #[.int .u64 x, .int .u64 y] W fun e w' => e = .returned (.int .i64 (g x y)) ∧ w' = W := by rw [hg]; exact compare17
  have QQ : ∀ (x : Int) (W : World), W64 x → Calls Try.prog 16 #[.int .u64 x] W fun e w' => e = .returned (.int .i64 (q x)) ∧ w' = W := by rw [hq]; exact class16
  have MT : Hid (∀ k : Nat, f ((k : Int) + 1) a b = true → m (k + 1) = m k + 1) := by rw [hf, hm]; exact fun k h => cnt_t h
  have MF : Hid (∀ k : Nat, f ((k : Int) + 1) a b = false → m (k + 1) = m k) := by rw [hf, hm]; exact fun k h => cnt_f h
  have MB : Hid (∀ k, 0 ≤ m k ∧ m k ≤ k) := by rw [hm]; exact cnt_bd a b
  have M0 : Hid (m 0 = 0) := by rw [hm]; rfl
  rw [← hf, ← hq, ← hm] at OT
  rw [← hg] at OX
  clear hf hg hq hm
  go_enter Try.func5, Try.ntmps5
  go_wp2_with (first | (go_at_call 8; refine Calls.mono (wakes8 _) ?_; rintro e w1 ⟨rfl, hb1⟩))
  have c0 : (w1.alloc (.cells #[.int .i64 1, .int .i64 2, .int .i64 3] 3)).cell? ⟨w1.heap.size, 0, none⟩ = some (.int .i64 1) := by rw [World.cell?_alloc_at _ _ _ _ rfl]; rfl
  have c1 : (w1.alloc (.cells #[.int .i64 1, .int .i64 2, .int .i64 3] 3)).cell? ⟨w1.heap.size, 1, none⟩ = some (.int .i64 2) := by rw [World.cell?_alloc_at _ _ _ _ rfl]; rfl
  have c2 : (w1.alloc (.cells #[.int .i64 1, .int .i64 2, .int .i64 3] 3)).cell? ⟨w1.heap.size, 2, none⟩ = some (.int .i64 3) := by rw [World.cell?_alloc_at _ _ _ _ rfl]; rfl
  have hz : w1.heap.size < (w1.alloc (.cells #[.int .i64 1, .int .i64 2, .int .i64 3] 3)).heap.size := by simp
  have hB : Below w.heap.size w (w1.alloc (.cells #[.int .i64 1, .int .i64 2, .int .i64 3] 3)) := hb1.alloc hb1.size _
  obtain ⟨B, hBd⟩ : ∃ B, B = w1.heap.size := ⟨_, rfl⟩
  rw [← hBd] at c0 c1 c2 hz ⊢
  generalize hw2 : (w1.alloc (.cells #[.int .i64 1, .int .i64 2, .int .i64 3] 3)) = w2 at *
  clear hw2 hb1 hBd
  go_loopw [7, 18] (fun u i wr => ∃ k : Nat, k ≤ 3 ∧ i = .int .i64 k ∧ u = .int .i64 (m k) ∧ Below w2.heap.size w2 wr) (fun _ i _ => 3 - (intOf i).toNat)
  case atStart => exact ⟨0, by omega, rfl, by rw [M0.out], Below.refl _ _⟩
  case round =>
    obtain ⟨k, hk, rfl, rfl, hb2⟩ := hrel
    have HB := hidOg (bt hB hb2)
    have HB2 := hidOg hb2
    have d0 := (hb2.cell (p := ⟨B, 0, none⟩) hz).trans c0
    have d1 := (hb2.cell (p := ⟨B, 1, none⟩) hz).trans c1
    have d2 := (hb2.cell (p := ⟨B, 2, none⟩) hz).trans c2
    clear c0 c1 c2 hb2 hz hB
    match k, hk with
    | 0, _ =>
      clear OT OX d1 d2
      have W1 : Hid (wrap64 (m 0 + 1) = m 0 + 1) := by have := MB.out 0; unfold Hid wrap64; omega
      cases hf : f 1 a b
      · have ME : Hid (m 1 = m 0) := MF.out 0 hf
        go_wp2_with (first | (go_at_call 19; refine Calls.mono (TT _ _ _ _ (by assumption) (by assumption)) ?_; rintro e w3 ⟨rfl, hb3⟩))
        go_roundw
        case rel => exact ⟨1, by omega, by go_num, by rw [ME.out], bt HB2.out hb3⟩
        case measure => simp [intOf]
      · have ME : Hid (m 1 = m 0 + 1) := MT.out 0 hf
        go_wp2_with (first | (go_at_call 19; refine Calls.mono (TT _ _ _ _ (by assumption) (by assumption)) ?_; rintro e w3 ⟨rfl, hb3⟩))
        go_roundw
        case rel => exact ⟨1, by omega, by go_num, by rw [ME.out, W1.out], bt HB2.out hb3⟩
        case measure => simp [intOf]
    | 1, _ =>
      clear OT OX d0 d2
      have W1 : Hid (wrap64 (m 1 + 1) = m 1 + 1) := by have := MB.out 1; unfold Hid wrap64; omega
      cases hf : f 2 a b
      · have ME : Hid (m 2 = m 1) := MF.out 1 hf
        go_wp2_with (first | (go_at_call 19; refine Calls.mono (TT _ _ _ _ (by assumption) (by assumption)) ?_; rintro e w3 ⟨rfl, hb3⟩))
        go_roundw
        case rel => exact ⟨2, by omega, by go_num, by rw [ME.out], bt HB2.out hb3⟩
        case measure => simp [intOf]
      · have ME : Hid (m 2 = m 1 + 1) := MT.out 1 hf
        go_wp2_with (first | (go_at_call 19; refine Calls.mono (TT _ _ _ _ (by assumption) (by assumption)) ?_; rintro e w3 ⟨rfl, hb3⟩))
        go_roundw
        case rel => exact ⟨2, by omega, by go_num, by rw [ME.out, W1.out], bt HB2.out hb3⟩
        case measure => simp [intOf]
    | 2, _ =>
      clear OT OX d0 d1
      have W1 : Hid (wrap64 (m 2 + 1) = m 2 + 1) := by have := MB.out 2; unfold Hid wrap64; omega
      cases hf : f 3 a b
      · have ME : Hid (m 3 = m 2) := MF.out 2 hf
        go_wp2_with (first | (go_at_call 19; refine Calls.mono (TT _ _ _ _ (by assumption) (by assumption)) ?_; rintro e w3 ⟨rfl, hb3⟩))
        go_roundw
        case rel => exact ⟨3, by omega, by go_num, by rw [ME.out], bt HB2.out hb3⟩
        case measure => simp [intOf]
      · have ME : Hid (m 3 = m 2 + 1) := MT.out 2 hf
        go_wp2_with (first | (go_at_call 19; refine Calls.mono (TT _ _ _ _ (by assumption) (by assumption)) ?_; rintro e w3 ⟨rfl, hb3⟩))
        go_roundw
        case rel => exact ⟨3, by omega, by go_num, by rw [ME.out, W1.out], bt HB2.out hb3⟩
        case measure => simp [intOf]
    | 3, _ =>
      clear d0 d1 d2 MT MF MB M0
      rcases OT.out with ⟨t1, t2, t3, t4, t5⟩ | ⟨t1, t0, t2, t3, t4, t5⟩ | ⟨t1, t0, t2, t3, t4, t5, t6⟩ | ⟨t1, t0, t2, t3, t4, t5, t6⟩ | ⟨t1, t0, t2, t3, t4, t5⟩
      · rcases OX.out with ⟨x1, x2, x3, x4⟩ | ⟨x1, x2, x3, x4, y1 | ⟨y1, y2⟩⟩ | ⟨x1, x2, x3, x4, y1 | ⟨y1, y2⟩⟩
        · clear OT OX x4
          go_wp2_with (first | (go_at_call 19; refine Calls.mono (TT _ _ _ _ (by assumption) (by assumption)) ?_; rintro e w3 ⟨rfl, hb3⟩; have HB := hidOg (bt HB.out hb3); clear hb3) | (go_at_call 17; refine Calls.mono (CC _ _ _ (by assumption) (by assumption)) ?_; rintro e w3 ⟨rfl, hw⟩; rw [hw]; clear hw w3) | (go_at_call 16; refine Calls.mono (QQ _ _ (by assumption)) ?_; rintro e w3 ⟨rfl, hw⟩; rw [hw]; clear hw w3))
          go_ret
          exact ⟨rfl, HB.out⟩
        · clear OT OX x4
          go_wp2_with (first | (go_at_call 19; refine Calls.mono (TT _ _ _ _ (by assumption) (by assumption)) ?_; rintro e w3 ⟨rfl, hb3⟩; have HB := hidOg (bt HB.out hb3); clear hb3) | (go_at_call 17; refine Calls.mono (CC _ _ _ (by assumption) (by assumption)) ?_; rintro e w3 ⟨rfl, hw⟩; rw [hw]; clear hw w3) | (go_at_call 16; refine Calls.mono (QQ _ _ (by assumption)) ?_; rintro e w3 ⟨rfl, hw⟩; rw [hw]; clear hw w3))
          go_ret
          exact ⟨rfl, HB.out⟩
        · clear OT OX x4
          go_wp2_with (first | (go_at_call 19; refine Calls.mono (TT _ _ _ _ (by assumption) (by assumption)) ?_; rintro e w3 ⟨rfl, hb3⟩; have HB := hidOg (bt HB.out hb3); clear hb3) | (go_at_call 17; refine Calls.mono (CC _ _ _ (by assumption) (by assumption)) ?_; rintro e w3 ⟨rfl, hw⟩; rw [hw]; clear hw w3) | (go_at_call 16; refine Calls.mono (QQ _ _ (by assumption)) ?_; rintro e w3 ⟨rfl, hw⟩; rw [hw]; clear hw w3))
          go_ret
          exact ⟨rfl, HB.out⟩
        · clear OT OX x4
          go_wp2_with (first | (go_at_call 19; refine Calls.mono (TT _ _ _ _ (by assumption) (by assumption)) ?_; rintro e w3 ⟨rfl, hb3⟩; have HB := hidOg (bt HB.out hb3); clear hb3) | (go_at_call 17; refine Calls.mono (CC _ _ _ (by assumption) (by assumption)) ?_; rintro e w3 ⟨rfl, hw⟩; rw [hw]; clear hw w3) | (go_at_call 16; refine Calls.mono (QQ _ _ (by assumption)) ?_; rintro e w3 ⟨rfl, hw⟩; rw [hw]; clear hw w3))
          go_ret
          exact ⟨rfl, HB.out⟩
        · clear OT OX x4
          go_wp2_with (first | (go_at_call 19; refine Calls.mono (TT _ _ _ _ (by assumption) (by assumption)) ?_; rintro e w3 ⟨rfl, hb3⟩; have HB := hidOg (bt HB.out hb3); clear hb3) | (go_at_call 17; refine Calls.mono (CC _ _ _ (by assumption) (by assumption)) ?_; rintro e w3 ⟨rfl, hw⟩; rw [hw]; clear hw w3) | (go_at_call 16; refine Calls.mono (QQ _ _ (by assumption)) ?_; rintro e w3 ⟨rfl, hw⟩; rw [hw]; clear hw w3))
          go_ret
          exact ⟨rfl, HB.out⟩
      · rcases OX.out with ⟨x1, x2, x3, x4⟩ | ⟨x1, x2, x3, x4, y1 | ⟨y1, y2⟩⟩ | ⟨x1, x2, x3, x4, y1 | ⟨y1, y2⟩⟩
        · clear OT OX x4
          go_wp2_with (first | (go_at_call 19; refine Calls.mono (TT _ _ _ _ (by assumption) (by assumption)) ?_; rintro e w3 ⟨rfl, hb3⟩; have HB := hidOg (bt HB.out hb3); clear hb3) | (go_at_call 17; refine Calls.mono (CC _ _ _ (by assumption) (by assumption)) ?_; rintro e w3 ⟨rfl, hw⟩; rw [hw]; clear hw w3) | (go_at_call 16; refine Calls.mono (QQ _ _ (by assumption)) ?_; rintro e w3 ⟨rfl, hw⟩; rw [hw]; clear hw w3))
          go_ret
          exact ⟨rfl, HB.out⟩
        · clear OT OX x4
          go_wp2_with (first | (go_at_call 19; refine Calls.mono (TT _ _ _ _ (by assumption) (by assumption)) ?_; rintro e w3 ⟨rfl, hb3⟩; have HB := hidOg (bt HB.out hb3); clear hb3) | (go_at_call 17; refine Calls.mono (CC _ _ _ (by assumption) (by assumption)) ?_; rintro e w3 ⟨rfl, hw⟩; rw [hw]; clear hw w3) | (go_at_call 16; refine Calls.mono (QQ _ _ (by assumption)) ?_; rintro e w3 ⟨rfl, hw⟩; rw [hw]; clear hw w3))
          go_ret
          exact ⟨rfl, HB.out⟩
        · clear OT OX x4
          go_wp2_with (first | (go_at_call 19; refine Calls.mono (TT _ _ _ _ (by assumption) (by assumption)) ?_; rintro e w3 ⟨rfl, hb3⟩; have HB := hidOg (bt HB.out hb3); clear hb3) | (go_at_call 17; refine Calls.mono (CC _ _ _ (by assumption) (by assumption)) ?_; rintro e w3 ⟨rfl, hw⟩; rw [hw]; clear hw w3) | (go_at_call 16; refine Calls.mono (QQ _ _ (by assumption)) ?_; rintro e w3 ⟨rfl, hw⟩; rw [hw]; clear hw w3))
          go_ret
          exact ⟨rfl, HB.out⟩
        · clear OT OX x4
          go_wp2_with (first | (go_at_call 19; refine Calls.mono (TT _ _ _ _ (by assumption) (by assumption)) ?_; rintro e w3 ⟨rfl, hb3⟩; have HB := hidOg (bt HB.out hb3); clear hb3) | (go_at_call 17; refine Calls.mono (CC _ _ _ (by assumption) (by assumption)) ?_; rintro e w3 ⟨rfl, hw⟩; rw [hw]; clear hw w3) | (go_at_call 16; refine Calls.mono (QQ _ _ (by assumption)) ?_; rintro e w3 ⟨rfl, hw⟩; rw [hw]; clear hw w3))
          go_ret
          exact ⟨rfl, HB.out⟩
        · clear OT OX x4
          go_wp2_with (first | (go_at_call 19; refine Calls.mono (TT _ _ _ _ (by assumption) (by assumption)) ?_; rintro e w3 ⟨rfl, hb3⟩; have HB := hidOg (bt HB.out hb3); clear hb3) | (go_at_call 17; refine Calls.mono (CC _ _ _ (by assumption) (by assumption)) ?_; rintro e w3 ⟨rfl, hw⟩; rw [hw]; clear hw w3) | (go_at_call 16; refine Calls.mono (QQ _ _ (by assumption)) ?_; rintro e w3 ⟨rfl, hw⟩; rw [hw]; clear hw w3))
          go_ret
          exact ⟨rfl, HB.out⟩
      · rcases OX.out with ⟨x1, x2, x3, x4⟩ | ⟨x1, x2, x3, x4, y1 | ⟨y1, y2⟩⟩ | ⟨x1, x2, x3, x4, y1 | ⟨y1, y2⟩⟩
        · exact absurd t6 (by omega)
        · clear OT OX x4 t6
          go_wp2_with (first | (go_at_call 19; refine Calls.mono (TT _ _ _ _ (by assumption) (by assumption)) ?_; rintro e w3 ⟨rfl, hb3⟩; have HB := hidOg (bt HB.out hb3); clear hb3) | (go_at_call 17; refine Calls.mono (CC _ _ _ (by assumption) (by assumption)) ?_; rintro e w3 ⟨rfl, hw⟩; rw [hw]; clear hw w3) | (go_at_call 16; refine Calls.mono (QQ _ _ (by assumption)) ?_; rintro e w3 ⟨rfl, hw⟩; rw [hw]; clear hw w3))
          go_ret
          exact ⟨rfl, HB.out⟩
        · clear OT OX x4 t6
          go_wp2_with (first | (go_at_call 19; refine Calls.mono (TT _ _ _ _ (by assumption) (by assumption)) ?_; rintro e w3 ⟨rfl, hb3⟩; have HB := hidOg (bt HB.out hb3); clear hb3) | (go_at_call 17; refine Calls.mono (CC _ _ _ (by assumption) (by assumption)) ?_; rintro e w3 ⟨rfl, hw⟩; rw [hw]; clear hw w3) | (go_at_call 16; refine Calls.mono (QQ _ _ (by assumption)) ?_; rintro e w3 ⟨rfl, hw⟩; rw [hw]; clear hw w3))
          go_ret
          exact ⟨rfl, HB.out⟩
        · exact absurd t6 (by omega)
        · exact absurd t6 (by omega)
      · rcases OX.out with ⟨x1, x2, x3, x4⟩ | ⟨x1, x2, x3, x4, y1 | ⟨y1, y2⟩⟩ | ⟨x1, x2, x3, x4, y1 | ⟨y1, y2⟩⟩
        · clear OT OX x4 t6
          go_wp2_with (first | (go_at_call 19; refine Calls.mono (TT _ _ _ _ (by assumption) (by assumption)) ?_; rintro e w3 ⟨rfl, hb3⟩; have HB := hidOg (bt HB.out hb3); clear hb3) | (go_at_call 17; refine Calls.mono (CC _ _ _ (by assumption) (by assumption)) ?_; rintro e w3 ⟨rfl, hw⟩; rw [hw]; clear hw w3) | (go_at_call 16; refine Calls.mono (QQ _ _ (by assumption)) ?_; rintro e w3 ⟨rfl, hw⟩; rw [hw]; clear hw w3))
          go_ret
          exact ⟨rfl, HB.out⟩
        · exact absurd t6 (by omega)
        · exact absurd t6 (by omega)
        · exact absurd t6 (by omega)
        · exact absurd t6 (by omega)
      · rcases OX.out with ⟨x1, x2, x3, x4⟩ | ⟨x1, x2, x3, x4, y1 | ⟨y1, y2⟩⟩ | ⟨x1, x2, x3, x4, y1 | ⟨y1, y2⟩⟩
        · clear OT OX x4
          go_wp2_with (first | (go_at_call 19; refine Calls.mono (TT _ _ _ _ (by assumption) (by assumption)) ?_; rintro e w3 ⟨rfl, hb3⟩; have HB := hidOg (bt HB.out hb3); clear hb3) | (go_at_call 17; refine Calls.mono (CC _ _ _ (by assumption) (by assumption)) ?_; rintro e w3 ⟨rfl, hw⟩; rw [hw]; clear hw w3) | (go_at_call 16; refine Calls.mono (QQ _ _ (by assumption)) ?_; rintro e w3 ⟨rfl, hw⟩; rw [hw]; clear hw w3))
          go_ret
          exact ⟨rfl, HB.out⟩
        · clear OT OX x4
          go_wp2_with (first | (go_at_call 19; refine Calls.mono (TT _ _ _ _ (by assumption) (by assumption)) ?_; rintro e w3 ⟨rfl, hb3⟩; have HB := hidOg (bt HB.out hb3); clear hb3) | (go_at_call 17; refine Calls.mono (CC _ _ _ (by assumption) (by assumption)) ?_; rintro e w3 ⟨rfl, hw⟩; rw [hw]; clear hw w3) | (go_at_call 16; refine Calls.mono (QQ _ _ (by assumption)) ?_; rintro e w3 ⟨rfl, hw⟩; rw [hw]; clear hw w3))
          go_ret
          exact ⟨rfl, HB.out⟩
        · clear OT OX x4
          go_wp2_with (first | (go_at_call 19; refine Calls.mono (TT _ _ _ _ (by assumption) (by assumption)) ?_; rintro e w3 ⟨rfl, hb3⟩; have HB := hidOg (bt HB.out hb3); clear hb3) | (go_at_call 17; refine Calls.mono (CC _ _ _ (by assumption) (by assumption)) ?_; rintro e w3 ⟨rfl, hw⟩; rw [hw]; clear hw w3) | (go_at_call 16; refine Calls.mono (QQ _ _ (by assumption)) ?_; rintro e w3 ⟨rfl, hw⟩; rw [hw]; clear hw w3))
          go_ret
          exact ⟨rfl, HB.out⟩
        · clear OT OX x4
          go_wp2_with (first | (go_at_call 19; refine Calls.mono (TT _ _ _ _ (by assumption) (by assumption)) ?_; rintro e w3 ⟨rfl, hb3⟩; have HB := hidOg (bt HB.out hb3); clear hb3) | (go_at_call 17; refine Calls.mono (CC _ _ _ (by assumption) (by assumption)) ?_; rintro e w3 ⟨rfl, hw⟩; rw [hw]; clear hw w3) | (go_at_call 16; refine Calls.mono (QQ _ _ (by assumption)) ?_; rintro e w3 ⟨rfl, hw⟩; rw [hw]; clear hw w3))
          go_ret
          exact ⟨rfl, HB.out⟩
        · clear OT OX x4
          go_wp2_with (first | (go_at_call 19; refine Calls.mono (TT _ _ _ _ (by assumption) (by assumption)) ?_; rintro e w3 ⟨rfl, hb3⟩; have HB := hidOg (bt HB.out hb3); clear hb3) | (go_at_call 17; refine Calls.mono (CC _ _ _ (by assumption) (by assumption)) ?_; rintro e w3 ⟨rfl, hw⟩; rw [hw]; clear hw w3) | (go_at_call 16; refine Calls.mono (QQ _ _ (by assumption)) ?_; rintro e w3 ⟨rfl, hw⟩; rw [hw]; clear hw w3))
          go_ret
          exact ⟨rfl, HB.out⟩
end Go.Proofs.Ytglfhgedaknljaa
