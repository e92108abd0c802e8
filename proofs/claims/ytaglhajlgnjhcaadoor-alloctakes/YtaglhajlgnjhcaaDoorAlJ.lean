/- lives, Alive, At, Room, Check. -/
import Derived.Test.YtaglhajlgnjhcaaDoorAlI
namespace Go.Proofs.YtaglhajlgnjhcaaDoor
open Go.RowKit

def livesB (l : List (Int × Bool)) (x : Int) : Bool := decide (kindOf x = 1) && (hasB l.length (p1 x) && (decide (sG l (p1 x - 1).toNat = p2 x) && sA l (p1 x - 1).toNat))

set_option maxHeartbeats 1000000 in
theorem lives_any (m : Int) (p : Option Addr) (sl : List (Int × Bool)) (c : Nat) (q : Option Addr) (k d : Nat) (x : Int) (w : World) (h0 : 0 ≤ x) (h1 : x < 18446744073709551616) (hS : SRow w.heap.size w p sl) (hn : sl.length < 1152921504606846976) :
    Calls Tryd.prog 43 #[.agg #[.int .i64 m, .slice p sl.length c, .slice q k d], .int .u64 x] w fun e w' => e = .returned (.bool (livesB sl x)) ∧ Below w.heap.size w w' := by
  obtain ⟨r, hr⟩ : ∃ r, r = livesB sl x := ⟨_, rfl⟩
  rw [← hr]
  have HR : Hid (r = livesB sl x) := hr
  clear hr
  have CK := fun (w : World) => kind_any x w h0 h1
  by_cases hk : kindOf x = 1
  · rw [hk] at CK
    have HK : Hid (kindOf x = 1) := hk
    clear hk
    have CP := fun (w : World) => parts_any x w h0 h1
    have CH := fun (w : World) => hasSlot_any m p sl.length c q k d (p1 x) w
    cases ha : hasB sl.length (p1 x)
    · rw [ha] at CH
      have HA : Hid (hasB sl.length (p1 x) = false) := ha
      clear ha
      go_enter Tryd.func43, Tryd.ntmps43
      go_wp2_with (first | (go_at_call 63; refine Calls.mono (CK _) ?_; rintro e w1 ⟨rfl, hb1⟩; obtain ⟨a0, a1, a2, hz1⟩ := box3 hb1) | (go_at_call 52; refine Calls.mono (CP _) ?_; rintro e w2 ⟨rfl, hb2⟩; obtain ⟨b0, b1, b2, hz2⟩ := box3 (hb1.trans (hb2.mono hb1.size))) | (go_at_call 44; refine Calls.mono (CH _) ?_; rintro e w3 ⟨rfl, hb3⟩))
      go_ret
      exact ⟨ret_bool (by rw [HR.out]; unfold livesB; rw [HK.out, HA.out]; rfl), ((below1 hb1).trans (hb2.mono (by omega))).trans (hb3.mono (by omega))⟩
    · rw [ha] at CH
      have HA : Hid (hasB sl.length (p1 x) = true) := ha
      have h12 : 1 ≤ p1 x ∧ p1 x ≤ (sl.length : Int) := by simpa [hasB] using ha
      clear ha
      obtain ⟨j, hj'⟩ : ∃ j : Nat, p1 x = (j : Int) + 1 := ⟨(p1 x - 1).toNat, by omega⟩
      have HJ : Hid (p1 x = (j : Int) + 1) := hj'
      rw [hj'] at CP CH
      have hj : j < sl.length := by omega
      clear h12 hj'
      obtain ⟨b, off, rfl, hbB, hcs⟩ := hS (by omega)
      obtain ⟨c0, c1⟩ := hcs j hj
      clear hcs
      by_cases hg : sG sl j = p2 x
      · have HG : Hid (sG sl j = p2 x) := hg
        rw [hg] at c0
        clear hg
        cases hv : sA sl j
        all_goals
          have HV : Hid (sA sl j = _) := hv
          rw [hv] at c1
          clear hv
          go_enter Tryd.func43, Tryd.ntmps43
          go_wp2_with (first | (go_at_call 63; refine Calls.mono (CK _) ?_; rintro e w1 ⟨rfl, hb1⟩; obtain ⟨a0, a1, a2, hz1⟩ := box3 hb1) | (go_at_call 52; refine Calls.mono (CP _) ?_; rintro e w2 ⟨rfl, hb2⟩; have hb12 := hb1.trans (hb2.mono hb1.size); obtain ⟨b0, b1, b2, hz2⟩ := box3 hb12) | (go_at_call 44; refine Calls.mono (CH _) ?_; rintro e w3 ⟨rfl, hb3⟩; have hb13 := hb12.trans (hb3.mono hb12.size); obtain ⟨d0, d1, d2, hz3⟩ := box3 hb13; obtain ⟨kc, kf⟩ := bcellN (below1 hb13)))
          go_ret
          exact ⟨ret_bool (by rw [HR.out]; unfold livesB; rw [HK.out, HA.out, HJ.out, show ((j : Int) + 1 - 1).toNat = j by omega, HG.out, HV.out]; simp), below1 hb13⟩
      · have HG : Hid (decide (sG sl j = p2 x) = false) := decide_eq_false hg
        go_enter Tryd.func43, Tryd.ntmps43
        go_wp2_with (first | (go_at_call 63; refine Calls.mono (CK _) ?_; rintro e w1 ⟨rfl, hb1⟩; obtain ⟨a0, a1, a2, hz1⟩ := box3 hb1) | (go_at_call 52; refine Calls.mono (CP _) ?_; rintro e w2 ⟨rfl, hb2⟩; have hb12 := hb1.trans (hb2.mono hb1.size); obtain ⟨b0, b1, b2, hz2⟩ := box3 hb12) | (go_at_call 44; refine Calls.mono (CH _) ?_; rintro e w3 ⟨rfl, hb3⟩; have hb13 := hb12.trans (hb3.mono hb12.size); obtain ⟨d0, d1, d2, hz3⟩ := box3 hb13; obtain ⟨kc, kf⟩ := bcellN (below1 hb13)))
        go_ret
        exact ⟨ret_bool (by rw [HR.out]; unfold livesB; rw [HK.out, HA.out, HJ.out, show ((j : Int) + 1 - 1).toNat = j by omega, HG.out]; simp), below1 hb13⟩
  · have HK : Hid (decide (kindOf x = 1) = false) := decide_eq_false hk
    go_enter Tryd.func43, Tryd.ntmps43
    go_wp2_with (first | (go_at_call 63; refine Calls.mono (CK _) ?_; rintro e w1 ⟨rfl, hb1⟩; obtain ⟨a0, a1, a2, hz1⟩ := box3 hb1))
    go_ret
    exact ⟨ret_bool (by rw [HR.out]; unfold livesB; rw [HK.out]; rfl), below1 hb1⟩
end Go.Proofs.YtaglhajlgnjhcaaDoor
