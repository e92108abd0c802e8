/- ColumnBack: where the column is not small, or may not be. -/
import Derived.Test.YtkbikngkhaeakaaBkM
namespace Go.Proofs.Ytkbikngkhaeakaa
open Go.RowKit

set_option maxRecDepth 20000 in
set_option maxHeartbeats 4000000 in
theorem back_small (wd rs : Int) (p : Option Addr) (l : List Int) (c : Nat) (row : Int) (pv : Option Addr) (v : List Int) (d : Nat) (w : World) (h : InR w p l c) (hs : smB wd rs (l.take 60).length = false) :
    Calls Try.prog 6 #[.agg #[.int .i64 wd, .int .i64 rs, .slice p l.length c], .int .i64 row, .slice pv v.length d] w fun e w' => e = .returned (.bool true) ∧ Below w.heap.size w w' := by
  have CO := fun (W : World) (hb : Below w.heap.size w W) => own10 wd rs p l c W (h.to hb)
  obtain ⟨L, hL⟩ : ∃ L, L = l.take 60 := ⟨_, rfl⟩
  rw [← hL] at CO hs
  have h0 := heap_alloc_new w (.cells #[.int .i64 wd, .int .i64 rs, .slice p l.length c] 24)
  have H0 := hidOg h0
  have CS := fun (q : Option Addr) (k : Nat) (W : World) => small17 wd rs q L.length k W
  rw [hs] at CS
  have HB0 : Hid (Be w.heap.size w (w.alloc (.cells #[.int .i64 wd, .int .i64 rs, .slice p l.length c] 24))) := (Be.refl (Nat.le_refl _)).al _
  clear h hL hs h0
  go_enter Try.func6, Try.ntmps6
  go_wp2_with (first
    | (go_at_call 9; refine Calls.mono (wakes9 _) ?_; rintro e w1 ⟨rfl, hb1⟩; obtain ⟨a0, a1, a2, _⟩ := heap3_cell ((hb1.block w.heap.size (by simp)).trans H0.out); have HB1 := hidOg (HB0.out.to hb1); clear hb1)
    | (go_at_call 10; refine Calls.mono (CO _ HB1.out.b) ?_; rintro e w2 ⟨q2, c2, rfl, ho2, hb2⟩; have HB2 := hidOg ((HB1.out.to hb2).al (.cells #[.int .i64 wd, .int .i64 rs, .slice q2 L.length c2] 24)); clear ho2 hb2)
    | (go_at_call 17; refine Calls.mono (CS _ _ _) ?_; rintro e w3 ⟨rfl, hb3⟩; have HB3 := hidOg (HB2.out.to hb3); clear hb3))
  go_ret
  exact ⟨rfl, HB3.out.b⟩
set_option maxRecDepth 20000 in
set_option maxHeartbeats 4000000 in
theorem back_bad (wd rs : Int) (p : Option Addr) (l : List Int) (c : Nat) (row : Int) (pv : Option Addr) (v : List Int) (d : Nat) (w : World) (h : InR w p l c) (hm : mayB wd rs (l.take 60).length = false) :
    Calls Try.prog 6 #[.agg #[.int .i64 wd, .int .i64 rs, .slice p l.length c], .int .i64 row, .slice pv v.length d] w fun e w' => e = .returned (.bool true) ∧ Below w.heap.size w w' := by
  have CO := fun (W : World) (hb : Below w.heap.size w W) => own10 wd rs p l c W (h.to hb)
  have hs : smB wd rs (l.take 60).length = true := by unfold smB; rw [hm]; simp
  obtain ⟨L, hL⟩ : ∃ L, L = l.take 60 := ⟨_, rfl⟩
  have h60 : L.length ≤ 60 := by rw [hL]; simp; omega
  rw [← hL] at CO hs hm
  have h0 := heap_alloc_new w (.cells #[.int .i64 wd, .int .i64 rs, .slice p l.length c] 24)
  have H0 := hidOg h0
  have CS := fun (q : Option Addr) (k : Nat) (W : World) => small17 wd rs q L.length k W
  rw [hs] at CS
  have C20 := fun (q : Option Addr) (k : Nat) (X : World) (h1 : Row X q L k) (h2 : k ≤ maxLen) => rows20 wd rs q L k X h1 h2 hs
  rw [show roS wd rs L = [] from by unfold roS; rw [if_neg (by rw [hm]; decide)]] at C20
  have CK := fun (q : Option Addr) (k : Nat) (X : World) => check11 wd rs q L k X (by unfold maxLen; omega)
  rw [show chkE wd rs L = 180 from by unfold chkE; rw [if_neg (by rw [hm]; decide)]] at CK
  have HB0 : Hid (Be w.heap.size w (w.alloc (.cells #[.int .i64 wd, .int .i64 rs, .slice p l.length c] 24))) := (Be.refl (Nat.le_refl _)).al _
  clear h hL hs h0 hm h60
  go_enter Try.func6, Try.ntmps6
  go_wp2_with (first
    | (go_at_call 9; refine Calls.mono (wakes9 _) ?_; rintro e w1 ⟨rfl, hb1⟩; obtain ⟨a0, a1, a2, _⟩ := heap3_cell ((hb1.block w.heap.size (by simp)).trans H0.out); have HB1 := hidOg (HB0.out.to hb1); clear hb1)
    | (go_at_call 10; refine Calls.mono (CO _ HB1.out.b) ?_; rintro e w2 ⟨q2, c2, rfl, ho2, hb2⟩; have B7 := hidOg (BC.new (wd := wd) (rs := rs) ho2.row ho2.cm); have HB2 := hidOg ((HB1.out.to hb2).al (.cells #[.int .i64 wd, .int .i64 rs, .slice q2 L.length c2] 24)); clear ho2 hb2)
    | (go_at_call 17; refine Calls.mono (CS _ _ _) ?_; rintro e w3 ⟨rfl, hb3⟩; have B73 := hidOg (B7.out.to hb3); obtain ⟨y0, y1, y2⟩ := B73.out.cells; have HB3 := hidOg (HB2.out.to hb3); clear hb3)
    | (go_at_call 20; refine Calls.mono (C20 _ _ _ B73.out.r B73.out.m) ?_; rintro e w4 ⟨q4, c4, X4, rfl, hX, _, hb4⟩; have e4 : X4.length = 0 := (by rw [← lS_len, hX]; rfl); rw [e4]; have B74 := hidOg (B73.out.to hb4); obtain ⟨z0, z1, z2⟩ := B74.out.cells; have HB4 := hidOg (HB3.out.to hb4); clear hb4 hX e4 y0 y1 y2)
    | (go_at_call 11; refine Calls.mono (CK _ _ _) ?_; rintro e w5 ⟨rfl, hb5⟩; have HB5 := hidOg (HB4.out.to hb5); clear hb5))
  go_ret
  exact ⟨rfl, HB5.out.b⟩
end Go.Proofs.Ytkbikngkhaeakaa
