/- ColumnSets: the walk. -/
import Derived.Test.YtkbikngkhaeakaaBx
namespace Go.Proofs.Ytkbikngkhaeakaa
open Go.RowKit

set_option maxRecDepth 20000 in
set_option maxHeartbeats 4000000 in
theorem sets_small (wd rs : Int) (p : Option Addr) (l : List Int) (c : Nat) (row : Int) (pv : Option Addr) (v : List Int) (d : Nat) (w : World) (h : InR w p l c) (hs : smB wd rs (l.take 60).length = false) :
    Calls Try.prog 8 #[.agg #[.int .i64 wd, .int .i64 rs, .slice p l.length c], .int .i64 row, .slice pv v.length d] w fun e w' => e = .returned (.bool true) ∧ Below w.heap.size w w' := by
  have CO := fun (W : World) (hb : Below w.heap.size w W) => own10 wd rs p l c W (h.to hb)
  obtain ⟨L, hL⟩ : ∃ L, L = l.take 60 := ⟨_, rfl⟩
  rw [← hL] at CO hs
  have h0 := heap_alloc_new w (.cells #[.int .i64 wd, .int .i64 rs, .slice p l.length c] 24)
  have H0 := hidOg h0
  have CS := fun (q : Option Addr) (k : Nat) (W : World) => small17 wd rs q L.length k W
  rw [hs] at CS
  have HB0 : Hid (Be w.heap.size w (w.alloc (.cells #[.int .i64 wd, .int .i64 rs, .slice p l.length c] 24))) := (Be.refl (Nat.le_refl _)).al _
  clear h hL hs h0
  go_enter Try.func8, Try.ntmps8
  go_wp2_with (first
    | (go_at_call 9; refine Calls.mono (wakes9 _) ?_; rintro e w1 ⟨rfl, hb1⟩; obtain ⟨a0, a1, a2, _⟩ := heap3_cell ((hb1.block w.heap.size (by simp)).trans H0.out); have HB1 := hidOg (HB0.out.to hb1); clear hb1)
    | (go_at_call 10; refine Calls.mono (CO _ HB1.out.b) ?_; rintro e w2 ⟨q2, c2, rfl, ho2, hb2⟩; have HB2 := hidOg ((HB1.out.to hb2).al (.cells #[.int .i64 wd, .int .i64 rs, .slice q2 L.length c2] 24)); clear ho2 hb2)
    | (go_at_call 17; refine Calls.mono (CS _ _ _) ?_; rintro e w3 ⟨rfl, hb3⟩; have HB3 := hidOg (HB2.out.to hb3); clear hb3))
  go_ret
  exact ⟨rfl, HB3.out.b⟩
set_option maxRecDepth 20000 in
set_option maxHeartbeats 4000000 in
theorem sets_no (wd rs : Int) (p : Option Addr) (l : List Int) (c : Nat) (row : Int) (pv : Option Addr) (v : List Int) (d : Nat) (w : World) (h : InR w p l c) (hv : IRow .u64 w.heap.size w pv v) (hs : smB wd rs (l.take 60).length = true) (hn : ¬ (tA wd rs (l.take 60) row v).2 = 0) :
    Calls Try.prog 8 #[.agg #[.int .i64 wd, .int .i64 rs, .slice p l.length c], .int .i64 row, .slice pv v.length d] w fun e w' => e = .returned (.bool true) ∧ Below w.heap.size w w' := by
  have CO := fun (W : World) (hb : Below w.heap.size w W) => own10 wd rs p l c W (h.to hb)
  have hz := set_no hn
  obtain ⟨L, hL⟩ : ∃ L, L = l.take 60 := ⟨_, rfl⟩
  rw [← hL] at CO hs hn hz
  have h0 := heap_alloc_new w (.cells #[.int .i64 wd, .int .i64 rs, .slice p l.length c] 24)
  have H0 := hidOg h0
  have CS := fun (q : Option Addr) (k : Nat) (W : World) => small17 wd rs q L.length k W
  rw [hs] at CS
  have CT := fun (q : Option Addr) (k : Nat) (W : World) (hR : Row W q L k) (hc : k ≤ maxLen) (hb : Be w.heap.size w W) => set27 wd rs q L k row pv v d W hR hc ((hv.to hb.b))
  obtain ⟨⟨⟨x, y, M⟩, er⟩, ha⟩ : ∃ a, a = tA wd rs L row v := ⟨_, rfl⟩
  rw [← ha] at CT hn hz
  have e0 : (er != 0) = true := by simpa using hn
  have e1 : y = 0 := hz
  subst e1
  have HB0 : Hid (Be w.heap.size w (w.alloc (.cells #[.int .i64 wd, .int .i64 rs, .slice p l.length c] 24))) := (Be.refl (Nat.le_refl _)).al _
  clear h hL hs h0 hv hn hz ha
  go_enter Try.func8, Try.ntmps8
  go_wp2_with (first
    | (go_at_call 9; refine Calls.mono (wakes9 _) ?_; rintro e w1 ⟨rfl, hb1⟩; obtain ⟨a0, a1, a2, _⟩ := heap3_cell ((hb1.block w.heap.size (by simp)).trans H0.out); have HB1 := hidOg (HB0.out.to hb1); clear hb1)
    | (go_at_call 10; refine Calls.mono (CO _ HB1.out.b) ?_; rintro e w2 ⟨q2, c2, rfl, ho2, hb2⟩; have B7 := hidOg (BC.new (wd := wd) (rs := rs) ho2.row ho2.cm); have HB2 := hidOg ((HB1.out.to hb2).al (.cells #[.int .i64 wd, .int .i64 rs, .slice q2 L.length c2] 24)); clear ho2 hb2)
    | (go_at_call 17; refine Calls.mono (CS _ _ _) ?_; rintro e w3 ⟨rfl, hb3⟩; have B73 := hidOg (B7.out.to hb3); obtain ⟨y0, y1, y2⟩ := B73.out.cells; have HB3 := hidOg (HB2.out.to hb3); clear hb3)
    | (go_at_call 27; refine Calls.mono (CT _ _ _ B73.out.r B73.out.m HB3.out) ?_; rintro e w4 ⟨q4, c4, rfl, ho4, hb4⟩; have HB4 := hidOg ((HB3.out.to hb4).al (.cells #[.int .i64 x, .int .i64 0, .slice q4 M.length c4] 24)); clear ho4 hb4))
  go_ret
  exact ⟨rfl, HB4.out.b⟩
end Go.Proofs.Ytkbikngkhaeakaa
