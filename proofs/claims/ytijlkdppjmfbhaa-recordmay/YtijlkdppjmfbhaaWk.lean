/- wakes. -/
import Derived.Test.YtijlkdppjmfbhaaLaA
import Derived.Deep.RegionHeld3
namespace Go.Proofs.Ytijlkdppjmfbhaa
open Go.RowKit Go.Sort Go.Maps

theorem at14s (w : World) (q : Option Addr) (d B : Nat) (h : GvS B w q smL d) : Calls Try.prog 14 #[.agg #[.slice q 6 d], .int .i64 4] w fun e w' => e = .returned (.tuple #[.agg #[.int .i64 1, .int .i64 1], .bool true]) ∧ Below w.heap.size w w' := by
  have := at14 q smL d 4 w h.i wk_wf (by decide)
  rw [wk_at] at this; exact this
theorem who19s (w : World) (q : Option Addr) (d B : Nat) (h : GvS B w q smL d) : Calls Try.prog 19 #[.agg #[.slice q 6 d], .agg #[.int .i64 2, .int .i64 0]] w fun e w' => e = .returned (.tuple #[.int .i64 6, .bool true]) ∧ Below w.heap.size w w' := by
  have := who19 q smL d (2, 0) w h.i wk_wf (by decide) ⟨wfI_of (by decide) (by decide), wfI_of (by decide) (by decide)⟩
  rw [wk_who] at this; exact this
theorem swap25s (w : World) (q : Option Addr) (d B : Nat) (h : GvS B w q smL d) : Calls Try.prog 25 #[.agg #[.slice q 6 d], .int .i64 3, .int .i64 1] w fun e w' => ∃ q' d', e = .returned (.tuple #[.agg #[.slice q' 6 d'], .int .i64 0]) ∧ GvS w.heap.size w' q' smL2 d' ∧ Below w.heap.size w w' := by
  have := swap25 q smL d 3 1 w h.i wk_wf (by decide) (wfI_of (by decide) (by decide))
  rw [wk_swap] at this; exact this
theorem put21s (w : World) (q : Option Addr) (d B : Nat) (h : GvS B w q smL d) : Calls Try.prog 21 #[.agg #[.slice q 6 d], .int .i64 5, .agg #[.int .i64 2, .int .i64 0]] w fun e w' => ∃ q' d', e = .returned (.tuple #[.agg #[.slice q' 0 d'], .int .i64 5]) ∧ Below w.heap.size w w' := by
  have := put21 q smL d 5 (2, 0) w h.i wk_wf (by decide) ⟨wfI_of (by decide) (by decide), wfI_of (by decide) (by decide)⟩
  rw [wk_put] at this
  exact this.mono fun e w' ⟨q', d', h1, _, h3⟩ => ⟨q', d', h1, h3⟩
theorem rows15s (w : World) (q : Option Addr) (d B : Nat) (h : GvS B w q smL d) : Calls Try.prog 15 #[.agg #[.slice q 6 d], .int .i64 1] w fun e w' => ∃ q' d', e = .returned (.slice q' 2 d') ∧ OwnR w.heap.size w' q' [3, 4] d' ∧ Below w.heap.size w w' := by
  refine (rows15 q smL d 1 w h.i wk_wf (by decide)).mono ?_
  rintro e w' ⟨q', X, d', rfl, hx, ho, hb⟩
  obtain rfl := isRows_uniq wk_may (hx.1 wk_may) wk_rows
  exact ⟨q', d', rfl, ho, hb⟩
theorem rows15t (w : World) (q : Option Addr) (d B : Nat) (h : GvS B w q smL2 d) : Calls Try.prog 15 #[.agg #[.slice q 6 d], .int .i64 1] w fun e w' => ∃ q' d', e = .returned (.slice q' 1 d') ∧ OwnR w.heap.size w' q' [4] d' ∧ Below w.heap.size w w' := by
  refine (rows15 q smL2 d 1 w h.i wk_wf2 (by decide)).mono ?_
  rintro e w' ⟨q', X, d', rfl, hx, ho, hb⟩
  obtain rfl := isRows_uniq wk_may2 (hx.1 wk_may2) wk_rows2
  exact ⟨q', d', rfl, ho, hb⟩
theorem eq18s (w : World) (q p : Option Addr) (d c : Nat) (l : List Int) (h : IRow .i64 w.heap.size w q l) (g : IRow .i64 w.heap.size w p l) (hl : l.length ≤ 10) : Calls Try.prog 18 #[.slice q l.length d, .slice p l.length c] w fun e w' => e = .returned (.bool true) ∧ Below w.heap.size w w' := by
  have := equal18 q l d p l c w h g (by omega)
  rw [samI_refl] at this; exact this
theorem eq18a (B : Nat) (w : World) (q : Option Addr) (d : Nat) (h : OwnR B w q [4] d) : Calls Try.prog 18 #[.slice q 1 d, .slice (some ⟨w.heap.size, 0, none⟩) 1 1] (w.alloc (.cells #[.int .i64 4] 3)) fun e w' => e = .returned (.bool true) ∧ Below (w.alloc (.cells #[.int .i64 4] 3)).heap.size (w.alloc (.cells #[.int .i64 4] 3)) w' :=
  eq18s _ q (some ⟨w.heap.size, 0, none⟩) d 1 [4] (h.to (bal w (.cells #[.int .i64 4] 3))).row.i (irow_heap .i64 (t := 3) (by simpa [cellsI] using blk1 (W := w) (o := .cells #[.int .i64 4] 3))) (by decide)
theorem eq18b (B : Nat) (w : World) (q : Option Addr) (d : Nat) (h : OwnR B w q [3, 4] d) : Calls Try.prog 18 #[.slice q 2 d, .slice (some ⟨w.heap.size, 0, none⟩) 2 2] (w.alloc (.cells #[.int .i64 3, .int .i64 4] 3)) fun e w' => e = .returned (.bool true) ∧ Below (w.alloc (.cells #[.int .i64 3, .int .i64 4] 3)).heap.size (w.alloc (.cells #[.int .i64 3, .int .i64 4] 3)) w' :=
  eq18s _ q (some ⟨w.heap.size, 0, none⟩) d 2 [3, 4] (h.to (bal w (.cells #[.int .i64 3, .int .i64 4] 3))).row.i (irow_heap .i64 (t := 3) (by simpa [cellsI] using blk1 (W := w) (o := .cells #[.int .i64 3, .int .i64 4] 3))) (by decide)
set_option maxRecDepth 20000 in
set_option maxHeartbeats 4000000 in
theorem wakes8 (w : World) : Calls Try.prog 8 #[] w fun e w' => e = .returned (.bool true) ∧ Below w.heap.size w w' := by
  have HB0 : Hid (Below w.heap.size w w) := Below.refl _ _
  go_enter Try.func8, Try.ntmps8
  go_wp2_with (first
    | (go_at_call 30; refine Calls.mono (small30 _) ?_; rintro e w1 ⟨q1, d1, rfl, hg, hb⟩; have HB1 := hidOg (HB0.out.trans (hb.mono HB0.out.size)); have HG1 := hidOg hg; clear hg hb HB0)
    | (go_at_call 14; refine Calls.mono (at14s _ _ _ _ HG1.out) ?_; rintro e w2 ⟨rfl, hb⟩; have HB2 := hidOg (HB1.out.trans (hb.mono HB1.out.size)); clear hb HG1 HB1)
    | (go_at_call 30; refine Calls.mono (small30 _) ?_; rintro e w3 ⟨q3, d3, rfl, hg, hb⟩; have hx := HB2.out.trans ((bal w2 (.cells #[.int .i64 1, .int .i64 1] 34)).mono HB2.out.size); have HB3 := hidOg (hx.trans (hb.mono hx.size)); have HS3 := hidOg (atW hb blk1); have HG3 := hidOg hg; clear hx hg hb HB2)
    | (go_at_call 19; refine Calls.mono (who19s _ _ _ _ HG3.out) ?_; rintro e w4 ⟨rfl, hb⟩; have HB4 := hidOg (HB3.out.trans (hb.mono HB3.out.size)); have HS4 := hidOg (atW hb HS3.out); clear hb HG3 HB3 HS3)
    | (go_at_call 30; refine Calls.mono (small30 _) ?_; rintro e w5 ⟨q5, d5, rfl, hg, hb⟩; have HB5 := hidOg (HB4.out.trans (hb.mono HB4.out.size)); have HS5 := hidOg (atW hb HS4.out); have HG5 := hidOg hg; clear hg hb HB4 HS4)
    | (go_at_call 25; refine Calls.mono (swap25s _ _ _ _ HG5.out) ?_; rintro e w6 ⟨q6, d6, rfl, hg, hb⟩; have HB6 := hidOg (HB5.out.trans (hb.mono HB5.out.size)); have HS6 := hidOg (atW hb HS5.out); have HX6 := hidOg hg; clear hb hg HG5 HB5 HS5)
    | (go_at_call 30; refine Calls.mono (small30 _) ?_; rintro e w7 ⟨q7, d7, rfl, hg, hb⟩; have hy := bal w6 (.cells #[.slice q6 6 d6] 24); have hx := HB6.out.trans (hy.mono HB6.out.size); have HB7 := hidOg (hx.trans (hb.mono hx.size)); have HS7 := hidOg (atW hb (atW hy HS6.out)); have HR7 := hidOg (atW hb (blk1 (W := w6) (o := .cells #[.slice q6 6 d6] 24))); have HX7 := hidOg ((HX6.out.to hy).to hb); have HG7 := hidOg hg; clear hx hy hg hb HB6 HS6 HX6)
    | (go_at_call 21; refine Calls.mono (put21s _ _ _ _ HG7.out) ?_; rintro e w8 ⟨q8, d8, rfl, hb⟩; have hy := bal w8 (.cells #[.slice q8 0 d8] 24); have HB8 := hidOg ((HB7.out.trans (hb.mono HB7.out.size)).trans (hy.mono (HB7.out.trans (hb.mono HB7.out.size)).size)); obtain ⟨s0, s1, _⟩ := cell2_heap (atW hy (atW hb HS7.out)); have r0 := cell1_heap (atW hy (atW hb HR7.out)); have HX8 := hidOg ((HX7.out.to hb).to hy); clear hy hb HB7 HS7 HR7 HX7 HG7)
    | (go_at_call 15; have hh := HX8.out; refine Calls.mono (rows15t _ _ _ _ hh) ?_; rintro e w9 ⟨q9, d9, rfl, ho, hb⟩; have HB9 := hidOg (HB8.out.trans (hb.mono HB8.out.size)); have HO9 := hidOg ho; clear hb ho hh HB8 HX8)
    | (go_at_call 18; have hh := HO9.out; refine Calls.mono (eq18a _ _ _ _ hh) ?_; rintro e w10 ⟨rfl, hb⟩; have hx := HB9.out.trans ((bal w9 (.cells #[.int .i64 4] 3)).mono HB9.out.size); have HB10 := hidOg (hx.trans (hb.mono hx.size)); clear hx hb hh HB9 HO9)
    | (go_at_call 30; refine Calls.mono (small30 _) ?_; rintro e w11 ⟨q11, d11, rfl, hg, hb⟩; have HB11 := hidOg (HB10.out.trans (hb.mono HB10.out.size)); have HG11 := hidOg hg; clear hg hb HB10)
    | (go_at_call 15; have hh := HG11.out; refine Calls.mono (rows15s _ _ _ _ hh) ?_; rintro e w12 ⟨q12, d12, rfl, ho, hb⟩; have HB12 := hidOg (HB11.out.trans (hb.mono HB11.out.size)); have HO12 := hidOg ho; clear hb ho hh HB11 HG11)
    | (go_at_call 18; have hh := HO12.out; refine Calls.mono (eq18b _ _ _ _ hh) ?_; rintro e w13 ⟨rfl, hb⟩; have hx := HB12.out.trans ((bal w12 (.cells #[.int .i64 3, .int .i64 4] 3)).mono HB12.out.size); have HB13 := hidOg (hx.trans (hb.mono hx.size)); clear hx hb hh HB12 HO12))
  go_ret
  exact ⟨rfl, HB13.out⟩
end Go.Proofs.Ytijlkdppjmfbhaa
