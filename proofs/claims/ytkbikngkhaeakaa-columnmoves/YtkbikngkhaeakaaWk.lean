/- wakes. -/
import Derived.Test.YtkbikngkhaeakaaCoK
import Derived.Test.YtkbikngkhaeakaaLwA
import Derived.Sort.Row
namespace Go.Proofs.Ytkbikngkhaeakaa
open Go.RowKit Go.Sort

theorem OwnR.cm {B : Nat} {w : World} {p : Option Addr} {l : List Int} {c : Nat} (h : OwnR B w p l c) : c ≤ maxLen := by
  rcases h.o.2 with ⟨e, _⟩ | ⟨g, cap, cur, e, _, _, _, h2, _⟩
  · injection e with e1 e2 e3; rw [e3]; exact Nat.zero_le _
  · injection e with e1 e2 e3; rw [e3]; exact h2
theorem fitB_all (W : Nat) (V : List RR) : fitB (W : Int) V = (lS V).all fun v => decide (v.length = W) := by
  unfold fitB
  rw [Bool.eq_iff_iff, decide_eq_true_iff, List.all_eq_true]
  constructor
  · intro h x hx
    obtain ⟨k, hk, rfl⟩ := List.getElem_of_mem hx
    rw [lS_len] at hk
    have := h k hk
    rw [lS_at hk, decide_eq_true_iff]; exact_mod_cast this
  · intro h k hk
    have := h _ (List.getElem_mem (l := lS V) (n := k) (by rw [lS_len]; exact hk))
    rw [lS_at hk, decide_eq_true_iff] at this
    exact_mod_cast this
theorem wk_push (a b d : Option Addr) : pA 2 0 [] [(a, [1, 2], 2), (b, [3, 4], 2), (d, [5, 6], 2)] = ((2, 3, [1, 2, 3, 4, 5, 6]), 0) := by
  have h1 : fitB (2 : Int) [(a, [1, 2], 2), (b, [3, 4], 2), (d, [5, 6], 2)] = true := (fitB_all 2 _).trans (by simp [lS])
  unfold pA pshA
  have h2 : mayB 2 0 ([] : List Int).length = true := by decide
  rw [h2, if_pos rfl]
  show (if fitB (2 : Int) _ then _ else _) = _
  rw [h1, if_pos rfl]
  show (if roomB 0 3 then _ else _) = _
  rw [show roomB 0 3 = true from by decide]
  rfl
theorem wk_swap : sA 2 3 [1, 2, 3, 4, 5, 6] 0 = ((2, 2, [5, 6, 3, 4]), 0) := by decide
theorem wk_get : gA 2 2 [5, 6, 3, 4] 0 = ([5, 6], 0) := by decide
theorem wk_set : tA 2 3 [1, 2, 3, 4, 5, 6] 1 [9] = (zC, 140) := by decide
theorem set3_heap {W : World} {B : Nat} {a b c : Value} {t : TypeId} (h : W.heap[B]? = some (.cells #[a, b, c] t (0, 0))) (x y z : Value) : (((W.setCell ⟨B, 0, none⟩ x).setCell ⟨B, 1, none⟩ y).setCell ⟨B, 2, none⟩ z).heap[B]? = some (.cells #[x, y, z] t (0, 0)) := by
  simp [setCell_eq, mapBlock, Array.getElem?_modify, h, onCells]
theorem set3_size (W : World) (B : Nat) (x y z : Value) : (((W.setCell ⟨B, 0, none⟩ x).setCell ⟨B, 1, none⟩ y).setCell ⟨B, 2, none⟩ z).heap.size = W.heap.size := by simp [setCell_eq, mapBlock]
theorem swapW {B : Nat} {q : Option Addr} {c : Nat} {X : World} (h : OwnR B X q [1, 2, 3, 4, 5, 6] c) : Calls Try.prog 24 #[.agg #[.int .i64 2, .int .i64 3, .slice q 6 c], .int .i64 0] X fun e w' => ∃ q' c', e = .returned (.tuple #[.agg #[.int .i64 2, .int .i64 2, .slice q' 4 c'], .int .i64 0]) ∧ OwnR X.heap.size w' q' [5, 6, 3, 4] c' ∧ Below X.heap.size X w' := by
  have := swap24 2 3 q [1, 2, 3, 4, 5, 6] c 0 X h.row h.cm
  rw [wk_swap] at this
  exact this
theorem getW {B : Nat} {q : Option Addr} {c : Nat} {X : World} (h : OwnR B X q [5, 6, 3, 4] c) : Calls Try.prog 23 #[.agg #[.int .i64 2, .int .i64 2, .slice q 4 c], .int .i64 0] X fun e w' => ∃ q' c', e = .returned (.tuple #[.slice q' 2 c', .int .i64 0]) ∧ OwnR X.heap.size w' q' [5, 6] c' ∧ Below X.heap.size X w' := by
  have := get23 2 2 q [5, 6, 3, 4] c 0 X h.row h.cm
  rw [wk_get] at this
  exact this
theorem setW {B : Nat} {q p : Option Addr} {c d : Nat} {X : World} (h : OwnR B X q [1, 2, 3, 4, 5, 6] c) (hi : IRow .u64 X.heap.size X p [9]) : Calls Try.prog 27 #[.agg #[.int .i64 2, .int .i64 3, .slice q 6 c], .int .i64 1, .slice p 1 d] X fun e w' => ∃ q' c', e = .returned (.tuple #[.agg #[.int .i64 0, .int .i64 0, .slice q' 0 c'], .int .i64 140]) ∧ Below X.heap.size X w' := by
  have := set27 2 3 q [1, 2, 3, 4, 5, 6] c 1 p [9] d X h.row h.cm hi
  rw [wk_set] at this
  exact this.mono fun e w' ⟨q', c', h1, _, h3⟩ => ⟨q', c', h1, h3⟩
theorem eqW {q p : Option Addr} {c d : Nat} {X : World} (h : IRow .u64 X.heap.size X q [5, 6]) (hi : IRow .u64 X.heap.size X p [5, 6]) : Calls Try.prog 21 #[.slice q 2 c, .slice p 2 d] X fun e w' => e = .returned (.bool true) ∧ Below X.heap.size X w' := equal21 q [5, 6] c p [5, 6] d X h hi (by simp)
theorem newW (w : World) : Calls Try.prog 15 #[.int .i64 2] w fun e w' => ∃ q c, e = .returned (.tuple #[.agg #[.int .i64 2, .int .i64 0, .slice q 0 c], .int .i64 0]) ∧ OwnR w.heap.size w' q [] c ∧ Below w.heap.size w w' := new15 2 w
theorem blkS {W : World} {o : Obj} {k : Nat} (h : W.heap.size = k) : (W.alloc o).heap[k]? = some o := by subst h; exact heap_alloc_new W o
theorem blk1 {W : World} {o : Obj} : (W.alloc o).heap[W.heap.size]? = some o := heap_alloc_new W o
set_option maxRecDepth 20000 in
set_option maxHeartbeats 4000000 in
theorem wakes9 (w : World) : Calls Try.prog 9 #[] w fun e w' => e = .returned (.bool true) ∧ Below w.heap.size w w' := by
  have PUSH : Hid (∀ (w1 : World) (q1 : Option Addr) (c1 : Nat), OwnR w.heap.size w1 q1 [] c1 → Below w.heap.size w w1 → Calls Try.prog 29 #[.agg #[.int .i64 2, .int .i64 0, .slice q1 0 c1], .slice (some ⟨w1.heap.size + 1 + 1 + 1 + 1, 0, none⟩) 3 3] (((((w1.alloc (.cells #[.int .i64 2, .int .i64 0, .slice q1 0 c1] 24)).alloc (.cells #[.int .u64 1, .int .u64 2] 40)).alloc (.cells #[.int .u64 3, .int .u64 4] 40)).alloc (.cells #[.int .u64 5, .int .u64 6] 40)).alloc (.cells #[.slice (some ⟨w1.heap.size + 1, 0, none⟩) 2 2, .slice (some ⟨w1.heap.size + 1 + 1, 0, none⟩) 2 2, .slice (some ⟨w1.heap.size + 1 + 1 + 1, 0, none⟩) 2 2] 38)) fun e w' => ∃ q2 c2, e = .returned (.tuple #[.agg #[.int .i64 2, .int .i64 3, .slice q2 6 c2], .int .i64 0]) ∧ w'.cell? ⟨w1.heap.size, 0, none⟩ = some (.int .i64 2) ∧ w'.cell? ⟨w1.heap.size, 1, none⟩ = some (.int .i64 0) ∧ w'.cell? ⟨w1.heap.size, 2, none⟩ = some (.slice q1 0 c1) ∧ (∀ o, w'.frozen? ⟨w1.heap.size, o, none⟩ = false) ∧ Hid (w'.heap[w1.heap.size]? = some (.cells #[.int .i64 2, .int .i64 0, .slice q1 0 c1] 24)) ∧ Hid (w1.heap.size < w'.heap.size) ∧ Hid (OwnR (w1.heap.size + 1) w' q2 [1, 2, 3, 4, 5, 6] c2) ∧ Hid (Be w.heap.size w w')) := fun w1 q1 c1 ho hb => by
    obtain ⟨h1, h2, h3, h4, h5⟩ := al5 w1 (.cells #[.int .i64 2, .int .i64 0, .slice q1 0 c1] 24) (.cells #[.int .u64 1, .int .u64 2] 40) (.cells #[.int .u64 3, .int .u64 4] 40) (.cells #[.int .u64 5, .int .u64 6] 40) (.cells #[.slice (some ⟨w1.heap.size + 1, 0, none⟩) 2 2, .slice (some ⟨w1.heap.size + 1 + 1, 0, none⟩) 2 2, .slice (some ⟨w1.heap.size + 1 + 1 + 1, 0, none⟩) 2 2] 38)
    have KX : Be w.heap.size w (((((w1.alloc (.cells #[.int .i64 2, .int .i64 0, .slice q1 0 c1] 24)).alloc (.cells #[.int .u64 1, .int .u64 2] 40)).alloc (.cells #[.int .u64 3, .int .u64 4] 40)).alloc (.cells #[.int .u64 5, .int .u64 6] 40)).alloc (.cells #[.slice (some ⟨w1.heap.size + 1, 0, none⟩) 2 2, .slice (some ⟨w1.heap.size + 1 + 1, 0, none⟩) 2 2, .slice (some ⟨w1.heap.size + 1 + 1 + 1, 0, none⟩) 2 2] 38)) := ((((((⟨hb, hb.size⟩ : Be w.heap.size w w1).al _).al _).al _).al _).al _)
    have KY : Be w1.heap.size w1 (((((w1.alloc (.cells #[.int .i64 2, .int .i64 0, .slice q1 0 c1] 24)).alloc (.cells #[.int .u64 1, .int .u64 2] 40)).alloc (.cells #[.int .u64 3, .int .u64 4] 40)).alloc (.cells #[.int .u64 5, .int .u64 6] 40)).alloc (.cells #[.slice (some ⟨w1.heap.size + 1, 0, none⟩) 2 2, .slice (some ⟨w1.heap.size + 1 + 1, 0, none⟩) 2 2, .slice (some ⟨w1.heap.size + 1 + 1 + 1, 0, none⟩) 2 2] 38)) := (((((Be.refl (Nat.le_refl _)).al _).al _).al _).al _).al _
    obtain ⟨wx, hwx⟩ : ∃ wx, wx = (((((w1.alloc (.cells #[.int .i64 2, .int .i64 0, .slice q1 0 c1] 24)).alloc (.cells #[.int .u64 1, .int .u64 2] 40)).alloc (.cells #[.int .u64 3, .int .u64 4] 40)).alloc (.cells #[.int .u64 5, .int .u64 6] 40)).alloc (.cells #[.slice (some ⟨w1.heap.size + 1, 0, none⟩) 2 2, .slice (some ⟨w1.heap.size + 1 + 1, 0, none⟩) 2 2, .slice (some ⟨w1.heap.size + 1 + 1 + 1, 0, none⟩) 2 2] 38)) := ⟨_, rfl⟩
    have sX : wx.heap.size = w1.heap.size + 5 := by rw [hwx]; simp
    rw [← hwx] at h1 h2 h3 h4 h5 KX KY ⊢
    have r1 : IRow .u64 wx.heap.size wx (some ⟨w1.heap.size + 1, 0, none⟩) [1, 2] := irow_heap .u64 (t := 40) (by simpa [cellsI] using h2)
    have r2 : IRow .u64 wx.heap.size wx (some ⟨w1.heap.size + 1 + 1, 0, none⟩) [3, 4] := irow_heap .u64 (t := 40) (by simpa [cellsI] using h3)
    have r3 : IRow .u64 wx.heap.size wx (some ⟨w1.heap.size + 1 + 1 + 1, 0, none⟩) [5, 6] := irow_heap .u64 (t := 40) (by simpa [cellsI] using h4)
    have hV : VRow wx.heap.size wx (some ⟨w1.heap.size + 1 + 1 + 1 + 1, 0, none⟩) [(some ⟨w1.heap.size + 1, 0, none⟩, [1, 2], 2), (some ⟨w1.heap.size + 1 + 1, 0, none⟩, [3, 4], 2), (some ⟨w1.heap.size + 1 + 1 + 1, 0, none⟩, [5, 6], 2)] := fun _ => ⟨_, 0, rfl, by omega, fun k hk => by
      obtain ⟨u0, u1, u2, _⟩ := heap3_cell h5
      rcases (show k = 0 ∨ k = 1 ∨ k = 2 by simp at hk; omega) with rfl | rfl | rfl
      · exact ⟨u0, r1⟩
      · exact ⟨u1, r2⟩
      · exact ⟨u2, r3⟩⟩
    have := push29 2 0 q1 [] c1 _ _ 3 wx ((ho.to KY.b).row) ho.cm hV (by simp)
    rw [wk_push] at this
    refine this.mono ?_
    rintro e w' ⟨q2, c2, rfl, ho2, hb2⟩
    obtain ⟨y0, y1, y2, yf⟩ := heap3_cell ((hb2.block w1.heap.size (by omega)).trans h1)
    exact ⟨q2, c2, rfl, y0, y1, y2, yf, (hb2.block w1.heap.size (by omega)).trans h1, Nat.lt_of_lt_of_le (by omega : w1.heap.size < wx.heap.size) hb2.size, ho2.weak (by omega), KX.to hb2⟩
  go_enter Try.func9, Try.ntmps9
  go_wp2_with (first | (go_at_call 15; refine Calls.mono (newW _) ?_; rintro e w1 ⟨q1, c1, rfl, ho1, hb1⟩; have HO1 := hidOg ho1; have HB1 := hidOg hb1; have HN := hidOg hb1.size; clear ho1 hb1) | (go_at_call 29; refine Calls.mono (PUSH.out w1 q1 c1 HO1.out HB1.out) ?_; rintro e w2 ⟨q2, c2, rfl, y0, y1, y2, yf, H2, HL2, HO2, HB2⟩; clear PUSH HO1 HB1) | (go_at_call 24; refine Calls.mono (swapW (HO2.out.set3 (B := w1.heap.size) (by omega) _ _ _)) ?_; rintro e w3 ⟨q3, c3, rfl, ho3, hb3⟩; have hl := HL2.out; have z3 := (hb3.block w1.heap.size (by rw [set3_size]; exact hl)).trans (set3_heap H2.out _ _ _); obtain ⟨u0, u1, u2, uf⟩ := heap3_cell z3; have H3 := hidOg z3; have HL3 : Hid (w1.heap.size < w3.heap.size) := Nat.lt_of_lt_of_le (by rw [set3_size]; exact hl) hb3.size; have HO3 := hidOg ho3; have HP3 := hidOg ((HO2.out.set3 (B := w1.heap.size) (by omega) _ _ _).to hb3); have HB3 := hidOg ((HB2.out.st3 HN.out _ _ _).to hb3); clear y0 y1 y2 yf H2 HL2 HO2 HB2 ho3 hb3 z3 hl) | (go_at_call 23; refine Calls.mono (getW (HO3.out.to (bal _ _))) ?_; rintro e w4 ⟨q4, c4, rfl, ho4, hb4⟩; have hl := HL3.out; have z4 := (hb4.block w1.heap.size (by rw [World.size_alloc]; omega)).trans ((Below.heap_alloc _ _ _ hl).trans H3.out); have x4 := (hb4.block w3.heap.size (by rw [World.size_alloc]; omega)).trans blk1; have HO4 := hidOg ho4; have HP4 := hidOg ((HP3.out.to (bal _ _)).to hb4); have HB4 := hidOg ((HB3.out.al _).to hb4); have H4 := hidOg z4; have X4 := hidOg x4; have HL4 : Hid (w1.heap.size < w3.heap.size ∧ w3.heap.size < w4.heap.size) := ⟨hl, Nat.lt_of_lt_of_le (by rw [World.size_alloc]; omega) hb4.size⟩; obtain ⟨v0, v1, v2, vf⟩ := heap3_cell z4; obtain ⟨t0, t1, t2, tf⟩ := heap3_cell x4; clear u0 u1 u2 uf H3 HL3 HO3 HP3 HB3 ho4 hb4 z4 x4 hl) | (go_at_call 27; refine Calls.mono (setW (HP4.out.to (bal _ _)) (irow_heap .u64 (t := 40) blk1)) ?_; rintro e w5 ⟨q5, c5, rfl, hb5⟩; obtain ⟨hl1, hl2⟩ := HL4.out; have z5 := (hb5.block w1.heap.size (by rw [World.size_alloc]; omega)).trans ((Below.heap_alloc _ _ _ (by omega)).trans H4.out); have x5 := (hb5.block w3.heap.size (by rw [World.size_alloc]; omega)).trans ((Below.heap_alloc _ _ _ (by omega)).trans X4.out); have hs5 : w4.heap.size + 1 ≤ w5.heap.size := (by have := hb5.size; rwa [World.size_alloc] at this); obtain ⟨r0, r1, r2, rf'⟩ := heap3_cell ((Below.heap_alloc w5 (.cells #[.int .i64 0, .int .i64 0, .slice q5 0 c5] 24) w1.heap.size (by omega)).trans z5); obtain ⟨s0, s1, s2, sf⟩ := heap3_cell ((Below.heap_alloc w5 (.cells #[.int .i64 0, .int .i64 0, .slice q5 0 c5] 24) w3.heap.size (by omega)).trans x5); clear hs5; have HO5 := hidOg ((HO4.out.to (bal _ _)).to hb5); have HB5 := hidOg ((HB4.out.al _).to hb5); clear v0 v1 v2 vf t0 t1 t2 tf H4 X4 HL4 HO4 HP4 HB4 hb5 z5 x5 hl1 hl2) | (go_at_call 21; refine Calls.mono (eqW ((HO5.out.to (bal _ _)).to (bal _ _)).row.i (irow_heap .u64 (t := 40) (blkS (by simp)))) ?_; rintro e w6 ⟨rfl, hb6⟩; have HB6 := hidOg (((HB5.out.al _).al _).to hb6); clear HB5 HO5 hb6))
  go_ret
  exact ⟨rfl, HB6.out.b⟩
end Go.Proofs.Ytkbikngkhaeakaa
