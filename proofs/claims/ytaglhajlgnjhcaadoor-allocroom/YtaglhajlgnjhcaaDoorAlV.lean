/- Take, where the allocator may be. -/
import Derived.Test.YtaglhajlgnjhcaaDoorAlR
namespace Go.Proofs.YtaglhajlgnjhcaaDoor
open Go.RowKit

theorem AOwn.from {w W W' : World} {G H : Nat} {l : List (Int × Bool)} {f : List Int} (h : AOwn W W' G l H f) (hb : Below w.heap.size w W) : AOwn w W' G l H f := by
  have := hb.size
  have h1 := h.lg
  have h2 := h.lh
  exact ⟨h.g, h.h, by omega, by omega, hb.trans (h.b.mono hb.size)⟩
theorem AOwn.set3 {w W : World} {G H : Nat} {l : List (Int × Bool)} {f : List Int} (h : AOwn w W G l H f) {R : Nat} {x y z : Value} (hr : W.heap[R]? = some (.cells #[x, y, z] 25 (0, 0))) (hR : w.heap.size ≤ R) (x' y' z' : Value) :
    AOwn w (((W.setCell ⟨R, 0, none⟩ x').setCell ⟨R, 1, none⟩ y').setCell ⟨R, 2, none⟩ z') G l H f := by
  obtain ⟨r, hh⟩ := h.h
  exact ⟨(set3_other (fun e => by subst e; have := h.g; rw [hr] at this; simp at this)).trans h.g, ⟨r, (set3_other (fun e => by subst e; rw [hr] at hh; simp at hh)).trans hh⟩, h.lg, h.lh, ((h.b.setCell (p := ⟨R, 0, none⟩) hR _).setCell (p := ⟨R, 1, none⟩) hR _).setCell (p := ⟨R, 2, none⟩) hR _⟩

set_option maxRecDepth 20000 in
set_option maxHeartbeats 4000000 in
theorem take_full (m : Int) (c d : Nat) (w : World) (p : Option Addr) (l : List (Int × Bool)) (q : Option Addr) (f : List Int) (h : AIn w p l q f) (hm : mayB m l f = true) (hc : cntM l = m + 2) :
    Calls Tryd.prog 25 #[.agg #[.int .i64 m, .slice p l.length c, .slice q f.length d]] w fun e w' => e = .returned (.tuple #[.agg #[.int .i64 0, .slice none 0 0, .slice none 0 0], .int .u64 0, .int .i64 6]) ∧ Below w.heap.size w w' := by
  have l1 := h.ln
  have l2 := h.fn
  have CM := fun (o o' : Obj) => may_in m c d ((h.alloc o).alloc o')
  rw [hm] at CM
  have CC := fun (w1 : World) (hb : Below w.heap.size w w1) => count_any m p l c q f.length d w1 (by omega) (h.below hb).s
  have HH : Hid (AIn w p l q f) := h
  obtain ⟨m1, m2, m3, m4⟩ := mayB_most hm
  obtain ⟨n, hn'⟩ : ∃ n : Nat, n = (livN l l.length).length := ⟨_, rfl⟩
  have hnl : n ≤ l.length := by rw [hn']; exact livN_len l l.length
  rw [← hn'] at CC
  unfold cntM at hc
  rw [← hn'] at hc
  clear hn'
  have hw : IntKind.i64.wrap (m + 2) = m + 2 := (by rw [IntKind.wrap_i64]; omega)
  have hd : ((n : Int) == m + 2) = true := (by simp [hc])
  clear hc
  clear h hm
  go_enter Tryd.func25, Tryd.ntmps25
  go_wp2_with (first | (go_at_call 34; refine Calls.mono (CM _ _) ?_; rintro e w1 ⟨rfl, hb⟩; obtain ⟨⟨a0, a1, a2⟩, hr, hz⟩ := bx3 hb; have hb' := below2 hb))
  clear CM
  go_region_held3 (fun w' => w'.cell? ⟨w.heap.size, 0, none⟩ = some (.int .i64 m) ∧ w'.cell? ⟨w.heap.size, 1, none⟩ = some (.slice p l.length c) ∧ w'.cell? ⟨w.heap.size, 2, none⟩ = some (.slice q f.length d)) (first | go_keep | exact ⟨b0, b1, b2⟩) (first | (go_at_call 46; refine Calls.mono (CC _ ?_) ?_; exact hb'.drew; rintro e w2 ⟨rfl, hb2⟩; have HB2 : Hid (Below w1.heap.size w1 w2) := ((Below.refl _ _).drew).trans hb2; have b0 := (HB2.out.cell (p := ⟨w.heap.size, 0, none⟩) (by simp; omega)).trans a0; have b1 := (HB2.out.cell (p := ⟨w.heap.size, 1, none⟩) (by simp; omega)).trans a1; have b2 := (HB2.out.cell (p := ⟨w.heap.size, 2, none⟩) (by simp; omega)).trans a2; have hs := atW HB2.out hr; obtain ⟨r0, r1, r2, rf, r3⟩ := cells3 hs))
  clear CC hb hb2
  all_goals go_wp2
  obtain ⟨t0, t1, t2, _, _⟩ := cells3 (set3_heap (x' := .int .i64 0) (y' := .slice none 0 0) (z' := .slice none 0 0) hs)
  exact bodyPost_ret (v := .tuple #[.agg #[.int .i64 0, .slice none 0 0, .slice none 0 0], .int .u64 0, .int .i64 6]) (by simp [results, Tryd.results25, go_sem, t0, t1, t2]) rfl ⟨rfl, (((hb'.trans (HB2.out.mono hb'.size)).setCell (p := ⟨w.heap.size + 1, 0, none⟩) (by simp) _).setCell (p := ⟨w.heap.size + 1, 1, none⟩) (by simp) _).setCell (p := ⟨w.heap.size + 1, 2, none⟩) (by simp) _⟩

set_option maxRecDepth 20000 in
set_option maxHeartbeats 4000000 in
theorem take_worn (m : Int) (c d : Nat) (w : World) (p : Option Addr) (l : List (Int × Bool)) (q : Option Addr) (f : List Int) (h : AIn w p l q f) (hm : mayB m l f = true) (hc : ¬ cntM l = m + 2) (hf : f.length = 0) (hl : ¬ (l.length : Int) < m + 2) :
    Calls Tryd.prog 25 #[.agg #[.int .i64 m, .slice p l.length c, .slice q f.length d]] w fun e w' => e = .returned (.tuple #[.agg #[.int .i64 0, .slice none 0 0, .slice none 0 0], .int .u64 0, .int .i64 121]) ∧ Below w.heap.size w w' := by
  have l1 := h.ln
  have l2 := h.fn
  have CM := fun (o o' : Obj) => may_in m c d ((h.alloc o).alloc o')
  rw [hm] at CM
  have CC := fun (w1 : World) (hb : Below w.heap.size w w1) => count_any m p l c q f.length d w1 (by omega) (h.below hb).s
  have HH : Hid (AIn w p l q f) := h
  obtain ⟨m1, m2, m3, m4⟩ := mayB_most hm
  obtain ⟨n, hn'⟩ : ∃ n : Nat, n = (livN l l.length).length := ⟨_, rfl⟩
  have hnl : n ≤ l.length := by rw [hn']; exact livN_len l l.length
  rw [← hn'] at CC
  unfold cntM at hc
  rw [← hn'] at hc
  clear hn'
  have hw : IntKind.i64.wrap (m + 2) = m + 2 := (by rw [IntKind.wrap_i64]; omega)
  have hd : ((n : Int) == m + 2) = false := (by simpa using hc)
  clear hc
  clear h hm
  have hf' : ¬ 0 < f.length := (by omega)
  clear hf
  go_enter Tryd.func25, Tryd.ntmps25
  go_wp2_with (first | (go_at_call 34; refine Calls.mono (CM _ _) ?_; rintro e w1 ⟨rfl, hb⟩; obtain ⟨⟨a0, a1, a2⟩, hr, hz⟩ := bx3 hb; have hb' := below2 hb))
  clear CM
  go_region_held3 (fun w' => w'.cell? ⟨w.heap.size, 0, none⟩ = some (.int .i64 m) ∧ w'.cell? ⟨w.heap.size, 1, none⟩ = some (.slice p l.length c) ∧ w'.cell? ⟨w.heap.size, 2, none⟩ = some (.slice q f.length d)) (first | go_keep | exact ⟨b0, b1, b2⟩) (first | (go_at_call 46; refine Calls.mono (CC _ ?_) ?_; exact hb'.drew; rintro e w2 ⟨rfl, hb2⟩; have HB2 : Hid (Below w1.heap.size w1 w2) := ((Below.refl _ _).drew).trans hb2; have b0 := (HB2.out.cell (p := ⟨w.heap.size, 0, none⟩) (by simp; omega)).trans a0; have b1 := (HB2.out.cell (p := ⟨w.heap.size, 1, none⟩) (by simp; omega)).trans a1; have b2 := (HB2.out.cell (p := ⟨w.heap.size, 2, none⟩) (by simp; omega)).trans a2; have hs := atW HB2.out hr; obtain ⟨r0, r1, r2, rf, r3⟩ := cells3 hs))
  clear CC hb hb2
  all_goals go_wp2
  obtain ⟨t0, t1, t2, _, _⟩ := cells3 (set3_heap (x' := .int .i64 0) (y' := .slice none 0 0) (z' := .slice none 0 0) hs)
  exact bodyPost_ret (v := .tuple #[.agg #[.int .i64 0, .slice none 0 0, .slice none 0 0], .int .u64 0, .int .i64 121]) (by simp [results, Tryd.results25, go_sem, t0, t1, t2]) rfl ⟨rfl, (((hb'.trans (HB2.out.mono hb'.size)).setCell (p := ⟨w.heap.size + 1, 0, none⟩) (by simp) _).setCell (p := ⟨w.heap.size + 1, 1, none⟩) (by simp) _).setCell (p := ⟨w.heap.size + 1, 2, none⟩) (by simp) _⟩

set_option maxRecDepth 20000 in
set_option maxHeartbeats 4000000 in
theorem take_again (m : Int) (c d : Nat) (w : World) (p : Option Addr) (l : List (Int × Bool)) (q : Option Addr) (f : List Int) (h : AIn w p l q f) (hm : mayB m l f = true) (hc : ¬ cntM l = m + 2) (k j : Nat) (hf : f.length = k + 1) (hi : iG f k = (j : Int) + 1) (hj : j < l.length) :
    Calls Tryd.prog 25 #[.agg #[.int .i64 m, .slice p l.length c, .slice q f.length d]] w fun e w' => ∃ G H, e = .returned (.tuple #[.agg #[.int .i64 m, .slice (some ⟨G, 0, none⟩) l.length l.length, .slice (some ⟨H, 0, none⟩) k k], .int .u64 (entV ((j : Int) + 1) (sG l j + 1)), .int .i64 0]) ∧ AOwn w w' G (l.set j (sG l j + 1, true)) H (f.take k) := by
  have l1 := h.ln
  have l2 := h.fn
  have CM := fun (o o' : Obj) => may_in m c d ((h.alloc o).alloc o')
  rw [hm] at CM
  have CC := fun (w1 : World) (hb : Below w.heap.size w w1) => count_any m p l c q f.length d w1 (by omega) (h.below hb).s
  have HH : Hid (AIn w p l q f) := h
  obtain ⟨m1, m2, m3, m4⟩ := mayB_most hm
  obtain ⟨n, hn'⟩ : ∃ n : Nat, n = (livN l l.length).length := ⟨_, rfl⟩
  have hnl : n ≤ l.length := by rw [hn']; exact livN_len l l.length
  rw [← hn'] at CC
  unfold cntM at hc
  rw [← hn'] at hc
  clear hn'
  have hw : IntKind.i64.wrap (m + 2) = m + 2 := (by rw [IntKind.wrap_i64]; omega)
  have hd : ((n : Int) == m + 2) = false := (by simpa using hc)
  clear hc
  have CA := fun (w1 : World) (hb : Below w.heap.size w w1) => again_any m c d w1 p l q f (h.below hb) k j hf hi hj (mayB_slot hm j hj).1 (mayB_slot hm j hj).2
  clear h hm hi
  have hpos : 0 < f.length := (by omega)
  clear hf
  go_enter Tryd.func25, Tryd.ntmps25
  go_wp2_with (first | (go_at_call 34; refine Calls.mono (CM _ _) ?_; rintro e w1 ⟨rfl, hb⟩; obtain ⟨⟨a0, a1, a2⟩, hr, hz⟩ := bx3 hb; have hb' := below2 hb))
  clear CM
  go_region_held3 (fun w' => w'.cell? ⟨w.heap.size, 0, none⟩ = some (.int .i64 m) ∧ w'.cell? ⟨w.heap.size, 1, none⟩ = some (.slice p l.length c) ∧ w'.cell? ⟨w.heap.size, 2, none⟩ = some (.slice q f.length d)) (first | go_keep | exact ⟨b0, b1, b2⟩) (first | (go_at_call 46; refine Calls.mono (CC _ ?_) ?_; exact hb'.drew; rintro e w2 ⟨rfl, hb2⟩; have HB2 : Hid (Below w1.heap.size w1 w2) := ((Below.refl _ _).drew).trans hb2; have b0 := (HB2.out.cell (p := ⟨w.heap.size, 0, none⟩) (by simp; omega)).trans a0; have b1 := (HB2.out.cell (p := ⟨w.heap.size, 1, none⟩) (by simp; omega)).trans a1; have b2 := (HB2.out.cell (p := ⟨w.heap.size, 2, none⟩) (by simp; omega)).trans a2; have hs := atW HB2.out hr; obtain ⟨r0, r1, r2, rf, r3⟩ := cells3 hs))
  clear CC hb hb2
  go_wp2_with (first | (go_at_call 47; refine Calls.mono (CA _ (hb'.trans (HB2.out.mono hb'.size))) ?_; rintro e w3 ⟨G, H, rfl, ho⟩; have HO : Hid _ := ho; have hs3 := atW ho.b hs; obtain ⟨q0, q1, q2, qf, q3⟩ := cells3 hs3; clear ho))
  have hq := set3_heap (x' := .int .i64 m) (y' := .slice (some ⟨G, 0, none⟩) l.length l.length) (z' := .slice (some ⟨H, 0, none⟩) k k) hs3
  have HA := ((HO.out.from (hb'.trans (HB2.out.mono hb'.size))).set3 hs3 (by omega) (.int .i64 m) (.slice (some ⟨G, 0, none⟩) l.length l.length) (.slice (some ⟨H, 0, none⟩) k k)).below ((Below.refl _ _).alloc (Nat.le_refl _) (.cells #[.int .i64 m, .slice (some ⟨G, 0, none⟩) l.length l.length, .slice (some ⟨H, 0, none⟩) k k] 25))
  obtain ⟨t0, t1, t2, _, _⟩ := cells3 ((heap_alloc_old (o := .cells #[.int .i64 m, .slice (some ⟨G, 0, none⟩) l.length l.length, .slice (some ⟨H, 0, none⟩) k k] 25) (Array.getElem?_eq_some_iff.1 hq).1).trans hq)
  exact bodyPost_ret (v := .tuple #[.agg #[.int .i64 m, .slice (some ⟨G, 0, none⟩) l.length l.length, .slice (some ⟨H, 0, none⟩) k k], .int .u64 (entV ((j : Int) + 1) (sG l j + 1)), .int .i64 0]) (by simp [results, Tryd.results25, go_sem, t0, t1, t2]) rfl ⟨G, H, rfl, HA⟩

set_option maxRecDepth 20000 in
set_option maxHeartbeats 4000000 in
theorem take_further (m : Int) (c d : Nat) (w : World) (p : Option Addr) (l : List (Int × Bool)) (q : Option Addr) (f : List Int) (h : AIn w p l q f) (hm : mayB m l f = true) (hc : ¬ cntM l = m + 2) (hf : f.length = 0) (hl : (l.length : Int) < m + 2) :
    Calls Tryd.prog 25 #[.agg #[.int .i64 m, .slice p l.length c, .slice q f.length d]] w fun e w' => ∃ G H, e = .returned (.tuple #[.agg #[.int .i64 m, .slice (some ⟨G, 0, none⟩) (l.length + 1) (l.length + 1), .slice (some ⟨H, 0, none⟩) f.length f.length], .int .u64 (entV ((l.length : Int) + 1) 0), .int .i64 0]) ∧ AOwn w w' G (l ++ [(0, true)]) H f := by
  have l1 := h.ln
  have l2 := h.fn
  have CM := fun (o o' : Obj) => may_in m c d ((h.alloc o).alloc o')
  rw [hm] at CM
  have CC := fun (w1 : World) (hb : Below w.heap.size w w1) => count_any m p l c q f.length d w1 (by omega) (h.below hb).s
  have HH : Hid (AIn w p l q f) := h
  obtain ⟨m1, m2, m3, m4⟩ := mayB_most hm
  obtain ⟨n, hn'⟩ : ∃ n : Nat, n = (livN l l.length).length := ⟨_, rfl⟩
  have hnl : n ≤ l.length := by rw [hn']; exact livN_len l l.length
  rw [← hn'] at CC
  unfold cntM at hc
  rw [← hn'] at hc
  clear hn'
  have hw : IntKind.i64.wrap (m + 2) = m + 2 := (by rw [IntKind.wrap_i64]; omega)
  have hd : ((n : Int) == m + 2) = false := (by simpa using hc)
  clear hc
  have CA := fun (w1 : World) (hb : Below w.heap.size w w1) => further_any m c d w1 p l q f (h.below hb)
  clear h hm
  have hf' : ¬ 0 < f.length := (by omega)
  clear hf
  go_enter Tryd.func25, Tryd.ntmps25
  go_wp2_with (first | (go_at_call 34; refine Calls.mono (CM _ _) ?_; rintro e w1 ⟨rfl, hb⟩; obtain ⟨⟨a0, a1, a2⟩, hr, hz⟩ := bx3 hb; have hb' := below2 hb))
  clear CM
  go_region_held3 (fun w' => w'.cell? ⟨w.heap.size, 0, none⟩ = some (.int .i64 m) ∧ w'.cell? ⟨w.heap.size, 1, none⟩ = some (.slice p l.length c) ∧ w'.cell? ⟨w.heap.size, 2, none⟩ = some (.slice q f.length d)) (first | go_keep | exact ⟨b0, b1, b2⟩) (first | (go_at_call 46; refine Calls.mono (CC _ ?_) ?_; exact hb'.drew; rintro e w2 ⟨rfl, hb2⟩; have HB2 : Hid (Below w1.heap.size w1 w2) := ((Below.refl _ _).drew).trans hb2; have b0 := (HB2.out.cell (p := ⟨w.heap.size, 0, none⟩) (by simp; omega)).trans a0; have b1 := (HB2.out.cell (p := ⟨w.heap.size, 1, none⟩) (by simp; omega)).trans a1; have b2 := (HB2.out.cell (p := ⟨w.heap.size, 2, none⟩) (by simp; omega)).trans a2; have hs := atW HB2.out hr; obtain ⟨r0, r1, r2, rf, r3⟩ := cells3 hs))
  clear CC hb hb2
  go_wp2_with (first | (go_at_call 48; refine Calls.mono (CA _ (hb'.trans (HB2.out.mono hb'.size))) ?_; rintro e w3 ⟨G, H, rfl, ho⟩; have HO : Hid _ := ho; have hs3 := atW ho.b hs; obtain ⟨q0, q1, q2, qf, q3⟩ := cells3 hs3; clear ho))
  have hq := set3_heap (x' := .int .i64 m) (y' := .slice (some ⟨G, 0, none⟩) (l.length + 1) (l.length + 1)) (z' := .slice (some ⟨H, 0, none⟩) f.length f.length) hs3
  have HA := ((HO.out.from (hb'.trans (HB2.out.mono hb'.size))).set3 hs3 (by omega) (.int .i64 m) (.slice (some ⟨G, 0, none⟩) (l.length + 1) (l.length + 1)) (.slice (some ⟨H, 0, none⟩) f.length f.length)).below ((Below.refl _ _).alloc (Nat.le_refl _) (.cells #[.int .i64 m, .slice (some ⟨G, 0, none⟩) (l.length + 1) (l.length + 1), .slice (some ⟨H, 0, none⟩) f.length f.length] 25))
  obtain ⟨t0, t1, t2, _, _⟩ := cells3 ((heap_alloc_old (o := .cells #[.int .i64 m, .slice (some ⟨G, 0, none⟩) (l.length + 1) (l.length + 1), .slice (some ⟨H, 0, none⟩) f.length f.length] 25) (Array.getElem?_eq_some_iff.1 hq).1).trans hq)
  exact bodyPost_ret (v := .tuple #[.agg #[.int .i64 m, .slice (some ⟨G, 0, none⟩) (l.length + 1) (l.length + 1), .slice (some ⟨H, 0, none⟩) f.length f.length], .int .u64 (entV ((l.length : Int) + 1) 0), .int .i64 0]) (by simp [results, Tryd.results25, go_sem, t0, t1, t2]) rfl ⟨G, H, rfl, HA⟩
end Go.Proofs.YtaglhajlgnjhcaaDoor
