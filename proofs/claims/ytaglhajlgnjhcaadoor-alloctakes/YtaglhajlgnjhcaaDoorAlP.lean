/- further: an index that was never used is taken. -/
import Derived.Test.YtaglhajlgnjhcaaDoorAlO
namespace Go.Proofs.YtaglhajlgnjhcaaDoor
open Go.RowKit

theorem heap_at {W : World} {o : Obj} {n : Nat} (h : n = W.heap.size) : (W.alloc o).heap[n]? = some o := by rw [h]; exact heap_alloc_new W o
theorem atW {W w1 : World} {n : Nat} {o : Obj} (hb : Below W.heap.size W w1) (h : W.heap[n]? = some o) : w1.heap[n]? = some o := (hb.block n (Array.getElem?_eq_some_iff.1 h).1).trans h
theorem srow_one {W : World} {b : Nat} (h : W.heap[b]? = some (.cells #[.int .i64 0, .bool true] 61 (0, 0))) : SRow W.heap.size W (some ⟨b, 0, none⟩) [(0, true)] := srow_heap (t := 61) h

theorem h3 (w : World) (a b o : Obj) : ((((w.alloc a).alloc b).alloc o).drew).heap[w.heap.size + 1 + 1]? = some o := heap_at (W := (w.alloc a).alloc b) (by simp)
theorem h4a (w : World) (a b o o' : Obj) : (((((w.alloc a).alloc b).alloc o).alloc o').drew).heap[w.heap.size + 1 + 1]? = some o := (heap_alloc_old (w := ((w.alloc a).alloc b).alloc o) (by simp)).trans (h3 w a b o)
theorem h4b (w : World) (a b o o' : Obj) : (((((w.alloc a).alloc b).alloc o).alloc o').drew).heap[w.heap.size + 1 + 1 + 1]? = some o' := heap_at (W := ((w.alloc a).alloc b).alloc o) (by simp)
theorem z4a {w w1 : World} {a b o o' : Obj} (hb : Below (((((w.alloc a).alloc b).alloc o).alloc o').drew).heap.size ((((w.alloc a).alloc b).alloc o).alloc o').drew w1) : w1.heap[w.heap.size + 1 + 1]? = some o := atW hb (h4a w a b o o')
theorem z4b {w w1 : World} {a b o o' : Obj} (hb : Below (((((w.alloc a).alloc b).alloc o).alloc o').drew).heap.size ((((w.alloc a).alloc b).alloc o).alloc o').drew w1) : w1.heap[w.heap.size + 1 + 1 + 1]? = some o' := atW hb (h4b w a b o o')
theorem Nx.below {w W W' : World} {m : Int} {l : List (Int × Bool)} {f : List Int} {x y z : Value} {B G H : Nat} (h : Nx w W m l f x y z B G H) (hb : Below W.heap.size W W') : Nx w W' m l f x y z B G H :=
  ⟨h.bx.below hb, atW hb h.hB, atW hb h.hG, atW hb h.hH, h.lB, h.lG, h.lH⟩
theorem Nx.own {w W : World} {m : Int} {l : List (Int × Bool)} {f : List Int} {x y z : Value} {B G H : Nat} (h : Nx w W m l f x y z B G H) (x' y' z' : Value) :
    AOwn w (((W.setCell ⟨w.heap.size + 1, 0, none⟩ x').setCell ⟨w.heap.size + 1, 1, none⟩ y').setCell ⟨w.heap.size + 1, 2, none⟩ z') G l H f := by
  have lG := h.lG
  have lH := h.lH
  exact ⟨(set3_other (by omega)).trans h.hG, ⟨[], by rw [List.append_nil]; exact (set3_other (by omega)).trans h.hH⟩, by omega, by omega, ((h.bx.b.setCell (p := ⟨w.heap.size + 1, 0, none⟩) (by simp) _).setCell (p := ⟨w.heap.size + 1, 1, none⟩) (by simp) _).setCell (p := ⟨w.heap.size + 1, 2, none⟩) (by simp) _⟩
theorem Nx.lateN {w w2 : World} {m : Int} {l : List (Int × Bool)} {f : List Int} {x y z : Value} {G H n : Nat} (hn : n = l.length) (K : BxA w w2 x y z) (hG : w2.heap[G]? = some (.cells (cellsS l).toArray 61 (0, 0))) (hH : w2.heap[H]? = some (.cells (cellsI .i64 f).toArray 3 (0, 0))) (lG : w.heap.size + 2 ≤ G) (lH : w.heap.size + 2 ≤ H) :
    Nx w (w2.alloc (.cells #[.int .i64 m, .slice (some ⟨G, 0, none⟩) n n, .slice (some ⟨H, 0, none⟩) f.length f.length] 25)) m l f x y z w2.heap.size G H := by
  subst hn; exact Nx.late K hG hH lG lH
theorem Nx.earlyN {w w2 : World} {m : Int} {l : List (Int × Bool)} {f : List Int} {x y z u v t : Value} {B G H n : Nat} (hn : n = l.length) (K : BxA w w2 x y z) (hB : w2.heap[B]? = some (.cells #[u, v, t] 25 (0, 0))) (hG : w2.heap[G]? = some (.cells (cellsS l).toArray 61 (0, 0))) (hH : w2.heap[H]? = some (.cells (cellsI .i64 f).toArray 3 (0, 0))) (lB : w.heap.size + 2 ≤ B) (lG : w.heap.size + 2 ≤ G) (lH : w.heap.size + 2 ≤ H) :
    Nx w (((w2.setCell ⟨B, 0, none⟩ (.int .i64 m)).setCell ⟨B, 1, none⟩ (.slice (some ⟨G, 0, none⟩) n n)).setCell ⟨B, 2, none⟩ (.slice (some ⟨H, 0, none⟩) f.length f.length)) m l f x y z B G H := by
  subst hn; exact Nx.early K hB hG hH lB lG lH
theorem s5 {W : World} {R B : Nat} {a0 a1 a2 a3 a4 : Value} (h1 : R ≠ B) (h2 : R ≠ 0) (d0 : W.cell? ⟨B, 0, none⟩ = some a0) (d1 : W.cell? ⟨B, 1, none⟩ = some a1) (d2 : W.cell? ⟨B, 2, none⟩ = some a2) (d3 : W.cell? ⟨0, 0, none⟩ = some a3) (d4 : W.cell? ⟨0, 1, none⟩ = some a4) (x y z : Value) :
    (((W.setCell ⟨R, 0, none⟩ x).setCell ⟨R, 1, none⟩ y).setCell ⟨R, 2, none⟩ z).cell? ⟨B, 0, none⟩ = some a0 ∧ (((W.setCell ⟨R, 0, none⟩ x).setCell ⟨R, 1, none⟩ y).setCell ⟨R, 2, none⟩ z).cell? ⟨B, 1, none⟩ = some a1 ∧ (((W.setCell ⟨R, 0, none⟩ x).setCell ⟨R, 1, none⟩ y).setCell ⟨R, 2, none⟩ z).cell? ⟨B, 2, none⟩ = some a2 ∧ (((W.setCell ⟨R, 0, none⟩ x).setCell ⟨R, 1, none⟩ y).setCell ⟨R, 2, none⟩ z).cell? ⟨0, 0, none⟩ = some a3 ∧ (((W.setCell ⟨R, 0, none⟩ x).setCell ⟨R, 1, none⟩ y).setCell ⟨R, 2, none⟩ z).cell? ⟨0, 1, none⟩ = some a4 :=
  ⟨set3far h1 d0, set3far h1 d1, set3far h1 d2, set3far h2 d3, set3far h2 d4⟩
theorem sK {w W : World} {x y z : Value} (hF : Fr w) (K : BxA w W x y z) : W.cell? ⟨w.heap.size, 0, none⟩ = some x ∧ W.cell? ⟨w.heap.size, 1, none⟩ = some y ∧ W.cell? ⟨w.heap.size, 2, none⟩ = some z ∧ W.cell? ⟨0, 0, none⟩ = some (.int .i64 0) ∧ W.cell? ⟨0, 1, none⟩ = some (.bool true) := by
  obtain ⟨a0, a1, a2, _, _⟩ := cells3 K.a
  obtain ⟨_, a4, a5⟩ := hF.below K.b hF.lt
  exact ⟨a0, a1, a2, a4, a5⟩

set_option maxRecDepth 20000 in
set_option maxHeartbeats 6000000 in
theorem further_any (m : Int) (c d : Nat) (w : World) (p : Option Addr) (l : List (Int × Bool)) (q : Option Addr) (f : List Int) (h : AIn w p l q f) :
    Calls Tryd.prog 48 #[.agg #[.int .i64 m, .slice p l.length c, .slice q f.length d]] w fun e w' => ∃ G H, e = .returned (.tuple #[.agg #[.int .i64 m, .slice (some ⟨G, 0, none⟩) (l.length + 1) (l.length + 1), .slice (some ⟨H, 0, none⟩) f.length f.length], .int .u64 (entV ((l.length : Int) + 1) 0)]) ∧ AOwn w w' G (l ++ [(0, true)]) H f := by
  have l1 := h.ln
  have l2 := h.fn
  have CS := fun (w1 : World) (b : Nat) (hb : BxA w w1 (.int .i64 m) (.slice p l.length c) (.slice q f.length d)) (hs : w1.heap[b]? = some (.cells #[.int .i64 0, .bool true] 61 (0, 0))) => own51 p l c (some ⟨b, 0, none⟩) [(0, true)] 1 w1 (h.below hb.b).s (srow_one hs) (by omega) (by simp)
  simp only [List.length_append, List.length_cons, List.length_nil, Nat.zero_add] at CS
  have CI := fun (w1 : World) (hb : BxA w w1 (.int .i64 m) (.slice p l.length c) (.slice q f.length d)) => own55n q f d none 0 w1 (h.below hb.b).i (by omega)
  have K0 : Hid (BxA w ((w.alloc (.cells #[.int .i64 m, .slice p l.length c, .slice q f.length d] 25)).alloc (.cells #[.int .i64 0, .slice none 0 0, .slice none 0 0] 25)).drew (.int .i64 m) (.slice p l.length c) (.slice q f.length d)) := BxA.start w _ _ _
  have T0 : Hid _ := sK h.fr K0.out
  have K3 : Hid (∀ o : Obj, BxA w (((w.alloc (.cells #[.int .i64 m, .slice p l.length c, .slice q f.length d] 25)).alloc (.cells #[.int .i64 0, .slice none 0 0, .slice none 0 0] 25)).alloc o).drew (.int .i64 m) (.slice p l.length c) (.slice q f.length d)) := fun o => K0.out.alloc o
  have K4 : Hid (∀ o o' : Obj, BxA w ((((w.alloc (.cells #[.int .i64 m, .slice p l.length c, .slice q f.length d] 25)).alloc (.cells #[.int .i64 0, .slice none 0 0, .slice none 0 0] 25)).alloc o).alloc o').drew (.int .i64 m) (.slice p l.length c) (.slice q f.length d)) := fun o o' => (K0.out.alloc o).alloc o'
  have T3 : Hid _ := fun (o : Obj) => sK h.fr (K3.out o)
  have T4 : Hid _ := fun (o o' : Obj) => sK h.fr (K4.out o o')
  have f0 := h.fr.c0
  have f1 := h.fr.c1
  have fl := h.fr.lt
  have HFr : Hid (Fr w) := h.fr
  have HL : Hid (l.length + 1 = (l ++ [((0 : Int), true)]).length) := (by simp [Hid])
  clear h
  go_enter Tryd.func48, Tryd.ntmps48
  go_wp2
  go_cut [4] (fun s4 wx => ∃ B G H, s4 = .pointer (some ⟨B, 0, none⟩) ∧ Nx w wx m (l ++ [(0, true)]) f (.int .i64 m) (.slice p l.length c) (.slice q f.length d) B G H)
  case first =>
    go_region_held3 (fun w' => w'.cell? ⟨w.heap.size, 0, none⟩ = some (.int .i64 m) ∧ w'.cell? ⟨w.heap.size, 1, none⟩ = some (.slice p l.length c) ∧ w'.cell? ⟨w.heap.size, 2, none⟩ = some (.slice q f.length d) ∧ w'.cell? ⟨0, 0, none⟩ = some (.int .i64 0) ∧ w'.cell? ⟨0, 1, none⟩ = some (.bool true)) (first | with_reducible exact T0.out | with_reducible exact T3.out _ | with_reducible exact T4.out _ _ | with_reducible exact ⟨b0, b1, b2, b4, b5⟩ | with_reducible exact ⟨a0, a1, a2, a4, a5⟩ | with_reducible exact T5.out _ | with_reducible exact T6.out _ | with_reducible exact ⟨set3far (by omega) b0, set3far (by omega) b1, set3far (by omega) b2, set3far (by omega) b4, set3far (by omega) b5⟩ | fail) (first | (go_at_call 51; refine Calls.mono (CS _ _ ?_ ?_) ?_; (first | with_reducible exact K3.out _ | with_reducible exact K4.out _ _); (first | exact h3 w _ _ _ | exact h4a w _ _ _ _ | exact h4b w _ _ _ _); rintro e w1 ⟨rfl, hz1, hb1⟩; have HZ1 : Hid _ := hz1; clear hz1; have K1 : BxA w w1 (.int .i64 m) (.slice p l.length c) (.slice q f.length d) := (by first | with_reducible exact (K3.out _).below hb1 | with_reducible exact (K4.out _ _).below hb1); obtain ⟨a0, a1, a2, _, a3⟩ := cells3 K1.a; obtain ⟨_, a4, a5⟩ := HFr.out.below K1.b fl; have T5 : Hid _ := fun (o : Obj) => sK HFr.out (K1.alloc o); (first | (have HY1 : Hid (w1.heap[w.heap.size + 1 + 1]? = some (.cells #[.int .i64 0, .slice none 0 0, .slice none 0 0] 25 (0, 0))) := z4a hb1; obtain ⟨y0, y1, y2, yf, y3⟩ := cells3 HY1.out) | (have HY1 : Hid (w1.heap[w.heap.size + 1 + 1 + 1]? = some (.cells #[.int .i64 0, .slice none 0 0, .slice none 0 0] 25 (0, 0))) := z4b hb1; obtain ⟨y0, y1, y2, yf, y3⟩ := cells3 HY1.out) | skip)) | (go_at_call 55; refine Calls.mono (CI _ ?_) ?_; (first | exact K1 | exact K1.alloc _); rintro e w2 ⟨rfl, hz2, hb2⟩; have HZ2 : Hid _ := hz2; clear hz2; have K2 : BxA w w2 (.int .i64 m) (.slice p l.length c) (.slice q f.length d) := (by first | exact K1.below hb2 | exact (K1.alloc _).below hb2); obtain ⟨b0, b1, b2, _, b3⟩ := cells3 K2.a; obtain ⟨_, b4, b5⟩ := HFr.out.below K2.b fl; have T6 : Hid _ := fun (o : Obj) => sK HFr.out (K2.alloc o); (first | (have HY3 : Hid _ := atW hb2 HY1.out; obtain ⟨x0, x1, x2, xf, x3⟩ := cells3 HY3.out) | (have HY3 : Hid (w2.heap[w1.heap.size]? = some (.cells #[.int .i64 0, .slice none 0 0, .slice none 0 0] 25 (0, 0))) := atW hb2 (heap_at rfl); obtain ⟨v0, v1, v2, vf, v3⟩ := cells3 HY3.out) | (have hb3 : Below w1.heap.size w1 w2 := hb2))))
    all_goals go_wp2
    all_goals go_meet
    · case rel =>
        have z1 := K1.z
        have g1 := (Array.getElem?_eq_some_iff.1 HZ1.out).1
        simp [World.drew] at g1
        exact ⟨w2.heap.size, w.heap.size + 1 + 1 + 1, w1.heap.size, rfl, Nx.lateN (m := m) (l := l ++ [(0, true)]) (f := f) (G := w.heap.size + 1 + 1 + 1) HL.out K2 ((hb2.block (w.heap.size + 1 + 1 + 1) (by omega)).trans (by simpa using HZ1.out)) HZ2.out (by omega) (by omega)⟩
    · case rel =>
        have z1 := K1.z
        have g1 := (Array.getElem?_eq_some_iff.1 HZ1.out).1
        simp [World.drew] at g1
        exact ⟨w1.heap.size, w.heap.size + 1 + 1 + 1, w1.heap.size + 1, rfl, Nx.earlyN (m := m) (l := l ++ [(0, true)]) (f := f) (G := w.heap.size + 1 + 1 + 1) HL.out K2 HY3.out ((hb2.block (w.heap.size + 1 + 1 + 1) (by simp; omega)).trans ((heap_alloc_old (by omega)).trans (by simpa using HZ1.out))) (by simpa using HZ2.out) (by omega) (by omega) (by omega)⟩
    · case rel =>
        have z1 := K1.z
        have g1 := (Array.getElem?_eq_some_iff.1 HZ1.out).1
        simp [World.drew] at g1
        exact ⟨w.heap.size + 1 + 1 + 1, w.heap.size + 1 + 1 + 1 + 1, w1.heap.size, rfl, Nx.earlyN (m := m) (l := l ++ [(0, true)]) (f := f) (G := w.heap.size + 1 + 1 + 1 + 1) HL.out K2 HY3.out ((hb2.block (w.heap.size + 1 + 1 + 1 + 1) (by omega)).trans (by simpa using HZ1.out)) HZ2.out (by omega) (by omega) (by omega)⟩
    · case rel =>
        have z1 := K1.z
        have g1 := (Array.getElem?_eq_some_iff.1 HZ1.out).1
        simp [World.drew] at g1
        exact ⟨w.heap.size + 1 + 1, w.heap.size + 1 + 1 + 1 + 1, w1.heap.size, rfl, Nx.earlyN (m := m) (l := l ++ [(0, true)]) (f := f) (G := w.heap.size + 1 + 1 + 1 + 1) HL.out K2 HY3.out ((hb2.block (w.heap.size + 1 + 1 + 1 + 1) (by omega)).trans (by simpa using HZ1.out)) HZ2.out (by omega) (by omega) (by omega)⟩
  case rest =>
    obtain ⟨B, G, H, rfl, hN⟩ := hcut
    have HN : Hid _ := hN
    clear hN CS CI K0 K3 K4 T0 T3 T4
    have CE := fun (w : World) => entity45 ((l.length : Int) + 1) 0 true w
    have lB := HN.out.lB
    obtain ⟨b0, b1, b2, _, b3⟩ := cells3 HN.out.hB
    obtain ⟨r0, r1, r2, rf, r3⟩ := cells3 HN.out.bx.r
    obtain ⟨_, c4, c5⟩ := HFr.out.below HN.out.bx.b fl
    have hRB : w.heap.size + 1 ≠ B := by omega
    have hR0 : w.heap.size + 1 ≠ 0 := by omega
    simp only [List.length_append, List.length_cons, List.length_nil, Nat.zero_add] at b1
    go_wp2
    go_region_held3 (fun w' => w'.cell? ⟨B, 0, none⟩ = some (.int .i64 m) ∧ w'.cell? ⟨B, 1, none⟩ = some (.slice (some ⟨G, 0, none⟩) (l.length + 1) (l.length + 1)) ∧ w'.cell? ⟨B, 2, none⟩ = some (.slice (some ⟨H, 0, none⟩) f.length f.length) ∧ w'.cell? ⟨0, 0, none⟩ = some (.int .i64 0) ∧ w'.cell? ⟨0, 1, none⟩ = some (.bool true)) (first | go_keep | with_reducible exact TT.out _ _ _) (first | (go_at_call 45; refine Calls.mono (CE _) ?_; rintro e w3 ⟨rfl, hb3⟩; have HZ : Hid _ := HN.out.below (((Below.refl _ wc).drew).trans hb3); obtain ⟨d0, d1, d2, _, d3⟩ := cells3 HZ.out.hB; simp only [List.length_append, List.length_cons, List.length_nil, Nat.zero_add] at d1; obtain ⟨_, e0, e1⟩ := HFr.out.below HZ.out.bx.b fl; obtain ⟨s0, s1, s2, sf, s3⟩ := cells3 HZ.out.bx.r; have TT : Hid _ := s5 (R := w.heap.size + 1) hRB hR0 d0 d1 d2 e0 e1))
    all_goals go_wp2
    obtain ⟨t0, t1, t2, _, _⟩ := cells3 (set3_heap (x' := .int .i64 m) (y' := .slice (some ⟨G, 0, none⟩) (l.length + 1) (l.length + 1)) (z' := .slice (some ⟨H, 0, none⟩) f.length f.length) HZ.out.bx.r)
    exact bodyPost_ret (v := .tuple #[.agg #[.int .i64 m, .slice (some ⟨G, 0, none⟩) (l.length + 1) (l.length + 1), .slice (some ⟨H, 0, none⟩) f.length f.length], .int .u64 (entV ((l.length : Int) + 1) 0)]) (by simp [results, Tryd.results48, go_sem, t0, t1, t2]) rfl ⟨G, H, rfl, HZ.out.own _ _ _⟩
end Go.Proofs.YtaglhajlgnjhcaaDoor
