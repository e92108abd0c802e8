/- again: the last index of Free is taken, by one generation more. -/
import Derived.Test.YtaglhajlgnjhcaaDoorAlN
namespace Go.Proofs.YtaglhajlgnjhcaaDoor
open Go.RowKit

theorem Ny.own {w W : World} {m : Int} {l : List (Int × Bool)} {f : List Int} {k : Nat} {g : Int} {x y z : Value} {B G H X : Nat} (h : Ny w W m l f k g x y z B G H X) (x' y' z' : Value) :
    AOwn w (((W.setCell ⟨w.heap.size + 1, 0, none⟩ x').setCell ⟨w.heap.size + 1, 1, none⟩ y').setCell ⟨w.heap.size + 1, 2, none⟩ z') G l H (f.take k) := by
  have lG := h.lG
  have lH := h.lH
  exact ⟨(set3_other (by omega)).trans h.hG, ⟨f.drop k, by rw [List.take_append_drop]; exact (set3_other (by omega)).trans h.hH⟩, by omega, by omega, ((h.bx.b.setCell (p := ⟨w.heap.size + 1, 0, none⟩) (by simp) _).setCell (p := ⟨w.heap.size + 1, 1, none⟩) (by simp) _).setCell (p := ⟨w.heap.size + 1, 2, none⟩) (by simp) _⟩
theorem AOwn.below {w W W' : World} {G H : Nat} {l : List (Int × Bool)} {f : List Int} (h : AOwn w W G l H f) (hb : Below W.heap.size W W') : AOwn w W' G l H f := by
  obtain ⟨r, hr⟩ := h.h
  exact ⟨(hb.block _ (Array.getElem?_eq_some_iff.1 h.g).1).trans h.g, ⟨r, (hb.block _ (Array.getElem?_eq_some_iff.1 hr).1).trans hr⟩, h.lg, h.lh, h.b.trans (hb.mono h.b.size)⟩
theorem cells2 {W : World} {b : Nat} {x y : Value} {t : TypeId} (h : W.heap[b]? = some (.cells #[x, y] t (0, 0))) : W.cell? ⟨b, 0, none⟩ = some x ∧ W.cell? ⟨b, 1, none⟩ = some y ∧ b < W.heap.size :=
  ⟨by simp [World.cell?, h], by simp [World.cell?, h], (Array.getElem?_eq_some_iff.1 h).1⟩

set_option maxRecDepth 20000 in
set_option maxHeartbeats 1000000 in
theorem again_any (m : Int) (c d : Nat) (w : World) (p : Option Addr) (l : List (Int × Bool)) (q : Option Addr) (f : List Int) (h : AIn w p l q f) (k j : Nat) (hf : f.length = k + 1) (hi : iG f k = (j : Int) + 1) (hj : j < l.length) (hg0 : 0 ≤ sG l j) (hg7 : sG l j ≤ 7) :
    Calls Tryd.prog 47 #[.agg #[.int .i64 m, .slice p l.length c, .slice q f.length d]] w fun e w' => ∃ G H, e = .returned (.tuple #[.agg #[.int .i64 m, .slice (some ⟨G, 0, none⟩) l.length l.length, .slice (some ⟨H, 0, none⟩) k k], .int .u64 (entV ((j : Int) + 1) (sG l j + 1))]) ∧ AOwn w w' G (l.set j (sG l j + 1, true)) H (f.take k) := by
  have HF : Hid (f.length = k + 1) := hf
  have HI : Hid (iG f k = (j : Int) + 1) := hi
  clear hf hi
  have l1 := h.ln
  have l2 := h.fn
  have CS := fun (w1 : World) (hb : BxA w w1 (.int .i64 m) (.slice p l.length c) (.slice q f.length d)) => own51n p l c none 0 w1 (h.below hb.b).s (by omega)
  have CI := fun (w1 : World) (hb : BxA w w1 (.int .i64 m) (.slice p l.length c) (.slice q f.length d)) => own55n q f d none 0 w1 (h.below hb.b).i (by omega)
  have K0 : Hid (BxA w ((w.alloc (.cells #[.int .i64 m, .slice p l.length c, .slice q f.length d] 25)).alloc (.cells #[.int .i64 0, .slice none 0 0, .slice none 0 0] 25)).drew (.int .i64 m) (.slice p l.length c) (.slice q f.length d)) := BxA.start w _ _ _
  clear h
  go_enter Tryd.func47, Tryd.ntmps47
  go_wp2
  go_cut [4] (fun s4 wx => ∃ B G H, s4 = .pointer (some ⟨B, 0, none⟩) ∧ Nx w wx m l f (.int .i64 m) (.slice p l.length c) (.slice q f.length d) B G H)
  case first =>
    go_region_held3 (fun w' => w'.cell? ⟨w.heap.size, 0, none⟩ = some (.int .i64 m) ∧ w'.cell? ⟨w.heap.size, 1, none⟩ = some (.slice p l.length c) ∧ w'.cell? ⟨w.heap.size, 2, none⟩ = some (.slice q f.length d)) (first | go_keep | exact ⟨set3far (by omega) b0, set3far (by omega) b1, set3far (by omega) b2⟩) (first | (go_at_call 51; refine Calls.mono (CS _ ?_) ?_; (first | exact K0.out | exact K0.out.alloc _); rintro e w1 ⟨rfl, hz1, hb1⟩; have HZ1 : Hid _ := hz1; clear hz1; have K1 : BxA w w1 (.int .i64 m) (.slice p l.length c) (.slice q f.length d) := (by first | exact K0.out.below hb1 | exact (K0.out.alloc _).below hb1); obtain ⟨a0, a1, a2, _, a3⟩ := cells3 K1.a; try (have HY1 : Hid (w1.heap[w.heap.size + 1 + 1]? = some (.cells #[.int .i64 0, .slice none 0 0, .slice none 0 0] 25 (0, 0))) := (by first | exact zboxd hb1 | exact zboxe hb1); obtain ⟨y0, y1, y2, yf, y3⟩ := cells3 HY1.out)) | (go_at_call 55; refine Calls.mono (CI _ ?_) ?_; (first | exact K1 | exact K1.alloc _); rintro e w2 ⟨rfl, hz2, hb2⟩; have HZ2 : Hid _ := hz2; clear hz2; have K2 : BxA w w2 (.int .i64 m) (.slice p l.length c) (.slice q f.length d) := (by first | exact K1.below hb2 | exact (K1.alloc _).below hb2); obtain ⟨b0, b1, b2, _, b3⟩ := cells3 K2.a; (first | (have HY3 : Hid (w2.heap[w.heap.size + 1 + 1]? = some (.cells #[.int .i64 0, .slice none 0 0, .slice none 0 0] 25 (0, 0))) := (hb2.block _ y3).trans HY1.out; obtain ⟨x0, x1, x2, xf, x3⟩ := cells3 HY3.out) | (have HY2 : Hid (w2.heap[w1.heap.size]? = some (.cells #[.int .i64 0, .slice none 0 0, .slice none 0 0] 25 (0, 0))) := zbox hb2; obtain ⟨v0, v1, v2, vf, v3⟩ := cells3 HY2.out) | (have hb3 : Below w1.heap.size w1 w2 := hb2))))
    all_goals go_wp2
    all_goals go_meet
    · case rel =>
        have z1 := K1.z
        have g1 := (Array.getElem?_eq_some_iff.1 HZ1.out).1
        simp [World.drew] at g1
        exact ⟨w2.heap.size, w.heap.size + 1 + 1, w1.heap.size, rfl, Nx.late K2 ((hb2.block (w.heap.size + 1 + 1) (by omega)).trans (by simpa using HZ1.out)) HZ2.out (by omega) (by omega)⟩
    · case rel =>
        have z1 := K1.z
        have g1 := (Array.getElem?_eq_some_iff.1 HZ1.out).1
        simp [World.drew] at g1
        exact ⟨w1.heap.size, w.heap.size + 1 + 1, w1.heap.size + 1, rfl, Nx.early K2 HY2.out ((hb2.block (w.heap.size + 1 + 1) (by simp; omega)).trans ((heap_alloc_old (by omega)).trans (by simpa using HZ1.out))) (by simpa using HZ2.out) (by omega) (by omega) (by omega)⟩
    · case rel =>
        have z1 := K1.z
        have g1 := (Array.getElem?_eq_some_iff.1 HZ1.out).1
        simp [World.drew] at g1
        exact ⟨w.heap.size + 1 + 1, w.heap.size + 1 + 1 + 1, w1.heap.size, rfl, Nx.early K2 HY3.out ((hb2.block (w.heap.size + 1 + 1 + 1) (by omega)).trans (by simpa using HZ1.out)) HZ2.out (by omega) (by omega) (by omega)⟩
  case rest =>
    obtain ⟨B, G, H, rfl, hN⟩ := hcut
    have HN : Hid _ := hN
    clear hN CS CI K0
    obtain ⟨c0, c1, c2, cf, c3⟩ := cells3 HN.out.hB
    obtain ⟨g0, g1, gf, g3⟩ := cellG HN.out.hG j hj
    obtain ⟨x0, xf, x3⟩ := cellH HN.out.hH k (by rw [HF.out]; omega)
    rw [HI.out] at x0
    have n1 := HN.out.neBG
    have n2 := HN.out.neBH
    have n3 := HN.out.neGH
    rw [HF.out] at c2 l2
    have CE := fun (w : World) => entity45 ((j : Int) + 1) (sG l j + 1) true w
    have HY : Hid _ := HN.out.step k j (sG l j + 1)
    go_wp2
    clear c0 c1 c2 cf c3 g0 g1 gf g3 x0 xf x3 HN
    generalize hW : ((((wc.setCell ⟨B, 2, none⟩ (.slice (some ⟨H, 0, none⟩) k k)).setCell ⟨G, j * 2, none⟩ (.int .i64 (sG l j + 1))).setCell ⟨G, j * 2 + 1, none⟩ (.bool true)).alloc (.cells #[.int .i64 (sG l j + 1), .bool true] 61)) = W6 at HY ⊢
    clear hW
    generalize wc.heap.size = X at HY ⊢
    have lB := HY.out.lB
    have lX := HY.out.lX
    obtain ⟨b0, b1, b2, _, b3⟩ := cells3 HY.out.hB
    obtain ⟨x0, x1, x3⟩ := cells2 HY.out.hX
    obtain ⟨r0, r1, r2, rf, r3⟩ := cells3 HY.out.bx.r
    rw [List.length_set] at b1
    go_region_held3 (fun w' => w'.cell? ⟨B, 0, none⟩ = some (.int .i64 m) ∧ w'.cell? ⟨B, 1, none⟩ = some (.slice (some ⟨G, 0, none⟩) l.length l.length) ∧ w'.cell? ⟨B, 2, none⟩ = some (.slice (some ⟨H, 0, none⟩) k k) ∧ w'.cell? ⟨X, 0, none⟩ = some (.int .i64 (sG l j + 1)) ∧ w'.cell? ⟨X, 1, none⟩ = some (.bool true)) (first | go_keep | exact ⟨set3far (by omega) b0, set3far (by omega) b1, set3far (by omega) b2, set3far (by omega) x0, set3far (by omega) x1⟩ | exact ⟨set3far (by omega) d0, set3far (by omega) d1, set3far (by omega) d2, set3far (by omega) e0, set3far (by omega) e1⟩) (first | (go_at_call 45; refine Calls.mono (CE _) ?_; rintro e w3 ⟨rfl, hb3⟩; (first | (have HZ : Hid _ := HY.out.below (((Below.refl _ W6).drew).trans hb3); obtain ⟨d0, d1, d2, _, d3⟩ := cells3 HZ.out.hB; rw [List.length_set] at d1; obtain ⟨e0, e1, e3⟩ := cells2 HZ.out.hX; obtain ⟨s0, s1, s2, sf, s3⟩ := cells3 HZ.out.bx.r) | skip)))
    all_goals go_wp2
    · obtain ⟨t0, t1, t2, _, _⟩ := cells3 (set3_heap (x' := .int .i64 m) (y' := .slice (some ⟨G, 0, none⟩) l.length l.length) (z' := .slice (some ⟨H, 0, none⟩) k k) HZ.out.bx.r)
      exact bodyPost_ret (v := .tuple #[.agg #[.int .i64 m, .slice (some ⟨G, 0, none⟩) l.length l.length, .slice (some ⟨H, 0, none⟩) k k], .int .u64 (entV ((j : Int) + 1) (sG l j + 1))]) (by simp [results, Tryd.results47, go_sem, t0, t1, t2]) rfl ⟨G, H, rfl, HZ.out.own _ _ _⟩
end Go.Proofs.YtaglhajlgnjhcaaDoor
