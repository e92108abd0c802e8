/- wakes: the layer does something. -/
import Derived.Test.YtaglhajlgnjhcaaDoorAlU
import Derived.Test.YtaglhajlgnjhcaaDoorAlV
import Derived.Test.YtaglhajlgnjhcaaDoorAlW
namespace Go.Proofs.YtaglhajlgnjhcaaDoor
open Go.RowKit

def L2 : List (Int × Bool) := [(0, true), (0, true)]
def L3 : List (Int × Bool) := [(0, true), (0, true), (0, true)]
def L3d : List (Int × Bool) := [(0, true), (0, true), (0, false)]
def L3e : List (Int × Bool) := [(0, true), (0, true), (1, true)]

theorem AOwn.inW {w w' : World} {G H : Nat} {l : List (Int × Bool)} {f : List Int} (h : AOwn w w' G l H f) (hF : Fr w') (h1 : l.length ≤ 8796093022208) (h2 : f.length ≤ 8796093022208) : AIn w' (some ⟨G, 0, none⟩) l (some ⟨H, 0, none⟩) f := by
  obtain ⟨r, hr⟩ := h.h
  exact ⟨hF, srow_heap h.g, irow_heap hr, h1, h2⟩
theorem w_take1 (G : Nat) (W : World) (hF : Fr W) (hg : W.heap[G]? = some (.cells (cellsS L2).toArray 61 (0, 0))) :
    Calls Tryd.prog 25 #[.agg #[.int .i64 1, .slice (some ⟨G, 0, none⟩) 2 2, .slice none 0 0]] W fun e w' => ∃ G' H', e = .returned (.tuple #[.agg #[.int .i64 1, .slice (some ⟨G', 0, none⟩) 3 3, .slice (some ⟨H', 0, none⟩) 0 0], .int .u64 3, .int .i64 0]) ∧ AOwn W w' G' L3 H' [] := by
  have h := take_further 1 2 0 W (some ⟨G, 0, none⟩) L2 none [] ⟨hF, srow_heap hg, IRow.nil, by decide, by decide⟩ (by decide) (by decide) rfl (by decide)
  rw [show entV ((L2.length : Int) + 1) 0 = 3 by decide] at h
  exact h
theorem w_take2 (G H : Nat) (W w0 : World) (hF : Fr W) (ha : AOwn w0 W G L3 H []) :
    Calls Tryd.prog 25 #[.agg #[.int .i64 1, .slice (some ⟨G, 0, none⟩) 3 3, .slice (some ⟨H, 0, none⟩) 0 0]] W fun e w' => e = .returned (.tuple #[.agg #[.int .i64 0, .slice none 0 0, .slice none 0 0], .int .u64 0, .int .i64 6]) ∧ Below W.heap.size W w' :=
  take_full 1 3 0 W (some ⟨G, 0, none⟩) L3 (some ⟨H, 0, none⟩) [] (ha.inW hF (by decide) (by decide)) (by decide) (by decide)
theorem w_give (G H b : Nat) (W w0 : World) (hF : Fr W) (ha : AOwn w0 W G L3 H []) (hb : W.heap[b]? = some (.cells #[.int .u64 3] 41 (0, 0))) :
    Calls Tryd.prog 29 #[.agg #[.int .i64 1, .slice (some ⟨G, 0, none⟩) 3 3, .slice (some ⟨H, 0, none⟩) 0 0], .slice (some ⟨b, 0, none⟩) 1 1] W fun e w' => ∃ G' H', e = .returned (.tuple #[.agg #[.int .i64 1, .slice (some ⟨G', 0, none⟩) 3 3, .slice (some ⟨H', 0, none⟩) 1 1], .int .i64 0]) ∧ AOwn W w' G' L3d H' [3] := by
  have hI : IRow .u64 W.heap.size W (some ⟨b, 0, none⟩) [3] := irow_heap (f := [3]) (r := []) (t := 41) hb
  have h := give_run 1 3 0 (some ⟨b, 0, none⟩) [3] 1 W (some ⟨G, 0, none⟩) L3 (some ⟨H, 0, none⟩) [] (ha.inW hF (by decide) (by decide)) hI (fun k hk => by obtain rfl : k = 0 := (by simpa using hk); exact ⟨by decide, by decide⟩) (by decide) (by decide) (by decide)
  rw [show gRun L3 [3] ([3] : List Int).length = some (L3d, [3]) by decide] at h
  refine h.mono ?_
  rintro e w' ⟨G', H', rfl, ho⟩
  have es : ([] : List Int) ++ srt [3] = [3] := by simp [srt]
  rw [es] at ho ⊢
  exact ⟨G', H', rfl, ho⟩
theorem w_take3 (G H : Nat) (W w0 : World) (hF : Fr W) (ha : AOwn w0 W G L3d H [3]) :
    Calls Tryd.prog 25 #[.agg #[.int .i64 1, .slice (some ⟨G, 0, none⟩) 3 3, .slice (some ⟨H, 0, none⟩) 1 1]] W fun e w' => ∃ G' H', e = .returned (.tuple #[.agg #[.int .i64 1, .slice (some ⟨G', 0, none⟩) 3 3, .slice (some ⟨H', 0, none⟩) 0 0], .int .u64 4294967299, .int .i64 0]) ∧ AOwn W w' G' L3e H' [] := by
  have h := take_again 1 3 1 W (some ⟨G, 0, none⟩) L3d (some ⟨H, 0, none⟩) [3] (ha.inW hF (by decide) (by decide)) (by decide) (by decide) 0 2 rfl (by decide) (by decide)
  rw [show entV (((2 : Nat) : Int) + 1) (sG L3d 2 + 1) = 4294967299 by decide] at h
  exact h
theorem w_alive (G H : Nat) (W w0 : World) (hF : Fr W) (ha : AOwn w0 W G L3e H []) :
    Calls Tryd.prog 22 #[.agg #[.int .i64 1, .slice (some ⟨G, 0, none⟩) 3 3, .slice (some ⟨H, 0, none⟩) 0 0], .int .u64 4294967299] W fun e w' => e = .returned (.bool true) ∧ Below W.heap.size W w' := by
  have h := alive_any 1 3 0 4294967299 W (some ⟨G, 0, none⟩) L3e (some ⟨H, 0, none⟩) [] (ha.inW hF (by decide) (by decide)) (by decide) (by decide)
  rw [show aliveM 1 L3e [] 4294967299 = true by decide] at h
  exact h
theorem w_dead (G H : Nat) (W w0 : World) (hF : Fr W) (ha : AOwn w0 W G L3e H []) :
    Calls Tryd.prog 22 #[.agg #[.int .i64 1, .slice (some ⟨G, 0, none⟩) 3 3, .slice (some ⟨H, 0, none⟩) 0 0], .int .u64 3] W fun e w' => e = .returned (.bool false) ∧ Below W.heap.size W w' := by
  have h := alive_any 1 3 0 3 W (some ⟨G, 0, none⟩) L3e (some ⟨H, 0, none⟩) [] (ha.inW hF (by decide) (by decide)) (by decide) (by decide)
  rw [show aliveM 1 L3e [] 3 = false by decide] at h
  exact h
theorem w_all (G H : Nat) (W w0 : World) (hF : Fr W) (ha : AOwn w0 W G L3e H []) :
    Calls Tryd.prog 20 #[.agg #[.int .i64 1, .slice (some ⟨G, 0, none⟩) 3 3, .slice (some ⟨H, 0, none⟩) 0 0]] W fun e w' => ∃ p c, e = .returned (.slice p 3 c) ∧ Below W.heap.size W w' := by
  have hi := ha.inW hF (by decide) (by decide)
  have h := all_any 1 (some ⟨G, 0, none⟩) L3e 3 (some ⟨H, 0, none⟩) [] 0 W hi.fr hi.s hi.i (by decide) (by decide)
  refine h.mono ?_
  rintro e w' ⟨v, rfl, ho, hb⟩
  rw [show (allM 1 L3e []).length = 3 by decide] at ho
  rcases ho.2 with ⟨_, h0⟩ | ⟨g, cap, cur, rfl, _⟩
  · cases h0
  · exact ⟨_, _, rfl, hb⟩

set_option maxRecDepth 20000 in
set_option maxHeartbeats 2000000 in
theorem wakes_any (w : World) (hF : Fr w) : Calls Tryd.prog 9 #[] w fun e w' => e = .returned (.bool true) ∧ Below w.heap.size w w' := by
  have CN := new_any 1 w hF (by decide)
  have HF : Hid (Fr w) := hF
  clear hF
  go_enter Tryd.func9, Tryd.ntmps9
  go_wp2_with (first
    | (go_at_call 15; refine Calls.mono CN ?_; clear CN; rintro e w1 ⟨G1, rfl, hG1, hg1, hb1⟩; have HB1 : Hid (Below w.heap.size w w1) := hb1; have HG1 : Hid _ := hg1; clear hg1; have T1 := fun (o : Obj) => w_take1 G1 (w1.alloc o) ((HF.out.below hb1 HF.out.lt).alloc o) ((heap_alloc_old (Array.getElem?_eq_some_iff.1 HG1.out).1).trans HG1.out))
    | (go_at_call 25; refine Calls.mono (T1 _) ?_; clear T1; rintro e w2 ⟨G2, H2, rfl, ho2⟩; have HO2 : Hid _ := ho2; clear ho2; have HB2 : Hid (Below w.heap.size w w2) := HB1.out.trans ((below1 HO2.out.b).mono HB1.out.size); have T2 := fun (o : Obj) => w_take2 G2 H2 (w2.alloc o) _ ((HF.out.below HB2.out HF.out.lt).alloc o) (HO2.out.below ((Below.refl _ _).alloc (Nat.le_refl _) o)))
    | (go_at_call 25; refine Calls.mono (T2 _) ?_; clear T2; rintro e w3 ⟨rfl, hb3⟩; have HB23 : Hid (Below w2.heap.size w2 w3) := below1 hb3; have HB3 : Hid (Below w.heap.size w w3) := HB2.out.trans (HB23.out.mono HB2.out.size); obtain ⟨b0, b1, b2, hz3⟩ := box3 hb3; have HO3 : Hid _ := HO2.out.below HB23.out; have T3 := fun (o : Obj) => w_give G2 H2 (w3.heap.size + 1) ((w3.alloc o).alloc (.cells #[.int .u64 3] 41)) _ (((HF.out.below HB3.out HF.out.lt).alloc o).alloc _) ((HO3.out.below ((Below.refl _ _).alloc (Nat.le_refl _) o)).below ((Below.refl _ _).alloc (Nat.le_refl _) _)) (heap_at (by simp)))
    | (go_at_call 29; refine Calls.mono (T3 _) ?_; clear T3; rintro e w4 ⟨G4, H4, rfl, ho4⟩; have HO4 : Hid _ := ho4; clear ho4; have HB4 : Hid (Below w.heap.size w w4) := HB3.out.trans ((below2 HO4.out.b).mono HB3.out.size); have T4 := fun (o : Obj) => w_take3 G4 H4 (w4.alloc o) _ ((HF.out.below HB4.out HF.out.lt).alloc o) (HO4.out.below ((Below.refl _ _).alloc (Nat.le_refl _) o)))
    | (go_at_call 25; refine Calls.mono (T4 _) ?_; clear T4; rintro e w5 ⟨G5, H5, rfl, ho5⟩; have HO5 : Hid _ := ho5; clear ho5; have HB5 : Hid (Below w.heap.size w w5) := HB4.out.trans ((below1 HO5.out.b).mono HB4.out.size); have T5 := fun (o : Obj) => w_alive G5 H5 (w5.alloc o) _ ((HF.out.below HB5.out HF.out.lt).alloc o) (HO5.out.below ((Below.refl _ _).alloc (Nat.le_refl _) o)))
    | (go_at_call 22; refine Calls.mono (T5 _) ?_; clear T5; rintro e w6 ⟨rfl, hb6⟩; have HB56 : Hid (Below w5.heap.size w5 w6) := below1 hb6; have HB6 : Hid (Below w.heap.size w w6) := HB5.out.trans (HB56.out.mono HB5.out.size); obtain ⟨d0, d1, d2, hz6⟩ := box3 hb6; have HC6 : Hid _ := hb6; have T6 := w_dead G5 H5 w6 _ (HF.out.below HB6.out HF.out.lt) (HO5.out.below HB56.out))
    | (go_at_call 22; refine Calls.mono T6 ?_; clear T6; rintro e w7 ⟨rfl, hb7⟩; have HB67 : Hid (Below w6.heap.size w6 w7) := hb7; have HB7 : Hid (Below w.heap.size w w7) := HB6.out.trans (hb7.mono HB6.out.size); obtain ⟨f0, f1, f2, hz7⟩ := box3 (HC6.out.trans (hb7.mono HC6.out.size)); have T7 := w_all G5 H5 w7 _ (HF.out.below HB7.out HF.out.lt) ((HO5.out.below HB56.out).below hb7))
    | (go_at_call 20; refine Calls.mono T7 ?_; clear T7; rintro e w8 ⟨pp, cc, rfl, hb8⟩))
  go_ret
  exact ⟨rfl, HB7.out.trans (hb8.mono HB7.out.size)⟩
end Go.Proofs.YtaglhajlgnjhcaaDoor
