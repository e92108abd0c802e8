/- Same, of the program and of the document's answer; the document's New. -/
import Derived.Test.YtaglhajlgnjhcaaDoorReD
namespace Go.Proofs.YtaglhajlgnjhcaaDoor
open Go.RowKit

theorem bx2 {w w1 : World} {x y z x' y' z' : Value} (hb : Below ((w.alloc (.cells #[x, y, z] 25)).alloc (.cells #[x', y', z'] 25)).heap.size ((w.alloc (.cells #[x, y, z] 25)).alloc (.cells #[x', y', z'] 25)) w1) :
    (w1.cell? ⟨w.heap.size, 0, none⟩ = some x ∧ w1.cell? ⟨w.heap.size, 1, none⟩ = some y ∧ w1.cell? ⟨w.heap.size, 2, none⟩ = some z) ∧ (w1.cell? ⟨w.heap.size + 1, 0, none⟩ = some x' ∧ w1.cell? ⟨w.heap.size + 1, 1, none⟩ = some y' ∧ w1.cell? ⟨w.heap.size + 1, 2, none⟩ = some z') ∧ w.heap.size + 1 < w1.heap.size := by
  obtain ⟨h1, h2, h3⟩ := bx3 hb
  obtain ⟨a, b, c, _, _⟩ := cells3 h2
  exact ⟨h1, ⟨a, b, c⟩, h3⟩

set_option maxRecDepth 20000 in
set_option maxHeartbeats 2000000 in
theorem same13 (m m' : Int) (c d c' d' : Nat) (w : World) (p p' : Option Addr) (l l' : List (Int × Bool)) (q q' : Option Addr) (f f' : List Int) (h : AIn w p l q f) (h' : AIn w p' l' q' f') :
    Calls Tryd.prog 13 #[.agg #[.int .i64 m, .slice p l.length c, .slice q f.length d], .agg #[.int .i64 m', .slice p' l'.length c', .slice q' f'.length d']] w fun e w' => e = .returned (.bool (sameB m l f m' l' f')) ∧ Below w.heap.size w w' := by
  have CS := fun (o o' : Obj) => equal37 p l c p' l' c' ((w.alloc o).alloc o') ((h.alloc o).alloc o').s ((h'.alloc o).alloc o').s h.ln
  have CI := fun (w1 : World) (hb : Below w.heap.size w w1) => equal38 q f d q' f' d' w1 (h.below hb).i (h'.below hb).i h.fn
  obtain ⟨v, hv⟩ : ∃ v, v = sameB m l f m' l' f' := ⟨_, rfl⟩
  rw [← hv]
  have HV : Hid (v = (decide (m = m') && (samS l l' && samI f f'))) := hv
  clear hv h h'
  obtain ⟨s, hs⟩ : ∃ s, s = samS l l' := ⟨_, rfl⟩
  obtain ⟨t, ht⟩ : ∃ t, t = samI f f' := ⟨_, rfl⟩
  rw [← hs] at CS HV
  rw [← ht] at CI HV
  clear hs ht
  by_cases hm : m = m'
  · subst hm
    cases s
    · go_enter Tryd.func13, Tryd.ntmps13
      go_wp2_with (first | (go_at_call 37; refine Calls.mono (CS _ _) ?_; rintro e w1 ⟨rfl, hb1⟩))
      go_ret
      exact ⟨ret_bool (by rw [HV.out]; simp), below2 hb1⟩
    · go_enter Tryd.func13, Tryd.ntmps13
      go_wp2_with (first | (go_at_call 37; refine Calls.mono (CS _ _) ?_; rintro e w1 ⟨rfl, hb1⟩; obtain ⟨⟨a0, a1, a2⟩, ⟨b0, b1, b2⟩, hz⟩ := bx2 hb1; have HB1 : Hid (Below w.heap.size w w1) := below2 hb1; clear hb1) | (go_at_call 38; refine Calls.mono (CI _ HB1.out) ?_; rintro e w2 ⟨rfl, hb2⟩))
      go_ret
      exact ⟨ret_bool (by rw [HV.out]; simp), HB1.out.trans (hb2.mono HB1.out.size)⟩
  · have hd : (m == m') = false := by simpa using hm
    have HM : Hid (decide (m = m') = false) := decide_eq_false hm
    go_enter Tryd.func13, Tryd.ntmps13
    go_wp2
    go_ret
    exact ⟨ret_bool (by rw [HV.out, HM.out]; rfl), ((Below.refl _ _).alloc (Nat.le_refl _) _).alloc (by simp) _⟩

theorem refNew16 (m : Int) (w : World) :
    Calls Tryd.prog 16 #[.int .i64 m] w fun e w' => ∃ G, e = .returned (.agg #[.int .i64 m, .slice (some ⟨G, 0, none⟩) 2 2, .slice none 0 0]) ∧ w.heap.size ≤ G ∧ SRow w'.heap.size w' (some ⟨G, 0, none⟩) [(0, true), (0, true)] ∧ Below w.heap.size w w' := by
  go_enter Tryd.func16, Tryd.ntmps16
  go_wp2
  exact bodyPost_ret (v := .agg #[.int .i64 m, .slice (some ⟨w.heap.size + 1, 0, none⟩) 2 2, .slice none 0 0]) (by simp [results, Tryd.results16, go_sem]) rfl ⟨w.heap.size + 1, rfl, by omega, srow_heap (l := [(0, true), (0, true)]) (t := 61) (heap_at (by simp)), ((Below.refl _ _).alloc (Nat.le_refl _) _).alloc (by simp) _⟩
end Go.Proofs.YtaglhajlgnjhcaaDoor
