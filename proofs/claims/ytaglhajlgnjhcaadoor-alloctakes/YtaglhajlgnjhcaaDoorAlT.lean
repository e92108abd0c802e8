/- Give: an allocator that may not be; one that is not alive. -/
import Derived.Test.YtaglhajlgnjhcaaDoorAlR
import Derived.Test.YtaglhajlgnjhcaaDoorAlS
namespace Go.Proofs.YtaglhajlgnjhcaaDoor
open Go.RowKit

set_option maxRecDepth 20000 in
set_option maxHeartbeats 2000000 in
theorem give_bad (m : Int) (c d : Nat) (qi : Option Addr) (ids : List Int) (ci : Nat) (w : World) (p : Option Addr) (l : List (Int × Bool)) (q : Option Addr) (f : List Int) (h : AIn w p l q f) (hm : mayB m l f = false) :
    Calls Tryd.prog 29 #[.agg #[.int .i64 m, .slice p l.length c, .slice q f.length d], .slice qi ids.length ci] w fun e w' => e = .returned (.tuple #[.agg #[.int .i64 0, .slice none 0 0, .slice none 0 0], .int .i64 120]) ∧ Below w.heap.size w w' := by
  have CM := fun (o o' : Obj) => may_in m c d ((h.alloc o).alloc o')
  rw [hm] at CM
  clear h hm
  go_enter Tryd.func29, Tryd.ntmps29
  go_wp2_with (first | (go_at_call 34; refine Calls.mono (CM _ _) ?_; rintro e w1 ⟨rfl, hb⟩; obtain ⟨⟨a0, a1, a2⟩, hr, hz⟩ := bx3 hb; obtain ⟨r0, r1, r2, rf, r3⟩ := cells3 hr))
  obtain ⟨t0, t1, t2, _, _⟩ := cells3 (set3_heap (x' := .int .i64 0) (y' := .slice none 0 0) (z' := .slice none 0 0) hr)
  exact bodyPost_ret (v := .tuple #[.agg #[.int .i64 0, .slice none 0 0, .slice none 0 0], .int .i64 120]) (by simp [results, Tryd.results29, go_sem, t0, t1, t2]) rfl ⟨rfl, (((below2 hb).setCell (p := ⟨w.heap.size + 1, 0, none⟩) (by simp) _).setCell (p := ⟨w.heap.size + 1, 1, none⟩) (by simp) _).setCell (p := ⟨w.heap.size + 1, 2, none⟩) (by simp) _⟩

theorem bxcap {w w1 : World} {m : Int} {p : Option Addr} {l : List (Int × Bool)} {c : Nat} {q : Option Addr} {k d : Nat} (hS : SRow w.heap.size w p l) (hb : Below w.heap.size w w1) (a : w1.cell? ⟨w.heap.size, 0, none⟩ = some (.int .i64 m) ∧ w1.cell? ⟨w.heap.size, 1, none⟩ = some (.slice p l.length c) ∧ w1.cell? ⟨w.heap.size, 2, none⟩ = some (.slice q k d)) (hz : w.heap.size < w1.heap.size) :
    Cap w1 w.heap.size m p l c q k d := ⟨a.1, a.2.1, a.2.2, hz, (hS.below hb (Nat.le_refl _)).mono hb.size⟩

set_option maxRecDepth 20000 in
set_option maxHeartbeats 2000000 in
theorem give_dead (m : Int) (c d : Nat) (qi : Option Addr) (ids : List Int) (ci : Nat) (w : World) (p : Option Addr) (l : List (Int × Bool)) (q : Option Addr) (f : List Int) (h : AIn w p l q f) (hI : IRow .u64 w.heap.size w qi ids) (hid : idsOk ids) (hn : ids.length < 1152921504606846976) (hm : mayB m l f = true) (ha : allLive l ids = false) :
    Calls Tryd.prog 29 #[.agg #[.int .i64 m, .slice p l.length c, .slice q f.length d], .slice qi ids.length ci] w fun e w' => e = .returned (.tuple #[.agg #[.int .i64 0, .slice none 0 0, .slice none 0 0], .int .i64 122]) ∧ Below w.heap.size w w' := by
  have CM := fun (o o' : Obj) => may_in m c d ((h.alloc o).alloc o')
  rw [hm] at CM
  have CE := fun (w1 : World) (hb : Below w.heap.size w w1) (a) (hz) => every49 ids qi ci w.heap.size m p l c q f.length d w1 (bxcap h.s hb a hz) ((hI.below hb (Nat.le_refl _)).mono hb.size) hid (by have := h.ln; omega) hn
  rw [ha] at CE
  clear h hm ha hI hid
  go_enter Tryd.func29, Tryd.ntmps29
  go_wp2_with (first | (go_at_call 34; refine Calls.mono (CM _ _) ?_; rintro e w1 ⟨rfl, hb⟩; obtain ⟨⟨a0, a1, a2⟩, hr, hz⟩ := bx3 hb; obtain ⟨r0, r1, r2, rf, r3⟩ := cells3 hr) | (go_at_call 49; refine Calls.mono (CE _ (below2 hb) ⟨a0, a1, a2⟩ (by omega)) ?_; rintro e w2 ⟨rfl, hb2⟩; have hs := atW hb2 hr; obtain ⟨s0, s1, s2, sf, s3⟩ := cells3 hs))
  obtain ⟨t0, t1, t2, _, _⟩ := cells3 (set3_heap (x' := .int .i64 0) (y' := .slice none 0 0) (z' := .slice none 0 0) hs)
  exact bodyPost_ret (v := .tuple #[.agg #[.int .i64 0, .slice none 0 0, .slice none 0 0], .int .i64 122]) (by simp [results, Tryd.results29, go_sem, t0, t1, t2]) rfl ⟨rfl, ((((below2 hb).trans (hb2.mono (by omega))).setCell (p := ⟨w.heap.size + 1, 0, none⟩) (by simp) _).setCell (p := ⟨w.heap.size + 1, 1, none⟩) (by simp) _).setCell (p := ⟨w.heap.size + 1, 2, none⟩) (by simp) _⟩
end Go.Proofs.YtaglhajlgnjhcaaDoor
