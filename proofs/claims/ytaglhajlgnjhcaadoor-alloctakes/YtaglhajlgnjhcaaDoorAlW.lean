/- New: slices.Repeat of the one slot, twice. -/
import Derived.Test.YtaglhajlgnjhcaaDoorAlR
import Derived.Test.YtaglhajlgnjhcaaDoorShelf
import Derived.BigRegion
namespace Go.Proofs.YtaglhajlgnjhcaaDoor
open Go.RowKit

set_option maxRecDepth 20000 in
set_option maxHeartbeats 1000000 in
theorem repeat40 (b : Nat) (w : World) (h : w.heap[b]? = some (.cells #[.int .i64 0, .bool true] 61 (0, 0))) :
    Calls Tryd.prog 40 #[.slice (some ⟨b, 0, none⟩) 1 1, .int .i64 2] w fun e w' => ∃ G, e = .returned (.slice (some ⟨G, 0, none⟩) 2 2) ∧ w.heap.size ≤ G ∧ w'.heap[G]? = some (.cells (cellsS [(0, true), (0, true)]).toArray 61 (0, 0)) ∧ Below w.heap.size w w' := by
  have CM := fun (w : World) => Tryd.bits_Mul 1 2 (by omega) (by omega) w
  simp only [Nat.reduceMul, Nat.reduceDiv, Nat.reduceMod] at CM
  obtain ⟨i0, hi, hz0, hz1, hz2⟩ := info_parts Tryd.info61
  have HH : Hid _ := h
  clear h
  go_enter Tryd.func40, Tryd.ntmps40
  go_wp2_with (first | (go_at_call 61; refine Calls.mono (CM _) ?_; rintro e w0 ⟨rfl, rfl⟩) | (at_make; refine wpList_make_full _ rfl _ _ 22 rfl w0.heap.size 61 i0 (.agg #[.int .i64 0, .bool false]) 2 Tryd.underlying22 hi hz0 hz1 .i64 .i64 _ _ 2 rfl rfl rfl rfl (by rw [hz2]; omega) (by unfold maxLen; omega) (by simp) ?_; intro w1 hown hgrow; clear hi hz0 hz1 hz2; obtain ⟨Z, HZ, HZl, hb1⟩ := made_row hown hgrow; clear hown hgrow))
  obtain ⟨w2, hr2, HZ2, hb2⟩ := copyK_ex (P := Tryd.prog) w1 22 22 3 61 2 Tryd.underlying22 Tryd.size61 (some ⟨w0.heap.size, 0, none⟩) (some ⟨b, 0, none⟩) 2 2 1 1 w0.heap.size 0 Z 61 HZ.out (cellsS [(0, true)]) 1 (by simp) rfl (fun _ => ⟨rfl, _, rfl, cellsS_src (l := [(0, true)]) (fun k hk => by have := cellG (l := [(0, true)]) (t := 61) (atW hb1 HH.out) k hk; rw [Nat.zero_add]; exact ⟨this.1, this.2.1⟩)⟩) (by rw [HZl.out]; simp [cellsS]) (cellsS_one _) w0.heap.size w0 hb1 (Nat.le_refl _)
  rw [hr2]
  clear hr2
  go_wp2
  go_loopw [8] (fun n wr => Below w0.heap.size w0 wr ∧ ((n = .int .i64 1 ∧ wr.heap[w0.heap.size]? = some (.cells (splice Z 0 (cellsS [(0, true)])).toArray 61 (0, 0))) ∨ (n = .int .i64 2 ∧ wr.heap[w0.heap.size]? = some (.cells (cellsS [(0, true), (0, true)]).toArray 61 (0, 0))))) (fun n _ => 2 - (intOf n).toNat)
  case atStart => exact ⟨hb2, .inl ⟨rfl, HZ2.out⟩⟩
  case round =>
    obtain ⟨hbr, ⟨rfl, hg⟩ | ⟨rfl, hg⟩⟩ := hrel
    · have HG : Hid _ := hg
      clear hg
      obtain ⟨z0, z1, z2, z3, hZ⟩ : ∃ z0 z1 z2 z3, Z = [z0, z1, z2, z3] := by
        have := HZl.out
        match Z, this with
        | [z0, z1, z2, z3], _ => exact ⟨z0, z1, z2, z3, rfl⟩
      subst hZ
      have hc0 : wr.cell? ⟨w0.heap.size, 0, none⟩ = some (.int .i64 0) := by simp [World.cell?, HG.out, splice, cellsS]
      have hc1 : wr.cell? ⟨w0.heap.size, 1, none⟩ = some (.bool true) := by simp [World.cell?, HG.out, splice, cellsS]
      obtain ⟨w5, hr5, HZ5, hb5⟩ := copyK_ex (P := Tryd.prog) wr.drew 22 22 3 61 2 Tryd.underlying22 Tryd.size61 (some ⟨w0.heap.size, 2, none⟩) (some ⟨w0.heap.size, 0, none⟩) 1 1 1 2 w0.heap.size 2 _ 61 HG.out (cellsS [(0, true)]) 1 (by simp) rfl (fun _ => ⟨rfl, _, rfl, cellsS_src (l := [(0, true)]) (fun k hk => by obtain rfl : k = 0 := (by simpa using hk); exact ⟨hc0, hc1⟩)⟩) (by simp [splice, cellsS]) (cellsS_one _) w0.heap.size w0 hbr.drew (Nat.le_refl _)
      clear hc0 hc1
      go_wp2
      go_region
      all_goals go_wp2
      all_goals go_roundw
      case rel => exact ⟨hb5, .inr ⟨by go_num, by rw [HZ5.out]; simp [splice, cellsS]⟩⟩
      case measure => simp [intOf]
    · have HG : Hid _ := hg
      clear hg
      go_wp2
      go_ret
      exact ⟨_, rfl, Nat.le_refl _, HG.out, hbr⟩

theorem new_bad (m : Int) (w : World) (hm : mostB m = false) :
    Calls Tryd.prog 15 #[.int .i64 m] w fun e w' => e = .returned (.tuple #[.agg #[.int .i64 0, .slice none 0 0, .slice none 0 0], .int .i64 2]) ∧ Below w.heap.size w w' := by
  have CM := fun (w : World) => isMost_any m w
  rw [hm] at CM
  clear hm
  go_enter Tryd.func15, Tryd.ntmps15
  go_wp2_with (first | (go_at_call 39; refine Calls.mono (CM _) ?_; rintro e w1 ⟨rfl, rfl⟩))
  exact bodyPost_ret (v := .tuple #[.agg #[.int .i64 0, .slice none 0 0, .slice none 0 0], .int .i64 2]) (by simp [results, Tryd.results15, go_sem]) rfl ⟨rfl, (Below.refl _ _).alloc (Nat.le_refl _) _⟩

set_option maxRecDepth 20000 in
set_option maxHeartbeats 1000000 in
theorem new_any (m : Int) (w : World) (hF : Fr w) (hm : mostB m = true) :
    Calls Tryd.prog 15 #[.int .i64 m] w fun e w' => ∃ G, e = .returned (.tuple #[.agg #[.int .i64 m, .slice (some ⟨G, 0, none⟩) 2 2, .slice none 0 0], .int .i64 0]) ∧ w.heap.size ≤ G ∧ w'.heap[G]? = some (.cells (cellsS [(0, true), (0, true)]).toArray 61 (0, 0)) ∧ Below w.heap.size w w' := by
  have CM := fun (w : World) => isMost_any m w
  rw [hm] at CM
  have f0 := hF.c0
  have f1 := hF.c1
  have fl := hF.lt
  clear hm hF
  have hh : ∀ (a : Obj), (((w.alloc a).alloc (.cells #[.int .i64 0, .bool true] 61))).heap[w.heap.size + 1]? = some (.cells #[.int .i64 0, .bool true] 61 (0, 0)) := fun a => heap_at (by simp)
  have CR := fun (a : Obj) => repeat40 (w.heap.size + 1) ((w.alloc a).alloc (.cells #[.int .i64 0, .bool true] 61)) (hh a)
  go_enter Tryd.func15, Tryd.ntmps15
  go_wp2_with (first | (go_at_call 39; refine Calls.mono (CM _) ?_; rintro e w1 ⟨rfl, rfl⟩) | (go_at_call 40; refine Calls.mono (CR _) ?_; rintro e w2 ⟨G, rfl, hG, hg, hb⟩; have HG : Hid _ := hg; clear hg; have hs : w2.heap[w.heap.size]? = some (.cells #[.int .i64 0, .slice none 0 0, .slice none 0 0] 25 (0, 0)) := atW hb ((heap_alloc_old (by simp)).trans (heap_at rfl)); obtain ⟨r0, r1, r2, rf, r3⟩ := cells3 hs))
  obtain ⟨t0, t1, t2, _, _⟩ := cells3 (set3_heap (x' := .int .i64 m) (y' := .slice (some ⟨G, 0, none⟩) 2 2) (z' := .slice none 0 0) hs)
  simp at hG
  exact bodyPost_ret (v := .tuple #[.agg #[.int .i64 m, .slice (some ⟨G, 0, none⟩) 2 2, .slice none 0 0], .int .i64 0]) (by simp [results, Tryd.results15, go_sem, t0, t1, t2]) rfl ⟨G, rfl, by omega, (set3_other (by omega)).trans HG.out, (((below2 hb).setCell (p := ⟨w.heap.size, 0, none⟩) (by simp) _).setCell (p := ⟨w.heap.size, 1, none⟩) (by simp) _).setCell (p := ⟨w.heap.size, 2, none⟩) (by simp) _⟩
end Go.Proofs.YtaglhajlgnjhcaaDoor
