/- count: how many are alive. -/
import Derived.Test.YtaglhajlgnjhcaaDoorAlG
import Derived.RangeFuncBox
import Derived.Maps.AppendAt
namespace Go.Proofs.YtaglhajlgnjhcaaDoor
open Go.RowKit Go.Shelf
attribute [local go_sem] Oper.semAt_some

theorem three (w : World) (a b c : Obj) : (((w.alloc a).alloc b).alloc c).heap.size = w.heap.size + 3 := by simp

set_option maxRecDepth 100000 in
set_option maxHeartbeats 2000000 in
theorem count_any (m : Int) (p : Option Addr) (sl : List (Int × Bool)) (c : Nat) (q : Option Addr) (k d : Nat) (w : World) (hlen : sl.length < 1152921504606846976) (hS : SRow w.heap.size w p sl) :
    Calls Tryd.prog 46 #[.agg #[.int .i64 m, .slice p sl.length c, .slice q k d]] w fun e w' => e = .returned (.int .i64 (livN sl sl.length).length) ∧ Below w.heap.size w w' := by
  refine (callsIn_wide (n := 4)).1 ?_
  refine callsIn_of_wp_marks Tryd.func46 rfl trivial ?_ rfl
  simp only [Tryd.ntmps46, List.size_toArray, List.length_cons, List.length_nil, Nat.reduceAdd, Nat.reduceSub, Array.replicate_succ, Array.replicate_zero, List.push_toArray, List.append_toArray, List.nil_append, List.cons_append]
  have h42 : Fence.wide.fn 42 := trivial
  gi_wp2_with (gi_at_call 42; refine (callsIn_wide.2 (living_in m p sl.length c q k d _)).mono ?_; rintro e w' ⟨rfl, rfl⟩)
  have bN := (Boxed.new (w.alloc (.cells #[.int .i64 m, .slice p sl.length c, .slice q k d] 25)) 3 (.int .i64 0)).alloc (.cells #[.int .i64 m, .slice p sl.length c, .slice q k d] 25)
  rw [World.size_alloc] at bN
  have hB0 : Below w.heap.size w (((w.alloc (.cells #[.int .i64 m, .slice p sl.length c, .slice q k d] 25)).alloc (.cells #[.int .i64 0] 3)).alloc (.cells #[.int .i64 m, .slice p sl.length c, .slice q k d] 25)) := (((Below.refl _ w).alloc (Nat.le_refl _) _).alloc (by simp) _).alloc (by simp; omega) _
  have hst := living_stops 3 (by omega) (w.heap.size + 1 + 1) w.heap.size p sl c hlen (((w.alloc (.cells #[.int .i64 m, .slice p sl.length c, .slice q k d] 25)).alloc (.cells #[.int .i64 0] 3)).alloc (.cells #[.int .i64 m, .slice p sl.length c, .slice q k d] 25)) (by rw [three]; omega) (by rw [three]; omega) (World.cell?_alloc_at _ _ _ _ (by simp)) (hS.below hB0 (Nat.le_refl _))
  refine wpIn_rangeFunc_ownG rfl (by omega) (gf := 62) (lb := #[.pointer (some ⟨w.heap.size + 1 + 1, 0, none⟩)]) rfl trivial (enters_of Tryd.func62 (by kernel_rfl) rfl)
    hst belowK_t (belowK_b (by simp; omega)) (Below.refl _ _) (fun _ => rfl)
    (fun pre W => Boxed W (w.heap.size + 1) 3 (.int .i64 pre.length) ∧ Below w.heap.size w W)
    (fun _ _ _ => False)
    (OwnFrom.and (Own.from (boxed_own (w.heap.size + 1) 3 (fun pre : List Int => Value.int .i64 pre.length)) _) (ownFrom_below (Nat.le_refl _) (by simp; omega)))
    (fun _ _ _ _ _ hs _ _ => hs)
    ⟨bN, hB0⟩
    (fun x => { tmps := #[.agg #[.int .i64 m, .slice p sl.length c, .slice q k d], .pointer (some ⟨w.heap.size, 0, none⟩), .int .i64 0, .pointer (some ⟨w.heap.size + 1, 0, none⟩), .agg #[.int .i64 m, .slice p sl.length c, .slice q k d], .func (.func 62) #[] #[.pointer (some ⟨w.heap.size + 1 + 1, 0, none⟩)], .int .u64 x, undef, undef, undef], defers := [] }) ?assign ?body ?done ?stop
  case assign =>
    intro l x W K hK
    gi_wp2
    simpa using hK
  case body =>
    rintro l pre x W ⟨hv, hB⟩ hlt
    have hc := hv.cell
    have hf := hv.frozen
    gi_wp2
    exact ⟨(KeepsOthers.setCell _ _ _).from _, (Below.refl w.heap.size W).setCell (p := ⟨w.heap.size + 1, 0, none⟩) (by simp) _, by simpa using hv.set (.int .i64 ((pre ++ [x]).length : Nat)), hB.setCell (p := ⟨w.heap.size + 1, 0, none⟩) (by simp) _⟩
  case done =>
    rintro D ys W hD rfl ⟨hv, hB⟩ hK
    have hc := hv.cell
    gi_wp2
    refine ⟨by simp, .inl ⟨_, _, rfl, run_takeDeferred hK, ?_⟩⟩
    exact ⟨_, results_tmp rfl _ _ _, rfl, hB.trans (belowK_b (w := w) (Nat.le_refl _) W D _ _ (by simp at hD; omega) hK rfl rfl)⟩
  case stop =>
    rintro D c pre W _ _ h _
    exact h.elim
end Go.Proofs.YtaglhajlgnjhcaaDoor
