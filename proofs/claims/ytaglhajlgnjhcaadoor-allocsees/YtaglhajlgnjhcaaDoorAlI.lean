/- All: those that are alive, by their indexes. -/
import Derived.Test.YtaglhajlgnjhcaaDoorAlH
namespace Go.Proofs.YtaglhajlgnjhcaaDoor
open Go.RowKit Go.Shelf
attribute [local go_sem] Oper.semAt_some

theorem Tryd.info41 : (Tryd.prog.info? 41).map (fun i => (i.zero, i.size, i.bytes)) = some (some (.int .u64 0), 1, 8) := by kernel_rfl
theorem two (w : World) (a b : Obj) : ((w.alloc a).alloc b).heap.size = w.heap.size + 2 := by simp

theorem box3 {w w1 : World} {x y z : Value} {t : TypeId} (hb : Below (w.alloc (.cells #[x, y, z] t)).heap.size (w.alloc (.cells #[x, y, z] t)) w1) :
    w1.cell? ⟨w.heap.size, 0, none⟩ = some x ∧ w1.cell? ⟨w.heap.size, 1, none⟩ = some y ∧ w1.cell? ⟨w.heap.size, 2, none⟩ = some z ∧ w.heap.size < w1.heap.size := by
  refine ⟨(hb.cell (p := ⟨w.heap.size, 0, none⟩) (by simp)).trans (by simp), (hb.cell (p := ⟨w.heap.size, 1, none⟩) (by simp)).trans (by simp), (hb.cell (p := ⟨w.heap.size, 2, none⟩) (by simp)).trans (by simp), ?_⟩
  have := hb.size; simp at this; omega

/-- What All answers. -/
def allM (m : Int) (l : List (Int × Bool)) (f : List Int) : List Int := if mayB m l f then livN l l.length else []

set_option maxRecDepth 100000 in
set_option maxHeartbeats 2000000 in
theorem all_any (m : Int) (p : Option Addr) (sl : List (Int × Bool)) (c : Nat) (q : Option Addr) (f : List Int) (d : Nat) (w : World) (hF : Fr w) (hS : SRow w.heap.size w p sl) (hI : IRow .i64 w.heap.size w q f) (hn : sl.length ≤ 8796093022208) (hfn : f.length < 1152921504606846976) :
    Calls Tryd.prog 20 #[.agg #[.int .i64 m, .slice p sl.length c, .slice q f.length d]] w fun e w' => ∃ v, e = .returned v ∧ w'.ownsRow w.heap.size 41 1 v (allM m sl f).length ((allM m sl f).map (Value.int .u64)) ∧ Below w.heap.size w w' := by
  obtain ⟨i0, hi, hz0, hz1, hz2⟩ := info_parts Tryd.info41
  have CM := fun (o : Obj) => mayBe_any m sl f p c q d (w.alloc o) (hF.alloc o) ((hS.below ((Below.refl w.heap.size w).alloc (Nat.le_refl _) o) (Nat.le_refl _)).mono (by simp)) ((hI.below ((Below.refl w.heap.size w).alloc (Nat.le_refl _) o) (Nat.le_refl _)).mono (by simp)) (by omega) hfn
  cases hm : mayB m sl f
  · rw [hm] at CM
    have HM : Hid (mayB m sl f = false) := hm
    have HR : Hid (allM m sl f = []) := by unfold Hid allM; rw [hm]; rfl
    clear hm
    rw [HR.out]
    go_enter Tryd.func20, Tryd.ntmps20
    go_wp2_with (first | (go_at_call 34; refine Calls.mono (CM _) ?_; rintro e w1 ⟨rfl, hb⟩))
    go_ret
    exact ⟨_, rfl, World.ownsRow_nil _ _ _ _, below1 hb⟩
  · rw [hm] at CM
    have HM : Hid (mayB m sl f = true) := hm
    have HR : Hid (allM m sl f = livN sl sl.length) := by unfold Hid allM; rw [hm]; rfl
    clear hm
    rw [HR.out]
    refine (callsIn_wide (n := 4)).1 ?_
    refine callsIn_of_wp_marks Tryd.func20 rfl trivial ?_ rfl
    simp only [Tryd.ntmps20, List.size_toArray, List.length_cons, List.length_nil, Nat.reduceAdd, Nat.reduceSub, Array.replicate_succ, Array.replicate_zero, List.push_toArray, List.append_toArray, List.nil_append, List.cons_append]
    have h42 : Fence.wide.fn 42 := trivial
    have h34 : Fence.wide.fn 34 := trivial
    gi_wp2_with (first | (gi_at_call 34; refine (callsIn_wide.2 (CM _)).mono ?_; rintro e w1 ⟨rfl, hb⟩; obtain ⟨a0, a1, a2, hz⟩ := box3 hb) | (gi_at_call 42; refine (callsIn_wide.2 (living_in m p sl.length c q f.length d _)).mono ?_; rintro e w' ⟨rfl, rfl⟩))
    have hBw : Below w.heap.size w w1 := below1 hb
    have bO := (Boxed.new w1 36 (.slice none 0 0)).alloc (.cells #[.int .i64 m, .slice p sl.length c, .slice q f.length d] 25)
    have hB0 : Below w.heap.size w ((w1.alloc (.cells #[.slice none 0 0] 36)).alloc (.cells #[.int .i64 m, .slice p sl.length c, .slice q f.length d] 25)) := (hBw.alloc (by omega) _).alloc (by simp; omega) _
    have hst := living_stops 3 (by omega) (w1.heap.size + 1) w.heap.size p sl c (by omega) ((w1.alloc (.cells #[.slice none 0 0] 36)).alloc (.cells #[.int .i64 m, .slice p sl.length c, .slice q f.length d] 25)) (by rw [two]; omega) (by rw [two]; omega) (World.cell?_alloc_at _ _ _ _ (by simp)) (hS.below hB0 (Nat.le_refl _))
    clear CM
    refine wpIn_rangeFunc_ownG rfl (by omega) (gf := 62) (lb := #[.pointer (some ⟨w1.heap.size + 1, 0, none⟩)]) rfl trivial (enters_of Tryd.func62 (by kernel_rfl) rfl)
      hst belowK_t (belowK_b (by simp; omega)) (Below.refl _ _) (fun _ => rfl)
      (fun pre W => (∃ v, Boxed W w1.heap.size 36 v ∧ W.ownsRow w.heap.size 41 1 v pre.length (pre.map (Value.int .u64)) ∧ True) ∧ Below w.heap.size w W)
      (fun _ _ _ => False)
      (OwnFrom.and (Own.from (holdsRow_own w.heap.size w1.heap.size 36 41 1 (fun pre : List Int => pre.length) (fun pre : List Int => pre.map (Value.int .u64)) (fun _ _ => True)) _) (ownFrom_below (Nat.le_refl _) (by simp; omega)))
      (fun _ _ _ _ _ hs _ _ => hs)
      ⟨⟨_, bO, World.ownsRow_nil _ _ _ _, trivial⟩, hB0⟩
      (fun x => { tmps := #[.agg #[.int .i64 m, .slice p sl.length c, .slice q f.length d], .pointer (some ⟨w.heap.size, 0, none⟩), .slice none 0 0, .pointer (some ⟨w1.heap.size, 0, none⟩), .int .u64 x, .agg #[.int .i64 m, .slice p sl.length c, .slice q f.length d], .bool true, .bool false, .agg #[.int .i64 m, .slice p sl.length c, .slice q f.length d], .func (.func 62) #[] #[.pointer (some ⟨w1.heap.size + 1, 0, none⟩)], .int .u64 x, undef, undef, undef, undef, undef], defers := [] }) ?assign ?body ?done ?stop
    case assign =>
      intro l x W K hK
      gi_wp2
      exact hK
    case body =>
      rintro l pre x W ⟨⟨v, hv, hrow, _⟩, hB⟩ hlt
      have hc := hv.cell
      gi_wp2_with (gi_at_builtin; refine wpListIn_append_own _ rfl _ _ 36 rfl w.heap.size 41 i0 (.int .u64 0) 1 8 Tryd.underlying36 hi hz0 hz1 hz2 rfl (by decide) _ _ _ rfl (hrow.alloc _) ⟨W.heap.size, 0, none⟩ 1 1 [.int .u64 x] rfl rfl (cell_one_new _ _ _) (by simp [Value.oneCell']) (by unfold maxLen; omega) (by omega) (by have := hB.size; simp; omega) ?_; intro v' w2 hown' hgrow _; obtain ⟨g', cap', rfl⟩ := ownsRow_succ hown'; obtain ⟨hv1, hv2, hr2, hk2, hb2⟩ := hv.appended (by decide) hrow hB.size (by omega) hown' hgrow; have hc1 := hv1.cell; have hf1 := hv1.frozen)
      exact ⟨hk2.from _, hb2, ⟨_, hv2, by simpa using hr2, trivial⟩, hB.trans hb2⟩
    case done =>
      rintro D ys W hD rfl ⟨⟨v, hv, hrow, _⟩, hB⟩ hK
      have hc := hv.cell
      gi_wp2
      refine ⟨by simp, .inl ⟨_, _, rfl, run_takeDeferred hK, ?_⟩⟩
      exact ⟨_, results_tmp rfl _ _ _, v, rfl, ownsRow_putObj hrow _ hK rfl, hB.trans (belowK_b (w := w) (Nat.le_refl _) W D _ _ (by simp at hD; omega) hK rfl rfl)⟩
    case stop =>
      rintro D c pre W _ _ h _
      exact h.elim
end Go.Proofs.YtaglhajlgnjhcaaDoor
