/- Text. -/
import Derived.Test.YtofobpijkceldaaDoorVaE
import Derived.Lib.Strings
namespace Go.Proofs.YtofobpijkceldaaDoor
open Go.RowKit Go.Shelf
attribute [local go_sem] Oper.semAt_some

/-- The text of some words. -/
def jnL : List Wd → List UInt8
  | [] => []
  | x :: r => hexW x.1 ++ r.flatMap fun y => 44 :: hexW y.1
def jn (r : List Wd) : ByteArray := ⟨(jnL r).toArray⟩
theorem jnL_snoc {r : List Wd} (h : r ≠ []) (x : Wd) : jnL (r ++ [x]) = jnL r ++ [44] ++ hexW x.1 := by
  cases r with
  | nil => exact absurd rfl h
  | cons y r => simp [jnL]
theorem bytes_app (a b : List UInt8) : (⟨(a ++ b).toArray⟩ : ByteArray) = ⟨a.toArray⟩ ++ ⟨b.toArray⟩ := by
  apply ByteArray.ext; simp
theorem jn_nil : jn [] = ⟨#[]⟩ := rfl
theorem jn_one (x : Wd) : jn [x] = wT x := by unfold jn wT jnL; simp
theorem jn_snoc {r : List Wd} (h : r ≠ []) (x : Wd) : jn (r ++ [x]) = (jn r ++ ⟨#[44]⟩) ++ wT x := by
  unfold jn; rw [jnL_snoc h, bytes_app, bytes_app]; rfl
theorem jn_len : ∀ (r : List Wd), (jnL r).length ≤ 17 * r.length
  | [] => by simp [jnL]
  | x :: r => by
    unfold jnL
    have h : ∀ (r : List Wd), (r.flatMap fun y => 44 :: hexW y.1).length ≤ 17 * r.length := by
      intro r
      induction r with
      | nil => simp
      | cons y r ih => have := hexW_len16 y.1 y.2; rw [List.flatMap_cons, List.length_append]; simp at ih ⊢; omega
    have := h r; have := hexW_len16 x.1 x.2
    rw [List.length_append, List.length_cons]; omega
theorem jn_size (r : List Wd) : (jn r).size ≤ 17 * r.length := jn_len r
theorem jn_pos {r : List Wd} (h : r ≠ []) : 0 < (jn r).size := by
  cases r with
  | nil => exact absurd rfl h
  | cons x r => have := hexW_pos x.1; show 0 < (jnL (x :: r)).length; unfold jnL; rw [List.length_append]; omega

def txtV (l : List Int) : ByteArray := if isW l.length then (if l.length = 0 then ⟨#[45]⟩ else jn (texN l l.length)) else ⟨#[]⟩
def txtE (l : List Int) : Int := if isW l.length then 0 else 140

theorem text_bad (p : Option Addr) (l : List Int) (c : Nat) (w : World) (h : isW l.length = false) :
    Calls Tryd.prog 20 #[.slice p l.length c] w fun e w' => e = .returned (.tuple #[.string (txtV l), .int .i64 (txtE l)]) ∧ Below w.heap.size w w' := by
  have CM := fun (W : World) => mayBe31 p l.length c W
  have e1 : txtV l = ⟨#[]⟩ := by unfold txtV; rw [h]; rfl
  have e2 : txtE l = 140 := by unfold txtE; rw [h]; rfl
  rw [h] at CM
  rw [e1, e2]
  clear e1 e2 h
  go_enter Tryd.func20, Tryd.ntmps20
  go_wp2_with (first | (go_at_call 31; refine Calls.mono (CM _) ?_; rintro e w1 ⟨rfl, rfl⟩))
  go_ret2
  exact ⟨rfl, Below.refl _ _⟩
theorem text_none (p : Option Addr) (c : Nat) (w : World) :
    Calls Tryd.prog 20 #[.slice p 0 c] w fun e w' => e = .returned (.tuple #[.string ⟨#[45]⟩, .int .i64 0]) ∧ Below w.heap.size w w' := by
  have CM := fun (W : World) => mayBe31 p 0 c W
  have e1 : isW ((0 : Nat) : Int) = true := by decide
  rw [e1] at CM
  clear e1
  go_enter Tryd.func20, Tryd.ntmps20
  go_wp2_with (first | (go_at_call 31; refine Calls.mono (CM _) ?_; rintro e w1 ⟨rfl, rfl⟩))
  go_ret2
  exact ⟨rfl, Below.refl _ _⟩

set_option maxRecDepth 100000 in
set_option maxHeartbeats 2000000 in
theorem text_some (p : Option Addr) (l : List Int) (c : Nat) (w : World) (hT : Tb w) (hS : IRow .u64 w.heap.size w p l) (hU : U64 l) (h0 : 0 < l.length) (h4 : l.length ≤ 4) :
    Calls Tryd.prog 20 #[.slice p l.length c] w fun e w' => e = .returned (.tuple #[.string (jn (texN l l.length)), .int .i64 0]) ∧ Below w.heap.size w w' := by
  have CM := fun (W : World) => mayBe31 p l.length c W
  have e1 : isW l.length = true := by unfold isW; rw [decide_eq_true (by omega), decide_eq_true (by omega)]; rfl
  rw [e1] at CM
  clear e1
  have hl0 : ((l.length : Int) == 0) = false := by rw [beq_eq_false_iff_ne]; omega
  refine (callsIn_wide (n := 4)).1 ?_
  refine callsIn_of_wp_marks Tryd.func20 rfl trivial ?_ rfl
  simp only [Tryd.ntmps20, List.size_toArray, List.length_cons, List.length_nil, Nat.reduceAdd, Nat.reduceSub, Array.replicate_succ, Array.replicate_zero, List.push_toArray, List.append_toArray, List.nil_append, List.cons_append]
  have h31 : Fence.wide.fn 31 := trivial
  have h36 : Fence.wide.fn 36 := trivial
  gi_wp2_with (first | (gi_at_call 31; refine (callsIn_wide.2 (CM _)).mono ?_; rintro e w1 ⟨rfl, hw⟩; rw [hw]; clear hw w1) | (gi_at_call 36; refine (callsIn_wide.2 (texts36 p l.length c _)).mono ?_; rintro e w' ⟨rfl, rfl⟩))
  have bN := (Boxed.new w 9 (.string ⟨#[]⟩)).alloc (.cells #[.slice p l.length c] 26)
  have hB0 : Below w.heap.size w ((w.alloc (.cells #[.string ⟨#[]⟩] 9)).alloc (.cells #[.slice p l.length c] 26)) := ((Below.refl _ w).alloc (Nat.le_refl _) _).alloc (by simp) _
  have hst := texts_stops 3 (by omega) (w.heap.size + 1) w.heap.size p l c (by omega) hU ((w.alloc (.cells #[.string ⟨#[]⟩] 9)).alloc (.cells #[.slice p l.length c] 26)) (by simp; omega) (World.cell?_alloc_at _ _ _ _ (by simp)) (by simp) (hS.below hB0 (Nat.le_refl _)) (hT.to hB0) hT.2
  have HT := hidOg hT
  have HS := hidOg hS
  have HU := hidOg hU
  clear hT hS hU CM
  refine wpIn_rangeFunc_ownG rfl (by omega) (gf := 41) (lb := #[.pointer (some ⟨w.heap.size + 1, 0, none⟩)]) rfl trivial (enters_of Tryd.func41 (by kernel_rfl) rfl)
    hst belowK_t (belowK_b (by simp; omega)) (Below.refl _ _) (fun _ => rfl)
    (fun pre W => Boxed W w.heap.size 9 (.string (jn pre)) ∧ Below w.heap.size w W)
    (fun _ _ _ => False)
    (OwnFrom.and (Own.from (boxed_own w.heap.size 9 (fun pre : List Wd => Value.string (jn pre))) _) (ownFrom_below (Nat.le_refl _) (by simp; omega)))
    (fun _ _ _ _ _ hs _ _ => hs)
    ⟨bN, hB0⟩
    (fun x => { tmps := #[.slice p l.length c, undef, .string ⟨#[]⟩, .int .i64 0, .pointer (some ⟨w.heap.size, 0, none⟩), .string (wT x), .slice p l.length c, .bool true, .bool false, .slice p l.length c, .int .i64 l.length, .bool false, .slice p l.length c, .func (.func 41) #[] #[.pointer (some ⟨w.heap.size + 1, 0, none⟩)], .string (wT x), undef, undef, undef, undef, undef, undef, undef, undef], defers := [] }) ?assign ?body ?done ?stop
  case assign =>
    intro l x W K hK
    gi_wp2
    exact hK
  case body =>
    rintro yl pre x W ⟨hv, hB⟩ hlt
    have hc := hv.cell
    have hf := hv.frozen
    have hs := jn_size pre
    have hx := wT_size x
    by_cases hp : pre = []
    · subst hp
      rw [jn_nil] at hc
      have HE := hidOg (jn_one x)
      gi_wp2
      refine ⟨(KeepsOthers.setCell _ _ _).from _, (Below.refl w.heap.size W).setCell (p := ⟨w.heap.size, 0, none⟩) (by simp) _, ?_, hB.setCell (p := ⟨w.heap.size, 0, none⟩) (by simp) _⟩
      have e : jn ([] ++ [x]) = ⟨#[]⟩ ++ wT x := HE.out.trans (by apply ByteArray.ext; simp)
      rw [e]
      exact hv.set _
    · have hemp : (jn pre).toList.isEmpty = false := by
        have := jn_pos hp
        rw [Bool.eq_false_iff]; intro h
        rw [List.isEmpty_iff] at h
        have e2 : (jn pre).toList.length = (jn pre).size := by rw [Lib.toList_data]; rfl
        rw [h] at e2; simp at e2; omega
      have hpos := jn_pos hp
      have HE := hidOg (jn_snoc hp x)
      gi_wp2
      refine ⟨((KeepsOthers.setCell _ _ _).trans (KeepsOthers.setCell _ _ _)).from _, ((Below.refl w.heap.size W).setCell (p := ⟨w.heap.size, 0, none⟩) (by simp) _).setCell (p := ⟨w.heap.size, 0, none⟩) (by simp) _, ?_, (hB.setCell (p := ⟨w.heap.size, 0, none⟩) (by simp) _).setCell (p := ⟨w.heap.size, 0, none⟩) (by simp) _⟩
      rw [HE.out]
      exact (hv.set _).set _
  case done =>
    rintro D ys W hD rfl ⟨hv, hB⟩ hK
    have hc := hv.cell
    gi_wp2
    refine ⟨by simp, .inl ⟨_, _, rfl, run_takeDeferred hK, ?_⟩⟩
    exact ⟨_, results_tmp2 rfl _ _ _, rfl, hB.trans (belowK_b (w := w) (Nat.le_refl _) W D _ _ (by simp at hD; omega) hK rfl rfl)⟩
  case stop =>
    rintro D c pre W _ _ h _
    exact h.elim

theorem text20 (p : Option Addr) (l : List Int) (c : Nat) (w : World) (hT : Tb w) (hS : IRow .u64 w.heap.size w p l) (hU : U64 l) :
    Calls Tryd.prog 20 #[.slice p l.length c] w fun e w' => e = .returned (.tuple #[.string (txtV l), .int .i64 (txtE l)]) ∧ Below w.heap.size w w' := by
  cases h : isW l.length
  · exact text_bad p l c w h
  · obtain ⟨_, h4⟩ := isW_t h
    have e2 : txtE l = 0 := by unfold txtE; rw [h]; rfl
    rw [e2]
    by_cases h0 : l.length = 0
    · have e1 : txtV l = ⟨#[45]⟩ := by unfold txtV; rw [h, if_pos h0]; rfl
      rw [e1, h0]
      exact text_none p c w
    · have e1 : txtV l = jn (texN l l.length) := by unfold txtV; rw [h, if_neg h0]; rfl
      rw [e1]
      exact text_some p l c w hT hS hU (by omega) (by omega)
end Go.Proofs.YtofobpijkceldaaDoor
