/- through: what a hash becomes by the bytes of an id, one behind the other. -/
import Derived.Test.YtjnhalomkmdcgaaHaB
namespace Go.Proofs.Ytjnhalomkmdcgaa
open Go.RowKit Go.Shelf
attribute [local go_sem] Oper.semAt_some

def foA (h : Nat) (l : List By) : Nat := l.foldl (fun g x => hAdd g x.1) h
def foB (h : Nat) (l : List By) : Nat := l.foldl (fun g x => hBack g x.1) h
theorem foA_snoc (h : Nat) (l : List By) (x : By) : foA h (l ++ [x]) = hAdd (foA h l) x.1 := by unfold foA; rw [List.foldl_append, List.foldl_cons, List.foldl_nil]
theorem foB_snoc (h : Nat) (l : List By) (x : By) : foB h (l ++ [x]) = hBack (foB h l) x.1 := by unfold foB; rw [List.foldl_append, List.foldl_cons, List.foldl_nil]
theorem foA_lt {h : Nat} (hh : h < 18446744073709551616) (l : List By) : foA h l < 18446744073709551616 := by
  unfold foA
  induction l generalizing h with
  | nil => exact hh
  | cons x r ih => rw [List.foldl_cons]; exact ih (hAdd_lt _ _)
theorem foA_k (h id : Nat) (k : Nat) : foA h (bys (fun i => i) id k) = hAddN h id k := by
  induction k with
  | zero => rfl
  | succ k ih => rw [bys_succ, foA_snoc, ih]; rfl
theorem foA_all (h id : Nat) : foA h (bys (fun i => i) id 8) = hId h id := foA_k h id 8
theorem foB_k (id k : Nat) : ∀ h, foB h ((List.range k).map fun i => byB id (k - 1 - i)) = hBackN h id k := by
  induction k with
  | zero => intro h; rfl
  | succ k ih =>
    intro h
    rw [List.range_succ_eq_map, List.map_cons, List.map_map]
    have e : ((fun i => byB id (k + 1 - 1 - i)) ∘ Nat.succ) = fun i => byB id (k - 1 - i) := by
      funext i; show byB id (k + 1 - 1 - (i + 1)) = _; congr 1; omega
    rw [e]
    have e2 : byB id (k + 1 - 1 - 0) = byB id k := by congr 1
    rw [e2]
    show foB (hBack h (byB id k).1) _ = hBackN (hBack h (byN id k)) id k
    exact ih _
theorem foB_all (h id : Nat) : foB h (bys (fun i => 7 - i) id 8) = uId h id := foB_k id 8 h

set_option maxRecDepth 100000 in
set_option maxHeartbeats 2000000 in
theorem through_add (h id Bi Bp : Nat) (w : World) (hid : id < 18446744073709551616) (hh : h < 18446744073709551616) (hBi : w.cell? ⟨Bi, 0, none⟩ = some (.int .u64 (id : Int))) (lBi : Bi < w.heap.size) (hBp : w.cell? ⟨Bp, 0, none⟩ = some (.func (.func 89) #[] #[])) (lBp : Bp < w.heap.size) :
    Calls Try.prog 87 #[.int .u64 (h : Int), .func (.func 108) #[] #[.pointer (some ⟨Bi, 0, none⟩), .pointer (some ⟨Bp, 0, none⟩)], .func (.func 86) #[] #[]] w fun e w' => e = .returned (.int .u64 (hId h id : Nat)) ∧ Below w.heap.size w w' := by
  refine (callsIn_wide (n := 4)).1 ?_
  refine callsIn_of_wp_marks Try.func87 rfl trivial ?_ rfl
  simp only [Try.ntmps87, List.size_toArray, List.length_cons, List.length_nil, Nat.reduceAdd, Nat.reduceSub, Array.replicate_succ, Array.replicate_zero, List.push_toArray, List.append_toArray, List.nil_append, List.cons_append]
  have h26 : Fence.wide.fn 86 := trivial
  gi_wp2
  obtain ⟨wA, hwA⟩ : ∃ wA, wA = (w.alloc (.cells #[.int .u64 (h : Int)] 40)).alloc (.cells #[.func (.func 86) #[] #[]] 115) := ⟨_, rfl⟩
  have eA : wA.heap.size = w.heap.size + 2 := by rw [hwA]; simp
  have bA : Below w.heap.size w wA := by rw [hwA]; exact ((Below.refl _ _).alloc (Nat.le_refl _) _).alloc (by simp) _
  have b1 : Boxed wA w.heap.size 40 (.int .u64 (h : Int)) := by rw [hwA]; exact (Boxed.new w 40 _).alloc _
  have b2 : Boxed wA (w.heap.size + 1) 115 (.func (.func 86) #[] #[]) := by
    rw [hwA]
    have := Boxed.new (w.alloc (.cells #[.int .u64 (h : Int)] 40)) 115 (.func (.func 86) #[] #[])
    rwa [World.size_alloc] at this
  rw [← hwA]
  have hst := bytes_stops_27 3 (by omega) Bi Bp w.heap.size id hid wA (by omega) ((bA.cell (p := ⟨Bi, 0, none⟩) lBi).trans hBi) lBi ((bA.cell (p := ⟨Bp, 0, none⟩) lBp).trans hBp) lBp
  clear hwA hBi hBp
  refine wpIn_rangeFunc_ownG rfl (by omega) (gf := 108) (lb := #[.pointer (some ⟨Bi, 0, none⟩), .pointer (some ⟨Bp, 0, none⟩)]) rfl trivial (enters_of Try.func108 (by kernel_rfl) rfl)
    hst belowK_t (belowK_b (by omega)) (Below.refl _ _) (fun _ => rfl)
    (fun pre W => Boxed W w.heap.size 40 (.int .u64 (foA h pre : Nat)) ∧ Boxed W (w.heap.size + 1) 115 (.func (.func 86) #[] #[]) ∧ Below w.heap.size w W)
    (fun _ _ _ => False)
    (OwnFrom.and (Own.from (boxed_own w.heap.size 40 (fun pre : List By => Value.int .u64 (foA h pre : Nat))) _) (OwnFrom.and (Own.from (boxed_own (w.heap.size + 1) 115 (fun _ : List By => .func (.func 86) #[] #[])) _) (ownFrom_below (Nat.le_refl _) (by omega))))
    (fun _ _ _ _ _ hs _ _ => hs)
    ⟨b1, b2, bA⟩
    (fun x => { tmps := #[.int .u64 (h : Int), .func (.func 108) #[] #[.pointer (some ⟨Bi, 0, none⟩), .pointer (some ⟨Bp, 0, none⟩)], .func (.func 86) #[] #[], .pointer (some ⟨w.heap.size, 0, none⟩), undef, .pointer (some ⟨w.heap.size + 1, 0, none⟩), .int .u64 0, .int .u64 (x.1 : Int), .func (.func 108) #[] #[.pointer (some ⟨Bi, 0, none⟩), .pointer (some ⟨Bp, 0, none⟩)], .int .u64 (x.1 : Int), undef, undef, undef, undef, undef], defers := [] }) ?assign ?body ?done ?stop
  case assign =>
    intro l x W K hK
    gi_wp2
    exact hK
  case body =>
    rintro yl pre x W ⟨hv, hv2, hB⟩ hlt
    have hc := hv.cell
    have hf := hv.frozen
    have hc2 := hv2.cell
    have CC := add26 (foA h pre) x.1 (foA_lt hh pre) x.2
    have HE := hidOg (foA_snoc h pre x)
    obtain ⟨r, hr⟩ : ∃ r, r = hAdd (foA h pre) x.1 := ⟨_, rfl⟩
    rw [← hr] at CC HE
    obtain ⟨q, hq⟩ : ∃ q, q = foA h pre := ⟨_, rfl⟩
    rw [← hq] at CC hc hv
    clear hr hq
    gi_wp2_with (first | (gi_at_call 86; refine (callsIn_wide.2 (CC _)).mono ?_; rintro e w1 ⟨rfl, hw⟩; rw [hw]; clear hw w1))
    refine ⟨(KeepsOthers.setCell _ _ _).from _, (Below.refl w.heap.size W).setCell (p := ⟨w.heap.size, 0, none⟩) (by simp) _, ?_, hv2.kept (grownBy_setCell' W w.heap.size _) (by simp), hB.setCell (p := ⟨w.heap.size, 0, none⟩) (by simp) _⟩
    rw [HE.out]
    exact hv.set _
  case done =>
    rintro D ys W hD rfl ⟨hv, hv2, hB⟩ hK
    have hc := hv.cell
    gi_wp2
    refine ⟨by simp, .inl ⟨_, _, rfl, run_takeDeferred hK, ?_⟩⟩
    exact ⟨_, results_tmp rfl _ _ _, by rw [← foA_all]; rfl, hB.trans (belowK_b (w := w) (Nat.le_refl _) W D _ _ (by omega) hK rfl rfl)⟩
  case stop =>
    rintro D c pre W _ _ h _
    exact h.elim

end Go.Proofs.Ytjnhalomkmdcgaa
