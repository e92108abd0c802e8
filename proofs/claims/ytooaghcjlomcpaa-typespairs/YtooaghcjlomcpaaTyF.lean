/- itself, second, row. -/
import Derived.Test.YtooaghcjlomcpaaTyE
import Derived.Stop.RegionWithIn
namespace Go.Proofs.Ytooaghcjlomcpaa
open Go.RowKit Go.Shelf
attribute [local go_sem] Oper.semAt_some

theorem itself_any (x : Int) (w : World) : Calls Try.prog 57 #[.int .u64 x] w fun e w' => e = .returned (.int .u64 x) ∧ w' = w := by
  go_enter Try.func57, Try.ntmps57
  go_wp2
  go_ret
  exact ⟨rfl, rfl⟩
theorem second_any (x : Int) (w : World) (h0 : 0 ≤ x) (h1 : x < 18446744073709551616) : Calls Try.prog 66 #[.int .u64 x] w fun e w' => e = .returned (.int .i64 (p2 x)) ∧ Below w.heap.size w w' := by
  go_enter Try.func66, Try.ntmps66
  go_wp2_with (first | (go_at_call 42; refine (parts_any _ _ h0 h1).mono ?_; rintro e w1 ⟨rfl, hb⟩))
  go_ret
  exact ⟨rfl, hb⟩

theorem owns_base {w : World} {base base' : Nat} {e : TypeId} {size : Nat} {v : Value} {n : Nat} {xs : List Value} (h : w.ownsRow base e size v n xs) (hb : base' ≤ base) : w.ownsRow base' e size v n xs :=
  ⟨h.1, h.2.imp id fun ⟨g, cap, cur, a, b, c⟩ => ⟨g, cap, cur, a, Nat.le_trans hb b, c⟩⟩

/-- The append, under a name that no rule lays open. -/
def appS (ats : Array TypeId) (ty : TypeId) (args : Array Value) : Sem Value := Builtin.append_ ats ty args
theorem app_hide (ats : Array TypeId) (ty : TypeId) (args : Array Value) : Builtin.append_ ats ty args = appS ats ty args := rfl
attribute [local go_sem ↓] app_hide

set_option maxRecDepth 100000 in
set_option maxHeartbeats 2000000 in
theorem row53_60 (Bl Bh Bx : Nat) (p : Option Addr) (l : List Int) (cap : Nat) (h : Int → Bool) (hlen : l.length ≤ 1099511627776) (hU : U64 l) (w : World)
    (hBl : w.cell? ⟨Bl, 0, none⟩ = some (.slice p l.length cap)) (lBl : Bl < w.heap.size)
    (hBh : w.cell? ⟨Bh, 0, none⟩ = some (.func (.func 60) #[] #[.pointer (some ⟨Bx, 0, none⟩)])) (lBh : Bh < w.heap.size) (hS : IRow .u64 w.heap.size w p l)
    (CH : ∀ (x : Int) (wr : World), 0 ≤ x → x < 18446744073709551616 → Below w.heap.size w wr → Calls Try.prog 60 #[.int .u64 x, .pointer (some ⟨Bx, 0, none⟩)] wr fun e w' => e = .returned (.bool (h x)) ∧ Below wr.heap.size wr w') :
    Calls Try.prog 53 #[.func (.func 87) #[] #[.pointer (some ⟨Bl, 0, none⟩), .pointer (some ⟨Bh, 0, none⟩)], .func (.func 57) #[] #[]] w fun e w' => ∃ v, e = .returned v ∧ w'.ownsRow w.heap.size 33 1 v (tolL l h).length ((tolL l h).map (Value.int .u64)) ∧ Below w.heap.size w w' := by
  obtain ⟨i0, hi, hz0, hz1, hz2⟩ := info_parts Try.info33
  refine (callsIn_wide (n := 4)).1 ?_
  refine callsIn_of_wp_marks Try.func53 rfl trivial ?_ rfl
  simp only [Try.ntmps53, List.size_toArray, List.length_cons, List.length_nil, Nat.reduceAdd, Nat.reduceSub, Array.replicate_succ, Array.replicate_zero, List.push_toArray, List.append_toArray, List.nil_append, List.cons_append]
  have h57 : Fence.wide.fn 57 := trivial
  gi_wp2
  obtain ⟨wA, hwA⟩ : ∃ wA, wA = w.alloc (.cells #[.func (.func 57) #[] #[]] 66) := ⟨_, rfl⟩
  have eA : wA.heap.size = w.heap.size + 1 := by rw [hwA]; simp
  have bA : Below w.heap.size w wA := by rw [hwA]; exact (Below.refl _ _).alloc (Nat.le_refl _) _
  have cA : wA.cell? ⟨w.heap.size, 0, none⟩ = some (.func (.func 57) #[] #[]) := by rw [hwA]; simp
  rw [← hwA, ← eA]
  have bO := Boxed.new wA 22 (.slice none 0 0)
  have hB0 : Below wA.heap.size wA (wA.alloc (.cells #[.slice none 0 0] 22)) := (Below.refl _ _).alloc (Nat.le_refl _) _
  have bW : Below w.heap.size w (wA.alloc (.cells #[.slice none 0 0] 22)) := bA.trans (hB0.mono (by omega))
  have hst := told_stops_60 3 (by omega) Bl Bh Bx wA.heap.size p l cap h (by omega) hU (wA.alloc (.cells #[.slice none 0 0] 22)) (by simp) ((bW.cell (p := ⟨Bl, 0, none⟩) lBl).trans hBl) (by omega) ((bW.cell (p := ⟨Bh, 0, none⟩) lBh).trans hBh) (by omega) ((hS.below bW (Nat.le_refl _)).mono (by omega)) (fun x wr h0 h1 hb => CH x wr h0 h1 (bW.trans (hb.mono (by omega))))
  have HA := hidOg eA
  have lA : w.heap.size < wA.heap.size := by omega
  clear hwA CH hBl hBh hS eA
  refine wpIn_rangeFunc_ownG rfl (by omega) (gf := 87) (lb := #[.pointer (some ⟨Bl, 0, none⟩), .pointer (some ⟨Bh, 0, none⟩)]) rfl trivial (enters_of Try.func87 (by kernel_rfl) rfl)
    hst belowK_t (belowK_b (by simp)) (Below.refl _ _) (fun _ => rfl)
    (fun pre W => (∃ v, Boxed W wA.heap.size 22 v ∧ W.ownsRow wA.heap.size 33 1 v pre.length (pre.map (Value.int .u64)) ∧ True) ∧ Below wA.heap.size wA W)
    (fun _ _ _ => False)
    (OwnFrom.and (Own.from (holdsRow_own wA.heap.size wA.heap.size 22 33 1 (fun pre : List Int => pre.length) (fun pre : List Int => pre.map (Value.int .u64)) (fun _ _ => True)) _) (ownFrom_below (Nat.le_refl _) (by simp)))
    (fun _ _ _ _ _ hs _ _ => hs)
    ⟨⟨_, bO, World.ownsRow_nil _ _ _ _, trivial⟩, hB0⟩
    (fun x => { tmps := #[.func (.func 87) #[] #[.pointer (some ⟨Bl, 0, none⟩), .pointer (some ⟨Bh, 0, none⟩)], .func (.func 57) #[] #[], undef, .pointer (some ⟨w.heap.size, 0, none⟩), .slice none 0 0, .pointer (some ⟨wA.heap.size, 0, none⟩), .int .u64 x, .func (.func 87) #[] #[.pointer (some ⟨Bl, 0, none⟩), .pointer (some ⟨Bh, 0, none⟩)], .int .u64 x, undef, undef, undef, undef, undef, undef, undef], defers := [] }) ?assign ?body ?done ?stop
  case assign =>
    intro l x W K hK
    gi_wp2
    exact hK
  case body =>
    rintro yl pre x W ⟨⟨v, hv, hrow, _⟩, hB⟩ hlt
    have hc := hv.cell
    have hcf : W.cell? ⟨w.heap.size, 0, none⟩ = some (.func (.func 57) #[] #[]) := (hB.cell (p := ⟨w.heap.size, 0, none⟩) (by simp; omega)).trans cA
    have hsz := hB.size
    obtain ⟨v', w2, hrun, hown', hgrow, _⟩ := run_append_own (P := Try.prog) (W.alloc (.cells #[.int .u64 x] 33)).drew wA.heap.size 22 22 33 i0 (.int .u64 0) 1 8 Try.underlying22 hi hz0 hz1 hz2 rfl (by decide) v pre.length _ (show (W.alloc (.cells #[.int .u64 x] 33)).drew.ownsRow wA.heap.size 33 1 v pre.length (pre.map (Value.int .u64)) from hrow.alloc _) ⟨W.heap.size, 0, none⟩ 1 1 [.int .u64 x] rfl (show ∀ j u, [Value.int .u64 x][j]? = some u → (W.alloc (.cells #[.int .u64 x] 33)).cell? ((⟨W.heap.size, 0, none⟩ : Addr).add j) = some u from cell_one_new _ _ _) (by simp [Value.oneCell']) (by unfold maxLen; omega) (by omega) (by show wA.heap.size ≤ (W.alloc (.cells #[.int .u64 x] 33)).heap.size; rw [World.size_alloc]; omega)
    obtain ⟨g', cap', rfl⟩ := ownsRow_succ hown'
    rw [app_hide] at hrun
    obtain ⟨hv1, hv2, hr2, hk2, hb2⟩ := hv.appended (by decide) hrow hB.size (Nat.le_refl _) hown' (show (W.alloc (.cells #[.int .u64 x] 33)).grownBy w2 v.ownBlock from ⟨hgrow.os, hgrow.tape, hgrow.output, hgrow.size, hgrow.block⟩)
    have hc1 := hv1.cell
    have hf1 := hv1.frozen
    have hc2 : (W.alloc (.cells #[.int .u64 x] 33)).cell? ⟨wA.heap.size, 0, none⟩ = some v := (hv.alloc _).cell
    have hlv : wA.heap.size < W.heap.size := hv.lt
    have G1 := hidOg hv2
    have G2 := hidOg hr2
    have G3 := hidOg hk2
    have G4 := hidOg hb2
    have G5 := hidOg hB
    clear hown' hgrow hi hz0 hz1 hz2 hv1 hv2 hr2 hk2 hb2 hv hrow hB bO hB0 bW bA hst
    gi_wp2
    gi_region_with (first | (gi_at_call 57; refine (callsIn_wide.2 (itself_any x _)).mono ?_; rintro e w1 ⟨rfl, rfl⟩))
    all_goals exact ⟨G3.out.from _, G4.out, ⟨_, G1.out, by simpa using G2.out, trivial⟩, G5.out.trans G4.out⟩
  case done =>
    rintro D ys W hD rfl ⟨⟨v, hv, hrow, _⟩, hB⟩ hK
    have hc := hv.cell
    gi_wp2
    refine ⟨by simp, .inl ⟨_, _, rfl, run_takeDeferred hK, ?_⟩⟩
    have hw : Below w.heap.size w W := bA.trans (hB.mono (by omega))
    exact ⟨_, results_tmp rfl _ _ _, v, rfl, owns_base (ownsRow_putObj hrow _ hK rfl) (by omega), hw.trans (belowK_b (w := w) (Nat.le_refl _) W D _ _ (by simp at hD; omega) hK rfl rfl)⟩
  case stop =>
    rintro D c pre W _ _ h _
    exact h.elim

set_option maxRecDepth 100000 in
set_option maxHeartbeats 2000000 in
theorem row53_55 (Bl Bh Bx : Nat) (p : Option Addr) (l : List Int) (cap : Nat) (h : Int → Bool) (hlen : l.length ≤ 1099511627776) (hU : U64 l) (w : World)
    (hBl : w.cell? ⟨Bl, 0, none⟩ = some (.slice p l.length cap)) (lBl : Bl < w.heap.size)
    (hBh : w.cell? ⟨Bh, 0, none⟩ = some (.func (.func 55) #[] #[.pointer (some ⟨Bx, 0, none⟩)])) (lBh : Bh < w.heap.size) (hS : IRow .u64 w.heap.size w p l)
    (CH : ∀ (x : Int) (wr : World), 0 ≤ x → x < 18446744073709551616 → Below w.heap.size w wr → Calls Try.prog 55 #[.int .u64 x, .pointer (some ⟨Bx, 0, none⟩)] wr fun e w' => e = .returned (.bool (h x)) ∧ Below wr.heap.size wr w') :
    Calls Try.prog 53 #[.func (.func 87) #[] #[.pointer (some ⟨Bl, 0, none⟩), .pointer (some ⟨Bh, 0, none⟩)], .func (.func 57) #[] #[]] w fun e w' => ∃ v, e = .returned v ∧ w'.ownsRow w.heap.size 33 1 v (tolL l h).length ((tolL l h).map (Value.int .u64)) ∧ Below w.heap.size w w' := by
  obtain ⟨i0, hi, hz0, hz1, hz2⟩ := info_parts Try.info33
  refine (callsIn_wide (n := 4)).1 ?_
  refine callsIn_of_wp_marks Try.func53 rfl trivial ?_ rfl
  simp only [Try.ntmps53, List.size_toArray, List.length_cons, List.length_nil, Nat.reduceAdd, Nat.reduceSub, Array.replicate_succ, Array.replicate_zero, List.push_toArray, List.append_toArray, List.nil_append, List.cons_append]
  have h57 : Fence.wide.fn 57 := trivial
  gi_wp2
  obtain ⟨wA, hwA⟩ : ∃ wA, wA = w.alloc (.cells #[.func (.func 57) #[] #[]] 66) := ⟨_, rfl⟩
  have eA : wA.heap.size = w.heap.size + 1 := by rw [hwA]; simp
  have bA : Below w.heap.size w wA := by rw [hwA]; exact (Below.refl _ _).alloc (Nat.le_refl _) _
  have cA : wA.cell? ⟨w.heap.size, 0, none⟩ = some (.func (.func 57) #[] #[]) := by rw [hwA]; simp
  rw [← hwA, ← eA]
  have bO := Boxed.new wA 22 (.slice none 0 0)
  have hB0 : Below wA.heap.size wA (wA.alloc (.cells #[.slice none 0 0] 22)) := (Below.refl _ _).alloc (Nat.le_refl _) _
  have bW : Below w.heap.size w (wA.alloc (.cells #[.slice none 0 0] 22)) := bA.trans (hB0.mono (by omega))
  have hst := told_stops_55 3 (by omega) Bl Bh Bx wA.heap.size p l cap h (by omega) hU (wA.alloc (.cells #[.slice none 0 0] 22)) (by simp) ((bW.cell (p := ⟨Bl, 0, none⟩) lBl).trans hBl) (by omega) ((bW.cell (p := ⟨Bh, 0, none⟩) lBh).trans hBh) (by omega) ((hS.below bW (Nat.le_refl _)).mono (by omega)) (fun x wr h0 h1 hb => CH x wr h0 h1 (bW.trans (hb.mono (by omega))))
  have HA := hidOg eA
  have lA : w.heap.size < wA.heap.size := by omega
  clear hwA CH hBl hBh hS eA
  refine wpIn_rangeFunc_ownG rfl (by omega) (gf := 87) (lb := #[.pointer (some ⟨Bl, 0, none⟩), .pointer (some ⟨Bh, 0, none⟩)]) rfl trivial (enters_of Try.func87 (by kernel_rfl) rfl)
    hst belowK_t (belowK_b (by simp)) (Below.refl _ _) (fun _ => rfl)
    (fun pre W => (∃ v, Boxed W wA.heap.size 22 v ∧ W.ownsRow wA.heap.size 33 1 v pre.length (pre.map (Value.int .u64)) ∧ True) ∧ Below wA.heap.size wA W)
    (fun _ _ _ => False)
    (OwnFrom.and (Own.from (holdsRow_own wA.heap.size wA.heap.size 22 33 1 (fun pre : List Int => pre.length) (fun pre : List Int => pre.map (Value.int .u64)) (fun _ _ => True)) _) (ownFrom_below (Nat.le_refl _) (by simp)))
    (fun _ _ _ _ _ hs _ _ => hs)
    ⟨⟨_, bO, World.ownsRow_nil _ _ _ _, trivial⟩, hB0⟩
    (fun x => { tmps := #[.func (.func 87) #[] #[.pointer (some ⟨Bl, 0, none⟩), .pointer (some ⟨Bh, 0, none⟩)], .func (.func 57) #[] #[], undef, .pointer (some ⟨w.heap.size, 0, none⟩), .slice none 0 0, .pointer (some ⟨wA.heap.size, 0, none⟩), .int .u64 x, .func (.func 87) #[] #[.pointer (some ⟨Bl, 0, none⟩), .pointer (some ⟨Bh, 0, none⟩)], .int .u64 x, undef, undef, undef, undef, undef, undef, undef], defers := [] }) ?assign ?body ?done ?stop
  case assign =>
    intro l x W K hK
    gi_wp2
    exact hK
  case body =>
    rintro yl pre x W ⟨⟨v, hv, hrow, _⟩, hB⟩ hlt
    have hc := hv.cell
    have hcf : W.cell? ⟨w.heap.size, 0, none⟩ = some (.func (.func 57) #[] #[]) := (hB.cell (p := ⟨w.heap.size, 0, none⟩) (by simp; omega)).trans cA
    have hsz := hB.size
    obtain ⟨v', w2, hrun, hown', hgrow, _⟩ := run_append_own (P := Try.prog) (W.alloc (.cells #[.int .u64 x] 33)).drew wA.heap.size 22 22 33 i0 (.int .u64 0) 1 8 Try.underlying22 hi hz0 hz1 hz2 rfl (by decide) v pre.length _ (show (W.alloc (.cells #[.int .u64 x] 33)).drew.ownsRow wA.heap.size 33 1 v pre.length (pre.map (Value.int .u64)) from hrow.alloc _) ⟨W.heap.size, 0, none⟩ 1 1 [.int .u64 x] rfl (show ∀ j u, [Value.int .u64 x][j]? = some u → (W.alloc (.cells #[.int .u64 x] 33)).cell? ((⟨W.heap.size, 0, none⟩ : Addr).add j) = some u from cell_one_new _ _ _) (by simp [Value.oneCell']) (by unfold maxLen; omega) (by omega) (by show wA.heap.size ≤ (W.alloc (.cells #[.int .u64 x] 33)).heap.size; rw [World.size_alloc]; omega)
    obtain ⟨g', cap', rfl⟩ := ownsRow_succ hown'
    rw [app_hide] at hrun
    obtain ⟨hv1, hv2, hr2, hk2, hb2⟩ := hv.appended (by decide) hrow hB.size (Nat.le_refl _) hown' (show (W.alloc (.cells #[.int .u64 x] 33)).grownBy w2 v.ownBlock from ⟨hgrow.os, hgrow.tape, hgrow.output, hgrow.size, hgrow.block⟩)
    have hc1 := hv1.cell
    have hf1 := hv1.frozen
    have hc2 : (W.alloc (.cells #[.int .u64 x] 33)).cell? ⟨wA.heap.size, 0, none⟩ = some v := (hv.alloc _).cell
    have hlv : wA.heap.size < W.heap.size := hv.lt
    have G1 := hidOg hv2
    have G2 := hidOg hr2
    have G3 := hidOg hk2
    have G4 := hidOg hb2
    have G5 := hidOg hB
    clear hown' hgrow hi hz0 hz1 hz2 hv1 hv2 hr2 hk2 hb2 hv hrow hB bO hB0 bW bA hst
    gi_wp2
    gi_region_with (first | (gi_at_call 57; refine (callsIn_wide.2 (itself_any x _)).mono ?_; rintro e w1 ⟨rfl, rfl⟩))
    all_goals exact ⟨G3.out.from _, G4.out, ⟨_, G1.out, by simpa using G2.out, trivial⟩, G5.out.trans G4.out⟩
  case done =>
    rintro D ys W hD rfl ⟨⟨v, hv, hrow, _⟩, hB⟩ hK
    have hc := hv.cell
    gi_wp2
    refine ⟨by simp, .inl ⟨_, _, rfl, run_takeDeferred hK, ?_⟩⟩
    have hw : Below w.heap.size w W := bA.trans (hB.mono (by omega))
    exact ⟨_, results_tmp rfl _ _ _, v, rfl, owns_base (ownsRow_putObj hrow _ hK rfl) (by omega), hw.trans (belowK_b (w := w) (Nat.le_refl _) W D _ _ (by simp at hD; omega) hK rfl rfl)⟩
  case stop =>
    rintro D c pre W _ _ h _
    exact h.elim

set_option maxRecDepth 100000 in
set_option maxHeartbeats 2000000 in
theorem row53_67 (Bl Bh Bx : Nat) (p : Option Addr) (l : List Int) (cap : Nat) (h : Int → Bool) (hlen : l.length ≤ 1099511627776) (hU : U64 l) (w : World)
    (hBl : w.cell? ⟨Bl, 0, none⟩ = some (.slice p l.length cap)) (lBl : Bl < w.heap.size)
    (hBh : w.cell? ⟨Bh, 0, none⟩ = some (.func (.func 67) #[] #[.pointer (some ⟨Bx, 0, none⟩)])) (lBh : Bh < w.heap.size) (hS : IRow .u64 w.heap.size w p l)
    (CH : ∀ (x : Int) (wr : World), 0 ≤ x → x < 18446744073709551616 → Below w.heap.size w wr → Calls Try.prog 67 #[.int .u64 x, .pointer (some ⟨Bx, 0, none⟩)] wr fun e w' => e = .returned (.bool (h x)) ∧ Below wr.heap.size wr w') :
    Calls Try.prog 53 #[.func (.func 87) #[] #[.pointer (some ⟨Bl, 0, none⟩), .pointer (some ⟨Bh, 0, none⟩)], .func (.func 57) #[] #[]] w fun e w' => ∃ v, e = .returned v ∧ w'.ownsRow w.heap.size 33 1 v (tolL l h).length ((tolL l h).map (Value.int .u64)) ∧ Below w.heap.size w w' := by
  obtain ⟨i0, hi, hz0, hz1, hz2⟩ := info_parts Try.info33
  refine (callsIn_wide (n := 4)).1 ?_
  refine callsIn_of_wp_marks Try.func53 rfl trivial ?_ rfl
  simp only [Try.ntmps53, List.size_toArray, List.length_cons, List.length_nil, Nat.reduceAdd, Nat.reduceSub, Array.replicate_succ, Array.replicate_zero, List.push_toArray, List.append_toArray, List.nil_append, List.cons_append]
  have h57 : Fence.wide.fn 57 := trivial
  gi_wp2
  obtain ⟨wA, hwA⟩ : ∃ wA, wA = w.alloc (.cells #[.func (.func 57) #[] #[]] 66) := ⟨_, rfl⟩
  have eA : wA.heap.size = w.heap.size + 1 := by rw [hwA]; simp
  have bA : Below w.heap.size w wA := by rw [hwA]; exact (Below.refl _ _).alloc (Nat.le_refl _) _
  have cA : wA.cell? ⟨w.heap.size, 0, none⟩ = some (.func (.func 57) #[] #[]) := by rw [hwA]; simp
  rw [← hwA, ← eA]
  have bO := Boxed.new wA 22 (.slice none 0 0)
  have hB0 : Below wA.heap.size wA (wA.alloc (.cells #[.slice none 0 0] 22)) := (Below.refl _ _).alloc (Nat.le_refl _) _
  have bW : Below w.heap.size w (wA.alloc (.cells #[.slice none 0 0] 22)) := bA.trans (hB0.mono (by omega))
  have hst := told_stops_67 3 (by omega) Bl Bh Bx wA.heap.size p l cap h (by omega) hU (wA.alloc (.cells #[.slice none 0 0] 22)) (by simp) ((bW.cell (p := ⟨Bl, 0, none⟩) lBl).trans hBl) (by omega) ((bW.cell (p := ⟨Bh, 0, none⟩) lBh).trans hBh) (by omega) ((hS.below bW (Nat.le_refl _)).mono (by omega)) (fun x wr h0 h1 hb => CH x wr h0 h1 (bW.trans (hb.mono (by omega))))
  have HA := hidOg eA
  have lA : w.heap.size < wA.heap.size := by omega
  clear hwA CH hBl hBh hS eA
  refine wpIn_rangeFunc_ownG rfl (by omega) (gf := 87) (lb := #[.pointer (some ⟨Bl, 0, none⟩), .pointer (some ⟨Bh, 0, none⟩)]) rfl trivial (enters_of Try.func87 (by kernel_rfl) rfl)
    hst belowK_t (belowK_b (by simp)) (Below.refl _ _) (fun _ => rfl)
    (fun pre W => (∃ v, Boxed W wA.heap.size 22 v ∧ W.ownsRow wA.heap.size 33 1 v pre.length (pre.map (Value.int .u64)) ∧ True) ∧ Below wA.heap.size wA W)
    (fun _ _ _ => False)
    (OwnFrom.and (Own.from (holdsRow_own wA.heap.size wA.heap.size 22 33 1 (fun pre : List Int => pre.length) (fun pre : List Int => pre.map (Value.int .u64)) (fun _ _ => True)) _) (ownFrom_below (Nat.le_refl _) (by simp)))
    (fun _ _ _ _ _ hs _ _ => hs)
    ⟨⟨_, bO, World.ownsRow_nil _ _ _ _, trivial⟩, hB0⟩
    (fun x => { tmps := #[.func (.func 87) #[] #[.pointer (some ⟨Bl, 0, none⟩), .pointer (some ⟨Bh, 0, none⟩)], .func (.func 57) #[] #[], undef, .pointer (some ⟨w.heap.size, 0, none⟩), .slice none 0 0, .pointer (some ⟨wA.heap.size, 0, none⟩), .int .u64 x, .func (.func 87) #[] #[.pointer (some ⟨Bl, 0, none⟩), .pointer (some ⟨Bh, 0, none⟩)], .int .u64 x, undef, undef, undef, undef, undef, undef, undef], defers := [] }) ?assign ?body ?done ?stop
  case assign =>
    intro l x W K hK
    gi_wp2
    exact hK
  case body =>
    rintro yl pre x W ⟨⟨v, hv, hrow, _⟩, hB⟩ hlt
    have hc := hv.cell
    have hcf : W.cell? ⟨w.heap.size, 0, none⟩ = some (.func (.func 57) #[] #[]) := (hB.cell (p := ⟨w.heap.size, 0, none⟩) (by simp; omega)).trans cA
    have hsz := hB.size
    obtain ⟨v', w2, hrun, hown', hgrow, _⟩ := run_append_own (P := Try.prog) (W.alloc (.cells #[.int .u64 x] 33)).drew wA.heap.size 22 22 33 i0 (.int .u64 0) 1 8 Try.underlying22 hi hz0 hz1 hz2 rfl (by decide) v pre.length _ (show (W.alloc (.cells #[.int .u64 x] 33)).drew.ownsRow wA.heap.size 33 1 v pre.length (pre.map (Value.int .u64)) from hrow.alloc _) ⟨W.heap.size, 0, none⟩ 1 1 [.int .u64 x] rfl (show ∀ j u, [Value.int .u64 x][j]? = some u → (W.alloc (.cells #[.int .u64 x] 33)).cell? ((⟨W.heap.size, 0, none⟩ : Addr).add j) = some u from cell_one_new _ _ _) (by simp [Value.oneCell']) (by unfold maxLen; omega) (by omega) (by show wA.heap.size ≤ (W.alloc (.cells #[.int .u64 x] 33)).heap.size; rw [World.size_alloc]; omega)
    obtain ⟨g', cap', rfl⟩ := ownsRow_succ hown'
    rw [app_hide] at hrun
    obtain ⟨hv1, hv2, hr2, hk2, hb2⟩ := hv.appended (by decide) hrow hB.size (Nat.le_refl _) hown' (show (W.alloc (.cells #[.int .u64 x] 33)).grownBy w2 v.ownBlock from ⟨hgrow.os, hgrow.tape, hgrow.output, hgrow.size, hgrow.block⟩)
    have hc1 := hv1.cell
    have hf1 := hv1.frozen
    have hc2 : (W.alloc (.cells #[.int .u64 x] 33)).cell? ⟨wA.heap.size, 0, none⟩ = some v := (hv.alloc _).cell
    have hlv : wA.heap.size < W.heap.size := hv.lt
    have G1 := hidOg hv2
    have G2 := hidOg hr2
    have G3 := hidOg hk2
    have G4 := hidOg hb2
    have G5 := hidOg hB
    clear hown' hgrow hi hz0 hz1 hz2 hv1 hv2 hr2 hk2 hb2 hv hrow hB bO hB0 bW bA hst
    gi_wp2
    gi_region_with (first | (gi_at_call 57; refine (callsIn_wide.2 (itself_any x _)).mono ?_; rintro e w1 ⟨rfl, rfl⟩))
    all_goals exact ⟨G3.out.from _, G4.out, ⟨_, G1.out, by simpa using G2.out, trivial⟩, G5.out.trans G4.out⟩
  case done =>
    rintro D ys W hD rfl ⟨⟨v, hv, hrow, _⟩, hB⟩ hK
    have hc := hv.cell
    gi_wp2
    refine ⟨by simp, .inl ⟨_, _, rfl, run_takeDeferred hK, ?_⟩⟩
    have hw : Below w.heap.size w W := bA.trans (hB.mono (by omega))
    exact ⟨_, results_tmp rfl _ _ _, v, rfl, owns_base (ownsRow_putObj hrow _ hK rfl) (by omega), hw.trans (belowK_b (w := w) (Nat.le_refl _) W D _ _ (by simp at hD; omega) hK rfl rfl)⟩
  case stop =>
    rintro D c pre W _ _ h _
    exact h.elim

theorem Try.info3 : (Try.prog.info? 3).map (fun i => (i.zero, i.size, i.bytes)) = some (some (.int .i64 0), 1, 8) := by kernel_rfl

theorem keeps_below {W w1 : World} (hb : Below W.heap.size W w1) : KeepsOthers W w1 := KeepsOthers.of_grownBy (grown_of_below hb) (fun _ _ e _ => by cases e)

theorem body63 {W w1 : World} {nA m : Nat} {v : Value} {xs : List Value} (y : Int) (hv : Boxed W nA 39 v) (hrow : W.ownsRow nA 3 1 v m xs) (hA : nA ≤ W.heap.size) (hl : m ≤ 1099511627776) (hb1 : Below W.drew.heap.size W.drew w1) :
    ∃ g' cap' w2, (appS #[39, 39] 39 #[v, .slice (some ⟨w1.heap.size, 0, none⟩) 1 1]).run Try.prog (w1.alloc (.cells #[.int .i64 y] 3)) = .ok (.slice (some ⟨g', 0, none⟩) (m + 1) cap') w2 ∧
      w1.cell? ⟨nA, 0, none⟩ = some v ∧ (w1.alloc (.cells #[.int .i64 y] 3)).cell? ⟨nA, 0, none⟩ = some v ∧ nA < w1.heap.size ∧ w2.cell? ⟨nA, 0, none⟩ = some v ∧ w2.frozen? ⟨nA, 0, none⟩ = false ∧
      Hid (Boxed (w2.setCell ⟨nA, 0, none⟩ (.slice (some ⟨g', 0, none⟩) (m + 1) cap')) nA 39 (.slice (some ⟨g', 0, none⟩) (m + 1) cap') ∧ (w2.setCell ⟨nA, 0, none⟩ (.slice (some ⟨g', 0, none⟩) (m + 1) cap')).ownsRow nA 3 1 (.slice (some ⟨g', 0, none⟩) (m + 1) cap') (m + 1) (xs ++ [.int .i64 y]) ∧
        KeepsOthers W (w2.setCell ⟨nA, 0, none⟩ (.slice (some ⟨g', 0, none⟩) (m + 1) cap')) ∧ Below nA W (w2.setCell ⟨nA, 0, none⟩ (.slice (some ⟨g', 0, none⟩) (m + 1) cap'))) := by
  obtain ⟨i0, hi, hz0, hz1, hz2⟩ := info_parts Try.info3
  have hb : Below W.heap.size W w1 := ⟨hb1.os, hb1.tape, hb1.output, hb1.size, hb1.block⟩
  have hs := hb.size
  have hv1 : Boxed w1 nA 39 v := hv.kept (grown_of_below hb) (by simp)
  have hr1 : w1.ownsRow nA 3 1 v m xs := hrow.kept (row := none) (grown_of_below hb) (by cases v.ownBlock <;> simp)
  obtain ⟨v', w2, hrun, hown', hgrow, _⟩ := run_append_own (P := Try.prog) (w1.alloc (.cells #[.int .i64 y] 3)) nA 39 39 3 i0 (.int .i64 0) 1 8 Try.underlying39 hi hz0 hz1 hz2 rfl (by decide) v m _ (hr1.alloc _) ⟨w1.heap.size, 0, none⟩ 1 1 [.int .i64 y] rfl (cell_one_new _ _ _) (by simp [Value.oneCell']) (by unfold maxLen; omega) (by omega) (by rw [World.size_alloc]; omega)
  obtain ⟨g', cap', rfl⟩ := ownsRow_succ hown'
  obtain ⟨a1, a2, a3, a4, a5⟩ := hv1.appended (by decide) hr1 (by omega) (Nat.le_refl _) hown' hgrow
  exact ⟨g', cap', w2, hrun, hv1.cell, (hv1.alloc _).cell, hv1.lt, a1.cell, a1.frozen, a2, a3, (keeps_below hb).trans a4, (hb.mono hA).trans a5⟩

set_option maxRecDepth 100000 in
set_option maxHeartbeats 2000000 in
theorem row63 (Bl Bh Bx : Nat) (p : Option Addr) (l : List Int) (cap : Nat) (h : Int → Bool) (hlen : l.length ≤ 1099511627776) (hU : U64 l) (w : World)
    (hBl : w.cell? ⟨Bl, 0, none⟩ = some (.slice p l.length cap)) (lBl : Bl < w.heap.size)
    (hBh : w.cell? ⟨Bh, 0, none⟩ = some (.func (.func 64) #[] #[.pointer (some ⟨Bx, 0, none⟩)])) (lBh : Bh < w.heap.size) (hS : IRow .u64 w.heap.size w p l)
    (CH : ∀ (x : Int) (wr : World), 0 ≤ x → x < 18446744073709551616 → Below w.heap.size w wr → Calls Try.prog 64 #[.int .u64 x, .pointer (some ⟨Bx, 0, none⟩)] wr fun e w' => e = .returned (.bool (h x)) ∧ Below wr.heap.size wr w') :
    Calls Try.prog 63 #[.func (.func 87) #[] #[.pointer (some ⟨Bl, 0, none⟩), .pointer (some ⟨Bh, 0, none⟩)], .func (.func 66) #[] #[]] w fun e w' => ∃ v, e = .returned v ∧ w'.ownsRow w.heap.size 3 1 v (tolL l h).length ((tolL l h).map fun x => Value.int .i64 (p2 x)) ∧ Below w.heap.size w w' := by
  obtain ⟨i0, hi, hz0, hz1, hz2⟩ := info_parts Try.info3
  refine (callsIn_wide (n := 4)).1 ?_
  refine callsIn_of_wp_marks Try.func63 rfl trivial ?_ rfl
  simp only [Try.ntmps63, List.size_toArray, List.length_cons, List.length_nil, Nat.reduceAdd, Nat.reduceSub, Array.replicate_succ, Array.replicate_zero, List.push_toArray, List.append_toArray, List.nil_append, List.cons_append]
  have h66 : Fence.wide.fn 66 := trivial
  gi_wp2
  obtain ⟨wA, hwA⟩ : ∃ wA, wA = w.alloc (.cells #[.func (.func 66) #[] #[]] 51) := ⟨_, rfl⟩
  have eA : wA.heap.size = w.heap.size + 1 := by rw [hwA]; simp
  have bA : Below w.heap.size w wA := by rw [hwA]; exact (Below.refl _ _).alloc (Nat.le_refl _) _
  have cA : wA.cell? ⟨w.heap.size, 0, none⟩ = some (.func (.func 66) #[] #[]) := by rw [hwA]; simp
  rw [← hwA, ← eA]
  have bO := Boxed.new wA 39 (.slice none 0 0)
  have hB0 : Below wA.heap.size wA (wA.alloc (.cells #[.slice none 0 0] 39)) := (Below.refl _ _).alloc (Nat.le_refl _) _
  have bW : Below w.heap.size w (wA.alloc (.cells #[.slice none 0 0] 39)) := bA.trans (hB0.mono (by omega))
  have hst := told_stops64 3 (by omega) Bl Bh Bx wA.heap.size p l cap h (by omega) hU (wA.alloc (.cells #[.slice none 0 0] 39)) (by simp) ((bW.cell (p := ⟨Bl, 0, none⟩) lBl).trans hBl) (by omega) ((bW.cell (p := ⟨Bh, 0, none⟩) lBh).trans hBh) (by omega) ((hS.below bW (Nat.le_refl _)).mono (by omega)) (fun x wr h0 h1 hb => CH x wr h0 h1 (bW.trans (hb.mono (by omega))))
  have HA := hidOg eA
  have lA : w.heap.size < wA.heap.size := by omega
  clear hwA CH hBl hBh hS eA
  refine wpIn_rangeFunc_ownG rfl (by omega) (gf := 87) (lb := #[.pointer (some ⟨Bl, 0, none⟩), .pointer (some ⟨Bh, 0, none⟩)]) rfl trivial (enters_of Try.func87 (by kernel_rfl) rfl)
    hst belowK_t (belowK_b (by simp)) (Below.refl _ _) (fun _ => rfl)
    (fun pre W => (∃ v, Boxed W wA.heap.size 39 v ∧ W.ownsRow wA.heap.size 3 1 v pre.length (pre.map fun x : N64 => Value.int .i64 (p2 x.1)) ∧ True) ∧ Below wA.heap.size wA W)
    (fun _ _ _ => False)
    (OwnFrom.and (Own.from (holdsRow_own wA.heap.size wA.heap.size 39 3 1 (fun pre : List N64 => pre.length) (fun pre : List N64 => pre.map fun x : N64 => Value.int .i64 (p2 x.1)) (fun _ _ => True)) _) (ownFrom_below (Nat.le_refl _) (by simp)))
    (fun _ _ _ _ _ hs _ _ => hs)
    ⟨⟨_, bO, World.ownsRow_nil _ _ _ _, trivial⟩, hB0⟩
    (fun x : N64 => { tmps := #[.func (.func 87) #[] #[.pointer (some ⟨Bl, 0, none⟩), .pointer (some ⟨Bh, 0, none⟩)], .func (.func 66) #[] #[], undef, .pointer (some ⟨w.heap.size, 0, none⟩), .slice none 0 0, .pointer (some ⟨wA.heap.size, 0, none⟩), .int .u64 x.1, .func (.func 87) #[] #[.pointer (some ⟨Bl, 0, none⟩), .pointer (some ⟨Bh, 0, none⟩)], .int .u64 x.1, undef, undef, undef, undef, undef, undef, undef], defers := [] }) ?assign ?body ?done ?stop
  case assign =>
    intro l x W K hK
    gi_wp2
    exact hK
  case body =>
    rintro yl pre x W ⟨⟨v, hv, hrow, _⟩, hB⟩ hlt
    have hc := hv.cell
    have hcf : W.cell? ⟨w.heap.size, 0, none⟩ = some (.func (.func 66) #[] #[]) := (hB.cell (p := ⟨w.heap.size, 0, none⟩) (by simp; omega)).trans cA
    have hsz := hB.size
    have CB := fun (w1 : World) (hb1 : Below W.drew.heap.size W.drew w1) => body63 (p2 x.1) hv hrow hsz (Nat.le_trans (Nat.le_of_lt hlt) hlen) hb1
    have CS := fun (W : World) => second_any x.1 W x.2.1 x.2.2
    obtain ⟨y, hy⟩ : ∃ y, y = x.1 := ⟨_, rfl⟩
    have HY := hidOg hy
    rw [← hy] at CB CS ⊢
    have hlv : wA.heap.size < W.heap.size := hv.lt
    have G5 := hidOg hB
    clear hi hz0 hz1 hz2 hv hrow hB bO hB0 bW bA hst hy
    gi_wp2
    gi_region_with (first | (gi_at_call 66; refine (callsIn_wide.2 (CS _)).mono ?_; rintro e w1 ⟨rfl, hb1⟩; obtain ⟨g', cap', w2, hrun, d1, d2, d3, d4, d5, G⟩ := CB w1 hb1; clear CB hb1))
    all_goals exact ⟨G.out.2.2.1.from _, G.out.2.2.2, ⟨_, G.out.1, by have := G.out.2.1; rw [HY.out] at this; simpa using this, trivial⟩, G5.out.trans G.out.2.2.2⟩
  case done =>
    rintro D ys W hD hys ⟨⟨v, hv, hrow, _⟩, hB⟩ hK
    have hc := hv.cell
    have e1 : ys.length = (tolL l h).length := by rw [← hys]; simp
    have e2 : (ys.map fun x : N64 => Value.int .i64 (p2 x.1)) = (tolL l h).map fun x => Value.int .i64 (p2 x) := by rw [← hys, List.map_map]; rfl
    rw [e1, e2] at hrow
    clear e1 e2 hys
    gi_wp2
    refine ⟨by simp, .inl ⟨_, _, rfl, run_takeDeferred hK, ?_⟩⟩
    have hw : Below w.heap.size w W := bA.trans (hB.mono (by omega))
    exact ⟨_, results_tmp rfl _ _ _, v, rfl, owns_base (ownsRow_putObj hrow _ hK rfl) (by omega), hw.trans (belowK_b (w := w) (Nat.le_refl _) W D _ _ (by simp at hD; omega) hK rfl rfl)⟩
  case stop =>
    rintro D c pre W _ _ h _
    exact h.elim
end Go.Proofs.Ytooaghcjlomcpaa
