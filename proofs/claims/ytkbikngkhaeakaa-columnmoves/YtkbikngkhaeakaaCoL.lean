/- rows, and what it hands back. -/
import Derived.Test.YtkbikngkhaeakaaRv
import Derived.Test.YtkbikngkhaeakaaRfD
import Derived.Test.YtkbikngkhaeakaaCoA
namespace Go.Proofs.Ytkbikngkhaeakaa
open Go.RowKit Go.Shelf
attribute [local go_sem] Oper.semAt_some

/-- All below n₀ stays, and the block Bl. -/
structure Ke (n₀ Bl : Nat) (W W' : World) : Prop where
  b : Below n₀ W W'
  m : W'.heap[Bl]? = W.heap[Bl]?
theorem Ke.refl (n₀ Bl : Nat) (W : World) : Ke n₀ Bl W W := ⟨Below.refl _ _, rfl⟩
theorem Ke.trans {n₀ Bl : Nat} {A B C : World} (h : Ke n₀ Bl A B) (k : Ke n₀ Bl B C) : Ke n₀ Bl A C := ⟨h.b.trans k.b, k.m.trans h.m⟩
theorem ke_b {n₀ Bl : Nat} {w : World} (hn : n₀ ≤ w.heap.size) (hm : Bl < w.heap.size) (W : World) (l : Nat) (o o' : Obj) (hl : w.heap.size ≤ l) (h : W.heap[l]? = some o) (h1 : o.isCells = false) (h2 : o.isWalk = false) : Ke n₀ Bl W (W.putObj l o') := by
  have hlt := (Array.getElem?_eq_some_iff.1 h).1
  exact ⟨belowK_b hn W l o o' hl h h1 h2, (grownBy_putObj' W l o').block Bl (by omega) (by simp; omega)⟩
theorem rows37 (wd rs : Int) (p : Option Addr) (n c : Nat) (w : World) :
    Calls Try.prog 37 #[.agg #[.int .i64 wd, .int .i64 rs, .slice p n c]] w fun e w' => e = .returned (.func (.func 58) #[] #[.pointer (some ⟨w.heap.size, 0, none⟩)]) ∧ w' = w.alloc (.cells #[.int .i64 wd, .int .i64 rs, .slice p n c] 24) := by
  go_enter Try.func37, Try.ntmps37
  go_wp2
  go_ret
  exact ⟨rfl, rfl⟩
abbrev encK (p : Option Addr) (W : Nat) (k : Nat) : Array Value := #[.slice (cpK p (W : Int) (k : Int) ((k : Int) + 1)) (cnK (W : Int) (k : Int) ((k : Int) + 1)) (cnK (W : Int) (k : Int) ((k : Int) + 1))]
set_option maxRecDepth 100000 in
set_option maxHeartbeats 2000000 in
theorem rows58 (n : Nat) (hn : 1 ≤ n) (yl Bl n₀ W R : Nat) (p : Option Addr) (l : List Int) (c : Nat) (w0 w : World) (hC : CV w0 W R p l c) (J : List Nat → World → Prop)
    (hY : ∀ pre W1, J pre W1 → pre.length < R → YieldAt Fence.wide (n - 1) Try.prog yl (encK p W pre.length) W1 fun e W' => e = .returned (.bool true) ∧ J (pre ++ [pre.length]) W' ∧ Ke n₀ Bl W1 W')
    (hJ : AbidesFrom w.heap.size J) (hn₀ : n₀ ≤ w.heap.size) (hBl : w.heap[Bl]? = some (.cells #[.int .i64 (W : Int), .int .i64 (R : Int), .slice p l.length c] 24 (0, 0))) (h0 : J [] w) :
    CallsIn Fence.wide n Try.prog 58 #[.func (.yield yl) #[] #[], .pointer (some ⟨Bl, 0, none⟩)] w fun e W' => (∃ v, e = .returned v) ∧ ∃ xs, xs = List.range R ∧ J xs W' := by
  refine callsIn_of_wp Try.func58 rfl trivial ?_ rfl
  simp only [Try.ntmps58, List.size_toArray, List.length_cons, List.length_nil, Nat.reduceAdd, Nat.reduceSub, Array.replicate_succ, Array.replicate_zero, List.push_toArray, List.append_toArray, List.nil_append, List.cons_append]
  have h43 : Fence.wide.fn 43 := trivial
  have hrm := hC.rm
  have hbl := (Array.getElem?_eq_some_iff.1 hBl).1
  have CC : Hid (∀ (k : Nat) X, k < R → Calls Try.prog 43 #[.agg #[.int .i64 (W : Int), .int .i64 (R : Int), .slice p l.length c], .int .i64 (k : Int), .int .i64 ((k : Int) + 1)] X fun en w' => en = .returned (.slice (cpK p (W : Int) (k : Int) ((k : Int) + 1)) (cnK (W : Int) (k : Int) ((k : Int) + 1)) (cnK (W : Int) (k : Int) ((k : Int) + 1))) ∧ w' = X.alloc (.cells #[.int .i64 (W : Int), .int .i64 (R : Int), .slice p l.length c] 24)) := fun k X hk => by
    have h1 := hC.ok (f := k) (e := k + 1) (by omega) (by omega)
    push_cast at h1
    obtain ⟨a, b, ha, hb, hab, hbn⟩ := h1
    have := cut43 (W : Int) (R : Int) p l.length c (k : Int) ((k : Int) + 1) a b X ha hb hab (by have := hC.r.r; omega) hC.cm (by
      rcases hC.r.a with ⟨h1, _, h3⟩ | h
      · exact .inl ⟨h1, h3⟩
      · exact .inr h)
    unfold cpK cnK
    rw [← ha, ← hb]
    exact this
  have HY := hidOg hY
  obtain ⟨n0, hn0⟩ : ∃ n0, n0 = l.length := ⟨_, rfl⟩
  rw [← hn0] at CC hBl
  have HBL := hidOg hBl
  obtain ⟨z0, z1, z2, _⟩ := heap3_cell hBl
  clear hC hY hn0 hBl
  gi_wp2
  gi_loopw [6] (fun v wr => ∃ k : Nat, k ≤ R ∧ v = .int .i64 k ∧ J (List.range k) wr ∧ Ke n₀ Bl w wr) (fun v _ => R - (intOf v).toNat)
  case atStart => exact ⟨0, Nat.zero_le _, rfl, by simpa using h0, Ke.refl _ _ _⟩
  case round =>
    obtain ⟨k, hk, rfl, hJs, hnx⟩ := hrel
    have HJ := hidOg hJs
    have HX := hidOg hnx
    clear hJs hnx h0 z0 z1 z2
    by_cases hlt : k < R
    · obtain ⟨c0, c1, c2, _⟩ := heap3_cell (HX.out.m.trans HBL.out)
      have hbal := fun (o : Obj) => bal wr o
      have hsz := HX.out.b.size
      have hblr : Bl < wr.heap.size := Nat.lt_of_lt_of_le hbl hsz
      have HJA : Hid (∀ o, J (List.range k) (wr.alloc o) ∧ Ke n₀ Bl w (wr.alloc o)) := fun o => ⟨hJ _ _ _ none HJ.out (grown_of_below (hbal o)) (fun r e => by cases e), HX.out.trans ⟨(hbal o).mono (by omega), (hbal o).block Bl hblr⟩⟩
      have YY := fun (o : Obj) => HY.out (List.range k) (wr.alloc o) (HJA.out o).1 (by simpa using hlt)
      have e1 : (List.range k).length = k := by simp
      rw [e1] at YY
      dsimp only [encK] at YY
      have HR1 : Hid (List.range (k + 1) = List.range k ++ [k]) := List.range_succ
      have CCk := fun X => CC.out k X hlt
      obtain ⟨cp, hcp⟩ : ∃ cp, cp = cpK p (W : Int) (k : Int) ((k : Int) + 1) := ⟨_, rfl⟩
      obtain ⟨cn, hcn⟩ : ∃ cn, cn = cnK (W : Int) (k : Int) ((k : Int) + 1) := ⟨_, rfl⟩
      rw [← hcp, ← hcn] at CCk YY
      have HYY := hidOg YY
      clear hbal e1 hcp hcn YY HY CC
      gi_wp2_with (first | (gi_at_call 43; refine (callsIn_wide.2 (CCk _)).mono ?_; rintro e W2 ⟨rfl, hw⟩; rw [hw]; clear hw W2; obtain ⟨fn, tmps, assign, body, hy, hR⟩ := HYY.out (.cells #[.int .i64 (W : Int), .int .i64 (R : Int), .slice p n0 c] 24)))
      refine hR.mono ?_
      rintro e W3 ⟨rfl, hJ3, hk3⟩
      gi_wp2
      go_roundw
      case rel => exact ⟨k + 1, by omega, by go_num, by rw [HR1.out]; exact hJ3, (HJA.out _).2.trans hk3⟩
      case measure => simp [intOf]; omega
    · obtain rfl : R = k := by omega
      gi_wp2
      go_end0
      exact ⟨⟨_, rfl⟩, _, rfl, HJ.out⟩
end Go.Proofs.Ytkbikngkhaeakaa
