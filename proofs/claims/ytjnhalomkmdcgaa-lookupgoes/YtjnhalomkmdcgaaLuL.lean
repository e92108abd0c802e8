/- typeOf, and the closure by which entries are put in order. -/
import Derived.Test.YtjnhalomkmdcgaaLuK
import Derived.Test.YtjnhalomkmdcgaaShelf
namespace Go.Proofs.Ytjnhalomkmdcgaa
open Go.RowKit Go.Sort

theorem typeOf37 (s n : Int) (q : Option Addr) (k c : Nat) (w : World) :
    Calls Try.prog 37 #[.agg #[.int .i64 s, .slice q k c, .int .i64 n]] w fun e w' => e = .returned (.slice q k c) ∧ w' = w.alloc (.cells #[.int .i64 s, .slice q k c, .int .i64 n] 39) := by
  go_enter Try.func37, Try.ntmps37
  go_wp2
  go_ret
  exact ⟨rfl, rfl⟩
theorem fin4 (W : World) (o1 o2 o3 o4 : Obj) : ((((W.alloc o1).alloc o2).alloc o3).alloc o4).drew = grow (W.drewN 1) #[o1, o2, o3, o4] := by
  rw [alloc_eq_grow, alloc_eq_grow, alloc_eq_grow, alloc_eq_grow, grow_grow, grow_grow, grow_grow]; rfl
set_option maxRecDepth 20000 in
set_option maxHeartbeats 2000000 in
theorem clo59 (Bc Bk : Nat) (x y : Ep) (W : World) (hx : TRow W.heap.size W x.2.1.1 x.2.1.2.1 x.2.1.2.2) (hy : TRow W.heap.size W y.2.1.1 y.2.1.2.1 y.2.1.2.2) (lx : x.2.1.2.1.length ≤ 1000) (ly : y.2.1.2.1.length ≤ 1000)
    (hc : W.cell? ⟨Bc, 0, none⟩ = some (.func (.func 38) #[] #[])) (hk : W.cell? ⟨Bk, 0, none⟩ = some (.func (.func 37) #[] #[])) :
    Calls Try.prog 59 #[.agg #[.int .i64 x.1, .slice x.2.1.1 x.2.1.2.1.length x.2.1.2.2, .int .i64 x.2.2], .agg #[.int .i64 y.1, .slice y.2.1.1 y.2.1.2.1.length y.2.1.2.2, .int .i64 y.2.2], .pointer (some ⟨Bc, 0, none⟩), .pointer (some ⟨Bk, 0, none⟩)] W fun e w' =>
      e = .returned (.int .i64 (cmpL x.2.1.2.1 y.2.1.2.1)) ∧ ∃ q os', w' = grow (W.drewN q) os' := by
  obtain ⟨s, ⟨q, t, d⟩, n⟩ := x
  obtain ⟨s', ⟨q', t', d'⟩, n'⟩ := y
  simp only at hx hy lx ly ⊢
  have CC := fun (W2 : World) (hb : Below W.heap.size W W2) => compare38 q t d q' t' d' W2 (hx.i.to hb) (hy.i.to hb) lx ly
  obtain ⟨r, hr⟩ : ∃ r, r = cmpL t t' := ⟨_, rfl⟩
  rw [← hr] at CC ⊢
  obtain ⟨l, hl⟩ : ∃ l, l = t.length := ⟨_, rfl⟩
  obtain ⟨l', hl'⟩ : ∃ l', l' = t'.length := ⟨_, rfl⟩
  rw [← hl, ← hl'] at CC ⊢
  have bc := World.block_lt_of_cell? W _ hc
  have bk := World.block_lt_of_cell? W _ hk
  have B2 : ∀ o1 o2 : Obj, Below W.heap.size W ((W.alloc o1).alloc o2) := fun o1 o2 => ((Below.refl W.heap.size W).alloc (Nat.le_refl _) o1).alloc (by simp) o2
  have B3 : ∀ o1 o2 o3 : Obj, Below W.heap.size W (((W.alloc o1).alloc o2).alloc o3) := fun o1 o2 o3 => (B2 o1 o2).alloc (by simp; omega) o3
  have B4 : ∀ o1 o2 o3 o4 : Obj, Below W.heap.size W ((((W.alloc o1).alloc o2).alloc o3).alloc o4) := fun o1 o2 o3 o4 => (B3 o1 o2 o3).alloc (by simp; omega) o4
  have KB3 : Hid (∀ o1 o2 o3 : Obj, Below W.heap.size W (((W.alloc o1).alloc o2).alloc o3).drew) := fun o1 o2 o3 => (B3 o1 o2 o3).trans (below_drew _ _)
  have KB4 : Hid (∀ o1 o2 o3 o4 : Obj, Below W.heap.size W ((((W.alloc o1).alloc o2).alloc o3).alloc o4).drew) := fun o1 o2 o3 o4 => (B4 o1 o2 o3 o4).trans (below_drew _ _)
  have KC : Hid (∀ X : World, Below W.heap.size W X → X.cell? ⟨Bc, 0, none⟩ = some (.func (.func 38) #[] #[]) ∧ X.cell? ⟨Bk, 0, none⟩ = some (.func (.func 37) #[] #[])) := fun X hb => ⟨(hb.cell (p := ⟨Bc, 0, none⟩) bc).trans hc, (hb.cell (p := ⟨Bk, 0, none⟩) bk).trans hk⟩
  clear B2 B3 B4
  have K3 : Hid (((((W.alloc (.cells #[.int .i64 s, .slice q l d, .int .i64 n] 39)).alloc (.cells #[.int .i64 s', .slice q' l' d', .int .i64 n'] 39)).alloc (.cells #[.int .i64 s, .slice q l d, .int .i64 n] 39)).drew).cell? ⟨Bc, 0, none⟩ = some (.func (.func 38) #[] #[]) ∧ ((((W.alloc (.cells #[.int .i64 s, .slice q l d, .int .i64 n] 39)).alloc (.cells #[.int .i64 s', .slice q' l' d', .int .i64 n'] 39)).alloc (.cells #[.int .i64 s, .slice q l d, .int .i64 n] 39)).drew).cell? ⟨Bk, 0, none⟩ = some (.func (.func 37) #[] #[]) ∧ ((((W.alloc (.cells #[.int .i64 s, .slice q l d, .int .i64 n] 39)).alloc (.cells #[.int .i64 s', .slice q' l' d', .int .i64 n'] 39)).alloc (.cells #[.int .i64 s, .slice q l d, .int .i64 n] 39)).drew).cell? ⟨W.heap.size, 0, none⟩ = some (.int .i64 s) ∧ ((((W.alloc (.cells #[.int .i64 s, .slice q l d, .int .i64 n] 39)).alloc (.cells #[.int .i64 s', .slice q' l' d', .int .i64 n'] 39)).alloc (.cells #[.int .i64 s, .slice q l d, .int .i64 n] 39)).drew).cell? ⟨W.heap.size, 1, none⟩ = some (.slice q l d) ∧ ((((W.alloc (.cells #[.int .i64 s, .slice q l d, .int .i64 n] 39)).alloc (.cells #[.int .i64 s', .slice q' l' d', .int .i64 n'] 39)).alloc (.cells #[.int .i64 s, .slice q l d, .int .i64 n] 39)).drew).cell? ⟨W.heap.size, 2, none⟩ = some (.int .i64 n) ∧ ((((W.alloc (.cells #[.int .i64 s, .slice q l d, .int .i64 n] 39)).alloc (.cells #[.int .i64 s', .slice q' l' d', .int .i64 n'] 39)).alloc (.cells #[.int .i64 s, .slice q l d, .int .i64 n] 39)).drew).cell? ⟨W.heap.size + 1, 0, none⟩ = some (.int .i64 s') ∧ ((((W.alloc (.cells #[.int .i64 s, .slice q l d, .int .i64 n] 39)).alloc (.cells #[.int .i64 s', .slice q' l' d', .int .i64 n'] 39)).alloc (.cells #[.int .i64 s, .slice q l d, .int .i64 n] 39)).drew).cell? ⟨W.heap.size + 1, 1, none⟩ = some (.slice q' l' d') ∧ ((((W.alloc (.cells #[.int .i64 s, .slice q l d, .int .i64 n] 39)).alloc (.cells #[.int .i64 s', .slice q' l' d', .int .i64 n'] 39)).alloc (.cells #[.int .i64 s, .slice q l d, .int .i64 n] 39)).drew).cell? ⟨W.heap.size + 1, 2, none⟩ = some (.int .i64 n')) := ⟨(KC.out _ (KB3.out _ _ _)).1, (KC.out _ (KB3.out _ _ _)).2, by simp [go_sem], by simp [go_sem], by simp [go_sem], by simp [go_sem], by simp [go_sem], by simp [go_sem]⟩
  have K3' : Hid (((((W.alloc (.cells #[.int .i64 s, .slice q l d, .int .i64 n] 39)).alloc (.cells #[.int .i64 s', .slice q' l' d', .int .i64 n'] 39)).alloc (.cells #[.int .i64 s', .slice q' l' d', .int .i64 n'] 39)).drew).cell? ⟨Bc, 0, none⟩ = some (.func (.func 38) #[] #[]) ∧ ((((W.alloc (.cells #[.int .i64 s, .slice q l d, .int .i64 n] 39)).alloc (.cells #[.int .i64 s', .slice q' l' d', .int .i64 n'] 39)).alloc (.cells #[.int .i64 s', .slice q' l' d', .int .i64 n'] 39)).drew).cell? ⟨Bk, 0, none⟩ = some (.func (.func 37) #[] #[]) ∧ ((((W.alloc (.cells #[.int .i64 s, .slice q l d, .int .i64 n] 39)).alloc (.cells #[.int .i64 s', .slice q' l' d', .int .i64 n'] 39)).alloc (.cells #[.int .i64 s', .slice q' l' d', .int .i64 n'] 39)).drew).cell? ⟨W.heap.size, 0, none⟩ = some (.int .i64 s) ∧ ((((W.alloc (.cells #[.int .i64 s, .slice q l d, .int .i64 n] 39)).alloc (.cells #[.int .i64 s', .slice q' l' d', .int .i64 n'] 39)).alloc (.cells #[.int .i64 s', .slice q' l' d', .int .i64 n'] 39)).drew).cell? ⟨W.heap.size, 1, none⟩ = some (.slice q l d) ∧ ((((W.alloc (.cells #[.int .i64 s, .slice q l d, .int .i64 n] 39)).alloc (.cells #[.int .i64 s', .slice q' l' d', .int .i64 n'] 39)).alloc (.cells #[.int .i64 s', .slice q' l' d', .int .i64 n'] 39)).drew).cell? ⟨W.heap.size, 2, none⟩ = some (.int .i64 n) ∧ ((((W.alloc (.cells #[.int .i64 s, .slice q l d, .int .i64 n] 39)).alloc (.cells #[.int .i64 s', .slice q' l' d', .int .i64 n'] 39)).alloc (.cells #[.int .i64 s', .slice q' l' d', .int .i64 n'] 39)).drew).cell? ⟨W.heap.size + 1, 0, none⟩ = some (.int .i64 s') ∧ ((((W.alloc (.cells #[.int .i64 s, .slice q l d, .int .i64 n] 39)).alloc (.cells #[.int .i64 s', .slice q' l' d', .int .i64 n'] 39)).alloc (.cells #[.int .i64 s', .slice q' l' d', .int .i64 n'] 39)).drew).cell? ⟨W.heap.size + 1, 1, none⟩ = some (.slice q' l' d') ∧ ((((W.alloc (.cells #[.int .i64 s, .slice q l d, .int .i64 n] 39)).alloc (.cells #[.int .i64 s', .slice q' l' d', .int .i64 n'] 39)).alloc (.cells #[.int .i64 s', .slice q' l' d', .int .i64 n'] 39)).drew).cell? ⟨W.heap.size + 1, 2, none⟩ = some (.int .i64 n')) := ⟨(KC.out _ (KB3.out _ _ _)).1, (KC.out _ (KB3.out _ _ _)).2, by simp [go_sem], by simp [go_sem], by simp [go_sem], by simp [go_sem], by simp [go_sem], by simp [go_sem]⟩
  have K4 : Hid ((((((W.alloc (.cells #[.int .i64 s, .slice q l d, .int .i64 n] 39)).alloc (.cells #[.int .i64 s', .slice q' l' d', .int .i64 n'] 39)).alloc (.cells #[.int .i64 s, .slice q l d, .int .i64 n] 39)).alloc (.cells #[.int .i64 s', .slice q' l' d', .int .i64 n'] 39)).drew).cell? ⟨Bc, 0, none⟩ = some (.func (.func 38) #[] #[]) ∧ (((((W.alloc (.cells #[.int .i64 s, .slice q l d, .int .i64 n] 39)).alloc (.cells #[.int .i64 s', .slice q' l' d', .int .i64 n'] 39)).alloc (.cells #[.int .i64 s, .slice q l d, .int .i64 n] 39)).alloc (.cells #[.int .i64 s', .slice q' l' d', .int .i64 n'] 39)).drew).cell? ⟨Bk, 0, none⟩ = some (.func (.func 37) #[] #[]) ∧ (((((W.alloc (.cells #[.int .i64 s, .slice q l d, .int .i64 n] 39)).alloc (.cells #[.int .i64 s', .slice q' l' d', .int .i64 n'] 39)).alloc (.cells #[.int .i64 s, .slice q l d, .int .i64 n] 39)).alloc (.cells #[.int .i64 s', .slice q' l' d', .int .i64 n'] 39)).drew).cell? ⟨W.heap.size, 0, none⟩ = some (.int .i64 s) ∧ (((((W.alloc (.cells #[.int .i64 s, .slice q l d, .int .i64 n] 39)).alloc (.cells #[.int .i64 s', .slice q' l' d', .int .i64 n'] 39)).alloc (.cells #[.int .i64 s, .slice q l d, .int .i64 n] 39)).alloc (.cells #[.int .i64 s', .slice q' l' d', .int .i64 n'] 39)).drew).cell? ⟨W.heap.size, 1, none⟩ = some (.slice q l d) ∧ (((((W.alloc (.cells #[.int .i64 s, .slice q l d, .int .i64 n] 39)).alloc (.cells #[.int .i64 s', .slice q' l' d', .int .i64 n'] 39)).alloc (.cells #[.int .i64 s, .slice q l d, .int .i64 n] 39)).alloc (.cells #[.int .i64 s', .slice q' l' d', .int .i64 n'] 39)).drew).cell? ⟨W.heap.size, 2, none⟩ = some (.int .i64 n) ∧ (((((W.alloc (.cells #[.int .i64 s, .slice q l d, .int .i64 n] 39)).alloc (.cells #[.int .i64 s', .slice q' l' d', .int .i64 n'] 39)).alloc (.cells #[.int .i64 s, .slice q l d, .int .i64 n] 39)).alloc (.cells #[.int .i64 s', .slice q' l' d', .int .i64 n'] 39)).drew).cell? ⟨W.heap.size + 1, 0, none⟩ = some (.int .i64 s') ∧ (((((W.alloc (.cells #[.int .i64 s, .slice q l d, .int .i64 n] 39)).alloc (.cells #[.int .i64 s', .slice q' l' d', .int .i64 n'] 39)).alloc (.cells #[.int .i64 s, .slice q l d, .int .i64 n] 39)).alloc (.cells #[.int .i64 s', .slice q' l' d', .int .i64 n'] 39)).drew).cell? ⟨W.heap.size + 1, 1, none⟩ = some (.slice q' l' d') ∧ (((((W.alloc (.cells #[.int .i64 s, .slice q l d, .int .i64 n] 39)).alloc (.cells #[.int .i64 s', .slice q' l' d', .int .i64 n'] 39)).alloc (.cells #[.int .i64 s, .slice q l d, .int .i64 n] 39)).alloc (.cells #[.int .i64 s', .slice q' l' d', .int .i64 n'] 39)).drew).cell? ⟨W.heap.size + 1, 2, none⟩ = some (.int .i64 n')) := ⟨(KC.out _ (KB4.out _ _ _ _)).1, (KC.out _ (KB4.out _ _ _ _)).2, by simp [go_sem], by simp [go_sem], by simp [go_sem], by simp [go_sem], by simp [go_sem], by simp [go_sem]⟩
  have K4' : Hid ((((((W.alloc (.cells #[.int .i64 s, .slice q l d, .int .i64 n] 39)).alloc (.cells #[.int .i64 s', .slice q' l' d', .int .i64 n'] 39)).alloc (.cells #[.int .i64 s', .slice q' l' d', .int .i64 n'] 39)).alloc (.cells #[.int .i64 s, .slice q l d, .int .i64 n] 39)).drew).cell? ⟨Bc, 0, none⟩ = some (.func (.func 38) #[] #[]) ∧ (((((W.alloc (.cells #[.int .i64 s, .slice q l d, .int .i64 n] 39)).alloc (.cells #[.int .i64 s', .slice q' l' d', .int .i64 n'] 39)).alloc (.cells #[.int .i64 s', .slice q' l' d', .int .i64 n'] 39)).alloc (.cells #[.int .i64 s, .slice q l d, .int .i64 n] 39)).drew).cell? ⟨Bk, 0, none⟩ = some (.func (.func 37) #[] #[]) ∧ (((((W.alloc (.cells #[.int .i64 s, .slice q l d, .int .i64 n] 39)).alloc (.cells #[.int .i64 s', .slice q' l' d', .int .i64 n'] 39)).alloc (.cells #[.int .i64 s', .slice q' l' d', .int .i64 n'] 39)).alloc (.cells #[.int .i64 s, .slice q l d, .int .i64 n] 39)).drew).cell? ⟨W.heap.size, 0, none⟩ = some (.int .i64 s) ∧ (((((W.alloc (.cells #[.int .i64 s, .slice q l d, .int .i64 n] 39)).alloc (.cells #[.int .i64 s', .slice q' l' d', .int .i64 n'] 39)).alloc (.cells #[.int .i64 s', .slice q' l' d', .int .i64 n'] 39)).alloc (.cells #[.int .i64 s, .slice q l d, .int .i64 n] 39)).drew).cell? ⟨W.heap.size, 1, none⟩ = some (.slice q l d) ∧ (((((W.alloc (.cells #[.int .i64 s, .slice q l d, .int .i64 n] 39)).alloc (.cells #[.int .i64 s', .slice q' l' d', .int .i64 n'] 39)).alloc (.cells #[.int .i64 s', .slice q' l' d', .int .i64 n'] 39)).alloc (.cells #[.int .i64 s, .slice q l d, .int .i64 n] 39)).drew).cell? ⟨W.heap.size, 2, none⟩ = some (.int .i64 n) ∧ (((((W.alloc (.cells #[.int .i64 s, .slice q l d, .int .i64 n] 39)).alloc (.cells #[.int .i64 s', .slice q' l' d', .int .i64 n'] 39)).alloc (.cells #[.int .i64 s', .slice q' l' d', .int .i64 n'] 39)).alloc (.cells #[.int .i64 s, .slice q l d, .int .i64 n] 39)).drew).cell? ⟨W.heap.size + 1, 0, none⟩ = some (.int .i64 s') ∧ (((((W.alloc (.cells #[.int .i64 s, .slice q l d, .int .i64 n] 39)).alloc (.cells #[.int .i64 s', .slice q' l' d', .int .i64 n'] 39)).alloc (.cells #[.int .i64 s', .slice q' l' d', .int .i64 n'] 39)).alloc (.cells #[.int .i64 s, .slice q l d, .int .i64 n] 39)).drew).cell? ⟨W.heap.size + 1, 1, none⟩ = some (.slice q' l' d') ∧ (((((W.alloc (.cells #[.int .i64 s, .slice q l d, .int .i64 n] 39)).alloc (.cells #[.int .i64 s', .slice q' l' d', .int .i64 n'] 39)).alloc (.cells #[.int .i64 s', .slice q' l' d', .int .i64 n'] 39)).alloc (.cells #[.int .i64 s, .slice q l d, .int .i64 n] 39)).drew).cell? ⟨W.heap.size + 1, 2, none⟩ = some (.int .i64 n')) := ⟨(KC.out _ (KB4.out _ _ _ _)).1, (KC.out _ (KB4.out _ _ _ _)).2, by simp [go_sem], by simp [go_sem], by simp [go_sem], by simp [go_sem], by simp [go_sem], by simp [go_sem]⟩
  clear hx hy lx ly hr hl hl'
  go_enter Try.func59, Try.ntmps59
  go_wp2
  go_region_held3 (fun w' => w'.cell? ⟨Bc, 0, none⟩ = some (.func (.func 38) #[] #[]) ∧ w'.cell? ⟨Bk, 0, none⟩ = some (.func (.func 37) #[] #[]) ∧ w'.cell? ⟨W.heap.size, 0, none⟩ = some (.int .i64 s) ∧ w'.cell? ⟨W.heap.size, 1, none⟩ = some (.slice q l d) ∧ w'.cell? ⟨W.heap.size, 2, none⟩ = some (.int .i64 n) ∧ w'.cell? ⟨W.heap.size + 1, 0, none⟩ = some (.int .i64 s') ∧ w'.cell? ⟨W.heap.size + 1, 1, none⟩ = some (.slice q' l' d') ∧ w'.cell? ⟨W.heap.size + 1, 2, none⟩ = some (.int .i64 n')) (first | exact K3.out | exact K3'.out | exact K4.out | exact K4'.out | go_keep)
    (first | (go_at_call 37; refine Calls.mono (typeOf37 _ _ _ _ _ _) ?_; rintro e w1 ⟨rfl, rfl⟩) | (go_at_call 38; refine Calls.mono (CC _ ?_) ?_; exact KB4.out _ _ _ _; rintro e w2 ⟨rfl, hw⟩; rw [hw]; clear hw w2))
  all_goals
    go_wp2
    go_ret
    exact ⟨rfl, 1, _, fin4 W _ _ _ _⟩
/-- What lies where in a world of the sort's. -/
theorem sw_heap {α : Type} [Inhabited α] (enc : α → List Value) (k : Nat) (w : World) (blk off m : Nat) (dk : Array α) (os : Array Obj) : w.heap.size ≤ (sortWorldK enc k w blk off m dk os).heap.size ∧ ∀ b, b ≠ blk → b < w.heap.size → (sortWorldK enc k w blk off m dk os).heap[b]? = w.heap[b]? := by
  refine ⟨size_sortWorldK_c enc k w blk off m dk os, fun b hne hb => ?_⟩
  unfold sortWorldK grow putRowK putRow mapBlock Sort.ahead
  show (w.heap.modify blk _ ++ os)[b]? = _
  rw [Array.getElem?_append_left (by simpa using hb), Array.getElem?_modify]
  simp [Ne.symm hne]
/-- An entry that lies there. -/
structure GoodE (G : Nat) (w : World) (x : Ep) : Prop where
  t : TG G w x.2.1.1 x.2.1.2.1 x.2.1.2.2
  l : x.2.1.2.1.length ≤ 1000
abbrev ES (G : Nat) (w : World) := {x : Ep // GoodE G w x}
instance (G : Nat) (w : World) : Inhabited (ES G w) := ⟨⟨(0, (none, [], 0), 0), ⟨⟨⟨IRow.nil, by simp, fun y hy => by simp at hy⟩, fun h => by simp at h⟩, by simp⟩⟩⟩
def encX {G : Nat} {w : World} (x : ES G w) : List Value := [.int .i64 x.1.1, .slice x.1.2.1.1 x.1.2.1.2.1.length x.1.2.1.2.2, .int .i64 x.1.2.2]
def cfX {G : Nat} {w : World} (x y : ES G w) : Int := cmpL x.1.2.1.2.1 y.1.2.1.2.1
theorem swoX (G : Nat) (w : World) : SWO (ltOf (cfX (G := G) (w := w))) where
  irrefl x := by unfold ltOf cfX; rw [(cmp_eq _ _).2 rfl]; rfl
  trans x y z h1 h2 := by
    unfold ltOf cfX at *
    simp only [decide_eq_true_eq] at *
    exact isCmp.tr _ _ _ h1 h2
  ntrans x y z h1 h2 := by
    unfold ltOf cfX at *
    simp only [decide_eq_false_iff_not] at *
    intro h3
    by_cases e : y.1.2.1.2.1 = z.1.2.1.2.1
    · rw [← e] at h3; exact h1 h3
    · exact h1 (isCmp.tr _ _ _ h3 (isCmp.ge e h2))
theorem cmpLays59 (G Bc Bk : Nat) (w : World) (size : Nat) (hc : w.cell? ⟨Bc, 0, none⟩ = some (.func (.func 38) #[] #[])) (hk : w.cell? ⟨Bk, 0, none⟩ = some (.func (.func 37) #[] #[])) (nc : Bc ≠ G) (nk : Bk ≠ G) :
    CmpLays Try.prog 59 #[.pointer (some ⟨Bc, 0, none⟩), .pointer (some ⟨Bk, 0, none⟩)] (encX (G := G) (w := w)) 3 cfX G 0 size w := by
  intro m os dk _ x y
  obtain ⟨hs, hh⟩ := sw_heap (encX (G := G) (w := w)) 3 w G 0 m dk os
  have bc := World.block_lt_of_cell? w _ hc
  have bk := World.block_lt_of_cell? w _ hk
  have row : ∀ z : ES G w, TRow (sortWorldK encX 3 w G 0 m dk os).heap.size (sortWorldK encX 3 w G 0 m dk os) z.1.2.1.1 z.1.2.1.2.1 z.1.2.1.2.2 := fun z => by
    refine ⟨fun h0 => ?_, z.2.t.t.r, z.2.t.t.u⟩
    obtain ⟨b, o, e, hN, hcs⟩ := z.2.t.t.i h0
    have hne := z.2.t.g h0 _ e
    exact ⟨b, o, e, by omega, fun k hk => (cell_heap (hh b hne hN) _).trans (hcs k hk)⟩
  exact clo59 Bc Bk x.1 y.1 _ (row x) (row y) x.2.l y.2.l ((cell_heap (hh Bc nc bc) 0).trans hc) ((cell_heap (hh Bk nk bk) 0).trans hk)
/-- Slots in a block G, their types elsewhere; with room. -/
structure ERC (B G m c : Nat) (w : World) (X : List Ep) : Prop where
  o : w.ownsRow B 39 3 (.slice (some ⟨G, 0, none⟩) m c) m (cellsE X)
  n : X.length = m
  t : ∀ x ∈ X, TG G w x.2.1.1 x.2.1.2.1 x.2.1.2.2
theorem ERC.lt {B G m c : Nat} {w : World} {X : List Ep} (h : ERC B G m c w X) : G < w.heap.size := (h.o.lt G rfl).2
theorem ERC.cells {B G m c : Nat} {w : World} {X : List Ep} (h : ERC B G m c w X) {k : Nat} (hk : k < m) : w.cell? ⟨G, k * 3, none⟩ = some (.int .i64 (gP X k).1) ∧ w.cell? ⟨G, k * 3 + 1, none⟩ = some (.slice (gP X k).2.1.1 (gP X k).2.1.2.1.length (gP X k).2.1.2.2) ∧ w.cell? ⟨G, k * 3 + 2, none⟩ = some (.int .i64 (gP X k).2.2) ∧ (∀ o, w.frozen? ⟨G, o, none⟩ = false) := by
  have hc := h.o.cells (g := G) rfl
  obtain ⟨d0, d1, d2⟩ := cellsE_at X k (by rw [h.n]; exact hk)
  have e0 := hc _ _ d0
  have e1 := hc _ _ d1
  have e2 := hc _ _ d2
  rw [addr_add, Nat.zero_add] at e0 e1 e2
  exact ⟨e0, e1, e2, fun o => own_frozen h.o o⟩
theorem gP_val {G : Nat} {w : World} {D : List (ES G w)} {k : Nat} (hk : k < D.length) : gP (D.map (·.1)) k = (D[k]).1 := by rw [gP_eq (by simpa using hk)]; simp
theorem flat_at {G : Nat} {w : World} (D : List (ES G w)) {k r : Nat} (hk : k < D.length) (hr : r < 3) : (flatK encX 3 D.toArray)[k * 3 + r]? = some ((encX D[k])[r]'(by simpa [encX] using hr)) := by
  have hj : k * 3 + r < D.length * 3 := by omega
  have e1 : (k * 3 + r) / 3 = k := by omega
  have e2 : (k * 3 + r) % 3 = r := by omega
  have hr' : r < (encX D[k]).length := by simpa [encX] using hr
  simp [flatK, hj, e1, e2, hk, hr']
theorem flat_cells {G : Nat} {w : World} (D : List (ES G w)) : (flatK encX 3 D.toArray).toList = cellsE (D.map (·.1)) := by
  apply List.ext_getElem?
  intro j
  by_cases hj : j < D.length * 3
  · obtain ⟨k, r, hr, rfl⟩ : ∃ k r, r < 3 ∧ j = k * 3 + r := ⟨j / 3, j % 3, Nat.mod_lt _ (by omega), by omega⟩
    have hk : k < D.length := by omega
    obtain ⟨d0, d1, d2⟩ := cellsE_at (D.map (·.1)) k (by simpa using hk)
    rw [gP_val hk] at d0 d1 d2
    rw [Array.getElem?_toList, flat_at D hk hr]
    rcases (show r = 0 ∨ r = 1 ∨ r = 2 by omega) with rfl | rfl | rfl
    · rw [Nat.add_zero, d0]; rfl
    · rw [d1]; rfl
    · rw [d2]; rfl
  · rw [List.getElem?_eq_none (by simp [flatK]; omega), List.getElem?_eq_none (by rw [cellsE_len]; simp; omega)]
theorem take_put (cur : Array Value) (F : Array Value) (h : F.size ≤ cur.size) : (putCells id 0 F cur).toList.take F.size = F.toList := by
  apply List.ext_getElem?
  intro j
  by_cases hj : j < F.size
  · rw [List.getElem?_take_of_lt hj, Array.getElem?_toList]
    simp [putCells, hj, show j < cur.size by omega]
  · rw [List.getElem?_take_eq_none (by omega), List.getElem?_eq_none (by simp; omega)]
theorem erg_holds {B G c : Nat} {w : World} {X : List Ep} {D : List (ES G w)} (hD : D.map (·.1) = X) (hX : ERC B G X.length c w X) : HoldsK encX 3 w G 0 D.toArray := by
  intro j hj
  have hj' : j < D.length * 3 := by simpa [flatK] using hj
  obtain ⟨k, r, hr, rfl⟩ : ∃ k r, r < 3 ∧ j = k * 3 + r := ⟨j / 3, j % 3, Nat.mod_lt _ (by omega), by omega⟩
  have hk : k < D.length := by omega
  have hkX : k < X.length := by rw [← hD]; simpa using hk
  obtain ⟨c0, c1, c2, cf⟩ := hX.cells hkX
  have hg : gP X k = (D[k]).1 := by rw [← hD]; exact gP_val hk
  rw [hg] at c0 c1 c2
  refine ⟨?_, cf _⟩
  have e : (flatK encX 3 D.toArray)[k * 3 + r]! = (encX D[k])[r]'(by simpa [encX] using hr) := by
    rw [getElem!_def, flat_at D hk hr]
  rw [id, e, Nat.zero_add]
  rcases (show r = 0 ∨ r = 1 ∨ r = 2 by omega) with rfl | rfl | rfl
  · rw [Nat.add_zero]; exact c0
  · exact c1
  · exact c2
/-- A world of the sort's holds the slots as they were laid. -/
theorem sw_erg {B G c : Nat} {w : World} {X : List Ep} (hX : ERC B G X.length c w X) (m : Nat) (D : List (ES G w)) (hn : D.length = X.length) (os : Array Obj) : ERC B G X.length c (sortWorldK encX 3 w G 0 m D.toArray os) (D.map (·.1)) := by
  obtain ⟨hs, hh⟩ := sw_heap (encX (G := G) (w := w)) 3 w G 0 m D.toArray os
  refine ⟨?_, by simpa using hn, fun x hx => ?_⟩
  · rcases hX.o.2 with ⟨h', _⟩ | ⟨g', cap', cur, h', hb, hc, h1, h2, h3, h4⟩
    · cases h'
    · cases h'
      refine ⟨by rw [cellsE_len]; simp [hn], .inr ⟨G, c, putCells id 0 (flatK encX 3 D.toArray) cur, rfl, hb, ?_, h1, h2, by simp [putCells, h3], ?_⟩⟩
      · have hlt := (Array.getElem?_eq_some_iff.1 hc).1
        unfold sortWorldK grow putRowK putRow mapBlock Sort.ahead
        show (w.heap.modify G _ ++ os)[G]? = _
        rw [Array.getElem?_append_left (by simpa using hlt), Array.getElem?_modify, hc]
        simp [onCells]
      · have hsz : (flatK encX 3 D.toArray).size = X.length * 3 := by simp [flatK, hn]
        rw [← hsz, take_put cur _ (by rw [hsz, h3]; omega), flat_cells]
  · obtain ⟨y, hy, rfl⟩ := List.mem_map.1 hx
    refine ⟨⟨fun h0 => ?_, y.2.t.t.r, y.2.t.t.u⟩, y.2.t.g⟩
    obtain ⟨b, o, e, hN, hcs⟩ := y.2.t.t.i h0
    exact ⟨b, o, e, by omega, fun k hk => (cell_heap (hh b (y.2.t.g h0 _ e) hN) _).trans (hcs k hk)⟩
set_option maxHeartbeats 1000000 in
/-- slices.SortFunc, by types. -/
theorem sort72 (B G c Bc Bk : Nat) (w : World) (X : List Ep) (hX : ERC B G X.length c w X) (hl : ∀ x ∈ X, x.2.1.2.1.length ≤ 1000) (hc : w.cell? ⟨Bc, 0, none⟩ = some (.func (.func 38) #[] #[])) (hk : w.cell? ⟨Bk, 0, none⟩ = some (.func (.func 37) #[] #[])) (nc : Bc ≠ G) (nk : Bk ≠ G) (hn : X.length ≤ 1000) :
    Calls Try.prog 72 #[.slice (some ⟨G, 0, none⟩) X.length c, .func (.func 59) #[] #[.pointer (some ⟨Bc, 0, none⟩), .pointer (some ⟨Bk, 0, none⟩)]] w fun e w' => e = .returned (.tuple #[]) ∧
      ∃ X' : List Ep, X'.Perm X ∧ (∀ i j, i < j → j < X'.length → ¬ cmpL (gP X' j).2.1.2.1 (gP X' i).2.1.2.1 < 0) ∧ ERC B G X.length c w' X' ∧ w.heap.size ≤ w'.heap.size ∧ (∀ b, b ≠ G → b < w.heap.size → w'.heap[b]? = w.heap[b]?) ∧ w'.os = w.os ∧ w'.tape = w.tape ∧ w'.output = w.output := by
  have eg : ∀ args w, (callFunc 59 args).run Try.prog w = .ok (.enter 59 args) w := enters_of Try.func59 (by kernel_rfl) rfl
  have D : ∃ D : List (ES G w), D.map (·.1) = X := ⟨X.attach.map fun x => ⟨x.1, hX.t x.1 x.2, hl x.1 x.2⟩, by rw [List.map_map]; exact List.attach_map_subtype_val X⟩
  obtain ⟨D, hD⟩ := D
  have hlen : D.toArray.size = X.length := by rw [← hD]; simp
  have h := AnyQ.slices_SortFunc Try.sortE 3 Try.isAgg39 Try.sizeOf39 encX (fun _ => rfl) (fun x v hv => by simp [encX] at hv; rcases hv with rfl | rfl | rfl <;> rfl) cfX (swoX G w) 59 #[.pointer (some ⟨Bc, 0, none⟩), .pointer (some ⟨Bk, 0, none⟩)] G 0 c D.toArray w eg (by rw [hlen]; exact cmpLays59 G Bc Bk w _ hc hk nc nk) (erg_holds hD hX) hX.lt (by rw [hlen]; omega)
  change Calls Try.prog 72 _ _ _ at h
  rw [hlen] at h
  refine h.mono ?_
  rintro e w' ⟨rfl, d', m, os, hp, hs, rfl⟩
  obtain ⟨D'⟩ := d'
  obtain ⟨p1, _, p3⟩ := hp
  have hlen' : D'.length = X.length := by have := p1; simp at this; rw [this, ← hD]; simp
  have hperm : D'.Perm D := by
    have e1 : ((⟨D'⟩ : Array (ES G w)).extract 0 X.length).toList = D' := by simp [← hlen']
    have e2 : (D.toArray.extract 0 X.length).toList = D := by simp [← hlen]
    rw [e1, e2] at p3; exact p3
  obtain ⟨hsz, hh⟩ := sw_heap (encX (G := G) (w := w)) 3 w G 0 m D'.toArray os
  refine ⟨rfl, D'.map (·.1), by rw [← hD]; exact hperm.map _, fun i j hij hj => ?_, sw_erg hX m D' hlen' os, hsz, hh, rfl, rfl, rfl⟩
  have hj' : j < D'.length := by simpa using hj
  have := hs i j (Nat.zero_le _) hij (by omega)
  rw [gP_val hj', gP_val (show i < D'.length by omega)]
  simpa [ltOf, cfX, hj', show i < D'.length by omega] using this
end Go.Proofs.Ytjnhalomkmdcgaa
