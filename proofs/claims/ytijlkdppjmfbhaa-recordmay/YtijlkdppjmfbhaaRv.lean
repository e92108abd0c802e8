/- A range over a function that hands over values which hold by what was handed over; blocks of cells that stay. -/
import Derived.Test.YtijlkdppjmfbhaaSp
import Derived.RangeFuncNested
import Derived.RangeFuncBound
import Derived.RangeFuncCalls
import Derived.RangeFuncLeaves
import Derived.RangeFuncBox
import Derived.Shelf.RegionOpen
import Derived.Stop.RegionWithIn
import Derived.Shelf.Abstract
import Derived.OwnWalkIn
import Derived.TacticsInMore
import Derived.LoopNIn
import Derived.LoopIn
import Derived.Sort.CutIn
import Derived.Scope
import Derived.WalkMore
import Derived.Laws.EntriesVeiled
namespace Go.Proofs.Ytijlkdppjmfbhaa
open Go.RowKit
section
variable {F : Fence} {n : Nat} {P : Program} {Q : Exit → Act → World → Prop} {a : Act} {w : World} {b : Frame} {k : List Item} {cs : List Frame}
theorem stepR_scope {c : Code} : step P (lone (b.atR a (.code (.scope c) :: k)) cs w) = .next (lone (b.atR a (.code c :: .inScope c :: k)) cs w) :=
  step_lone_go (by simp [stepG, stepG.exec, Frame.atR])
theorem stepR_inScope {c : Code} : step P (lone (b.atR a (.inScope c :: k)) cs w) = .next (lone (b.atR a k) cs w) :=
  step_lone_go (by simp [stepG, stepG.exec, Frame.atR])
theorem wpIn_scope_straight {c : Code} (h : c.wpIn F n P (Exit.noGoto Q) a w) : (Code.scope c).wpIn F n P Q a w := by
  intro b k cs hro hb hr
  have h0 : (lone (b.atR a (.code (.scope c) :: k)) cs w).fenced P F := fenced_calm hb hr rfl
  obtain ⟨e, a₁, w₁, hq, harr⟩ := h b (.inScope c :: k) cs hro hb hr
  cases e with
  | normal => exact ⟨.normal, a₁, w₁, hq, .head h0 stepR_scope (StepsIn.trans harr (.one (fenced_calm hb hr rfl) stepR_inScope))⟩
  | exit id =>
    have hx : exitTo id (.inScope c :: k) = exitTo id k := by simp [exitTo]
    exact ⟨_, a₁, w₁, hq, fun k' hk => .head h0 stepR_scope (harr.1 k' (by rw [hx]; exact hk)),
      fun hr' hk => let ⟨k₁, h1, h2⟩ := harr.2 hr' (by rw [hx]; exact hk); ⟨k₁, h1, .head h0 stepR_scope h2⟩⟩
  | goto l => exact hq.elim
  | ret => exact ⟨_, a₁, w₁, hq, .of_steps (.one h0 stepR_scope) harr⟩
  | panic ch => exact ⟨_, a₁, w₁, hq, .of_steps (.one h0 stepR_scope) harr⟩
  | outgrown => exact ⟨_, a₁, w₁, hq, .of_steps (.one h0 stepR_scope) harr⟩
end
end Go.Proofs.Ytijlkdppjmfbhaa
namespace Go.Proofs.Ytijlkdppjmfbhaa
open Go.RowKit Go.Shelf

def appS (ats : Array TypeId) (ty : TypeId) (args : Array Value) : Sem Value := Builtin.append_ ats ty args
theorem app_hide (ats : Array TypeId) (ty : TypeId) (args : Array Value) : Builtin.append_ ats ty args = appS ats ty args := rfl
theorem cell_heap {W W' : World} {b : Nat} (h : W'.heap[b]? = W.heap[b]?) (o : Nat) : W'.cell? ⟨b, o, none⟩ = W.cell? ⟨b, o, none⟩ := by simp only [World.cell?, h]
/-- All blocks of cells stay. -/
structure Kc (W W' : World) : Prop where
  size : W.heap.size ≤ W'.heap.size
  same : ∀ (k : Nat) (o : Obj), W.heap[k]? = some o → o.isCells = true → W'.heap[k]? = some o
theorem cell_isCells {W : World} {b o : Nat} {v : Value} (h : W.cell? ⟨b, o, none⟩ = some v) : ∃ ob, W.heap[b]? = some ob ∧ ob.isCells = true := by
  unfold World.cell? at h
  cases hb : W.heap[b]? with
  | none => simp [hb] at h
  | some ob => cases ob <;> simp [hb] at h <;> exact ⟨_, rfl, rfl⟩
theorem Kc.cell {W W' : World} (k : Kc W W') {b o : Nat} {v : Value} (h : W.cell? ⟨b, o, none⟩ = some v) : W'.cell? ⟨b, o, none⟩ = some v := by
  obtain ⟨ob, h1, h2⟩ := cell_isCells h
  rw [cell_heap ((k.same b ob h1 h2).trans h1.symm)]; exact h
theorem Kc.irow {W W' : World} (k : Kc W W') {q : IntKind} {p : Option Addr} {l : List Int} (h : IRow q W.heap.size W p l) : IRow q W'.heap.size W' p l := fun h0 => by
  obtain ⟨b, off, e, hN, hc⟩ := h h0
  exact ⟨b, off, e, Nat.lt_of_lt_of_le hN k.size, fun j hj => k.cell (hc j hj)⟩
theorem Kc.owns {W W' : World} (k : Kc W W') {B e s n : Nat} {v : Value} {xs : List Value} (h : W.ownsRow B e s v n xs) : W'.ownsRow B e s v n xs := by
  refine ⟨h.1, ?_⟩
  rcases h.2 with hn | ⟨g, cap, cur, rfl, hb, hgg, rest⟩
  · exact .inl hn
  · exact .inr ⟨g, cap, cur, rfl, hb, k.same _ _ hgg rfl, rest⟩
theorem Kc.srow {W W' : World} (k : Kc W W') {p : Option Addr} {l : List Sp} (h : SRow W.heap.size W p l) : SRow W'.heap.size W' p l := fun h0 => by
  obtain ⟨b, off, e, hN, hc⟩ := h h0
  exact ⟨b, off, e, Nat.lt_of_lt_of_le hN k.size, fun j hj => ⟨k.cell (hc j hj).1, k.cell (hc j hj).2⟩⟩
theorem Kc.ownS {W W' : World} (k : Kc W W') {B : Nat} {q : Option Addr} {l : List Sp} {c : Nat} (h : OwnS B W q l c) : OwnS B W' q l c := ⟨k.owns h.o, h.n⟩
theorem Kc.ownR {W W' : World} (k : Kc W W') {B : Nat} {q : Option Addr} {l : List Int} {c : Nat} (h : OwnR B W q l c) : OwnR B W' q l c := ⟨k.owns h.o, h.n⟩
theorem own_kc {β : Type} {B : Nat} {I : β → World → Prop} (h : ∀ s W W', Kc W W' → I s W → I s W') : OwnFrom B I := fun s W W' row hs hg hr =>
  h s W W' ⟨hg.size, fun k o hk ho => (hg.block k (Array.getElem?_eq_some_iff.1 hk).1 (fun e => by
    obtain ⟨_, o', ho', hc⟩ := hr k e.symm
    rw [hk] at ho'; cases ho'; rw [ho] at hc; cases hc)).trans hk⟩ hs

theorem kc_below {W W' : World} (h : Below W.heap.size W W') : Kc W W' := ⟨h.size, fun k _ hk _ => (h.block k (Array.getElem?_eq_some_iff.1 hk).1).trans hk⟩
theorem kc_put {W : World} {D : Nat} {o o' : Obj} (h : W.heap[D]? = some o) (ho : o.isCells = false) : Kc W (W.putObj D o') := ⟨(grownBy_putObj' W D o').size, fun k ob hk hc => ((grownBy_putObj' W D o').block k (Array.getElem?_eq_some_iff.1 hk).1 (fun e => by
    have : k = D := by simpa using e
    rw [this, h] at hk; cases hk; rw [ho] at hc; cases hc)).trans hk⟩
/-- All below N is as it was in w. -/
structure Be (N : Nat) (w X : World) : Prop where
  b : Below N w X
  s : N ≤ X.heap.size
section
variable {N : Nat} {w X Y : World}
theorem Be.refl (h : N ≤ w.heap.size) : Be N w w := ⟨Below.refl _ _, h⟩
theorem Be.le {M : Nat} (h : Be N w X) (hm : M ≤ N) : Be M w X := ⟨h.b.mono hm, Nat.le_trans hm h.s⟩
theorem Be.tr {M : Nat} {Z : World} (h : Be N w X) (g : Be M X Z) (hm : N ≤ M) : Be N w Z := ⟨h.b.trans (g.b.mono hm), Nat.le_trans hm g.s⟩
theorem Be.al (h : Be N w X) (o : Obj) : Be N w (X.alloc o) := ⟨h.b.alloc h.s o, by simp; exact Nat.le_trans h.s (by omega)⟩
theorem Be.dr (h : Be N w X) : Be N w X.drew := ⟨h.b.drew, h.s⟩
theorem Be.to (h : Be N w X) (hb : Below X.heap.size X Y) : Be N w Y := ⟨h.b.trans (hb.mono h.s), Nat.le_trans h.s hb.size⟩
theorem Be.st (h : Be N w X) {a : Addr} (ha : N ≤ a.block) (v : Value) : Be N w (X.setCell a v) := ⟨h.b.setCell ha v, by have := ((Below.refl 0 X).setCell (p := a) (Nat.zero_le _) v).size; exact Nat.le_trans h.s this⟩
theorem Be.st3 (h : Be N w X) {B : Nat} (hB : N ≤ B) (a b c : Value) : Be N w (((X.setCell ⟨B, 0, none⟩ a).setCell ⟨B, 1, none⟩ b).setCell ⟨B, 2, none⟩ c) := ((h.st (a := ⟨B, 0, none⟩) hB a).st (a := ⟨B, 1, none⟩) hB b).st (a := ⟨B, 2, none⟩) hB c
theorem Be.blk (h : Be N w X) {k : Nat} (hk : k < N) {o : Obj} (ho : w.heap[k]? = some o) : X.heap[k]? = some o := (h.b.block k hk).trans ho
theorem Be.box (h : Be N w X) {k : Nat} (hk : k < N) {a b c : Value} {t : TypeId} (ho : w.heap[k]? = some (.cells #[a, b, c] t (0, 0))) : X.cell? ⟨k, 0, none⟩ = some a ∧ X.cell? ⟨k, 1, none⟩ = some b ∧ X.cell? ⟨k, 2, none⟩ = some c := by
  obtain ⟨h0, h1, h2, _⟩ := heap3_cell (h.blk hk ho)
  exact ⟨h0, h1, h2⟩
end

section
variable (w : World) (o1 o2 o3 o4 : Obj)
theorem al2 : ((w.alloc o1).alloc o2).heap[w.heap.size]? = some o1 ∧ ((w.alloc o1).alloc o2).heap[w.heap.size + 1]? = some o2 := by
  refine ⟨(Below.heap_alloc _ _ _ (by simp)).trans (heap_alloc_new _ _), ?_⟩
  have := heap_alloc_new (w.alloc o1) o2
  rw [World.size_alloc] at this; exact this
theorem al3 : (((w.alloc o1).alloc o2).alloc o3).heap[w.heap.size]? = some o1 ∧ (((w.alloc o1).alloc o2).alloc o3).heap[w.heap.size + 1]? = some o2 ∧ (((w.alloc o1).alloc o2).alloc o3).heap[w.heap.size + 2]? = some o3 := by
  obtain ⟨h1, h2⟩ := al2 w o1 o2
  refine ⟨(Below.heap_alloc _ _ _ (by simp <;> omega)).trans h1, (Below.heap_alloc _ _ _ (by simp)).trans h2, ?_⟩
  have := heap_alloc_new ((w.alloc o1).alloc o2) o3
  rw [World.size_alloc, World.size_alloc] at this; exact this
theorem al4 : ((((w.alloc o1).alloc o2).alloc o3).alloc o4).heap[w.heap.size]? = some o1 ∧ ((((w.alloc o1).alloc o2).alloc o3).alloc o4).heap[w.heap.size + 1]? = some o2 ∧ ((((w.alloc o1).alloc o2).alloc o3).alloc o4).heap[w.heap.size + 2]? = some o3 ∧ ((((w.alloc o1).alloc o2).alloc o3).alloc o4).heap[w.heap.size + 3]? = some o4 := by
  obtain ⟨h1, h2, h3⟩ := al3 w o1 o2 o3
  refine ⟨(Below.heap_alloc _ _ _ (by simp <;> omega)).trans h1, (Below.heap_alloc _ _ _ (by simp <;> omega)).trans h2, (Below.heap_alloc _ _ _ (by simp)).trans h3, ?_⟩
  have := heap_alloc_new (((w.alloc o1).alloc o2).alloc o3) o4
  rw [World.size_alloc, World.size_alloc, World.size_alloc] at this; exact this
end
theorem al5 (w : World) (o1 o2 o3 o4 o5 : Obj) : (((((w.alloc o1).alloc o2).alloc o3).alloc o4).alloc o5).heap[w.heap.size]? = some o1 ∧ (((((w.alloc o1).alloc o2).alloc o3).alloc o4).alloc o5).heap[w.heap.size + 1]? = some o2 ∧ (((((w.alloc o1).alloc o2).alloc o3).alloc o4).alloc o5).heap[w.heap.size + 2]? = some o3 ∧ (((((w.alloc o1).alloc o2).alloc o3).alloc o4).alloc o5).heap[w.heap.size + 3]? = some o4 ∧ (((((w.alloc o1).alloc o2).alloc o3).alloc o4).alloc o5).heap[w.heap.size + 4]? = some o5 := by
  obtain ⟨h1, h2, h3, h4⟩ := al4 w o1 o2 o3 o4
  refine ⟨(Below.heap_alloc _ _ _ (by simp <;> omega)).trans h1, (Below.heap_alloc _ _ _ (by simp <;> omega)).trans h2, (Below.heap_alloc _ _ _ (by simp <;> omega)).trans h3, (Below.heap_alloc _ _ _ (by simp)).trans h4, ?_⟩
  have := heap_alloc_new ((((w.alloc o1).alloc o2).alloc o3).alloc o4) o5
  rw [World.size_alloc, World.size_alloc, World.size_alloc, World.size_alloc] at this; exact this
theorem cell1_heap {W : World} {B : Nat} {a : Value} {t : TypeId} (h : W.heap[B]? = some (.cells #[a] t (0, 0))) : W.cell? ⟨B, 0, none⟩ = some a := by simp [World.cell?, h]
theorem set3 {w W : World} {B : Nat} (hb : Below w.heap.size w W) (hB : w.heap.size ≤ B) (a b c : Value) : Below w.heap.size w (((W.setCell ⟨B, 0, none⟩ a).setCell ⟨B, 1, none⟩ b).setCell ⟨B, 2, none⟩ c) :=
  ((hb.setCell (p := ⟨B, 0, none⟩) hB a).setCell (p := ⟨B, 1, none⟩) hB b).setCell (p := ⟨B, 2, none⟩) hB c
theorem atW {W w1 : World} {n : Nat} {o : Obj} (hb : Below W.heap.size W w1) (h : W.heap[n]? = some o) : w1.heap[n]? = some o := (hb.block n (Array.getElem?_eq_some_iff.1 h).1).trans h
theorem blk1 {W : World} {o : Obj} : (W.alloc o).heap[W.heap.size]? = some o := heap_alloc_new W o
theorem blkS {W : World} {o : Obj} {k : Nat} (h : W.heap.size = k) : (W.alloc o).heap[k]? = some o := by subst h; exact heap_alloc_new W o
theorem cell2_heap {W : World} {B : Nat} {a b : Value} {t : TypeId} (h : W.heap[B]? = some (.cells #[a, b] t (0, 0))) : W.cell? ⟨B, 0, none⟩ = some a ∧ W.cell? ⟨B, 1, none⟩ = some b ∧ (∀ o, W.frozen? ⟨B, o, none⟩ = false) := ⟨by simp [World.cell?, h], by simp [World.cell?, h], fun o => by simp [World.frozen?, h]⟩
theorem fr_heap {W : World} {B : Nat} {cs : Array Value} {t : TypeId} (h : W.heap[B]? = some (.cells cs t (0, 0))) : ∀ o, W.frozen? ⟨B, o, none⟩ = false := fun o => by simp [World.frozen?, h]
end Go.Proofs.Ytijlkdppjmfbhaa
