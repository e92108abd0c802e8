/- Rows of rows of ids that a call owns: slices.Clone, slices.Reverse. -/
import Derived.Test.YtjnhalomkmdcgaaLwB
import Derived.Test.YtjnhalomkmdcgaaLkO
import Derived.Shelf.SlicesE.Reverse
namespace Go.Proofs
open Go.Shelf
def Try.laysE35_ren : Go.Shelf.Ren := ⟨fun | 35 => 29 | n => n, fun | 22 => 25 | 23 => 34 | n => n, fun | n => n⟩
theorem Try.laysE35 : Go.Proofs.SlLaysE.n35 Try.prog Try.laysE35_ren := {
  mixed := by kernel_rfl
  f35 := ⟨Try.f29.name, by decide, Try.func29.trans (congrArg some (by kernel_rfl))⟩
  t0 := Try.underlying0
  a0 := Try.isAgg0
  z0 := Try.sizeOf0
  v0 := Try.zeroValue0
  t3 := Try.underlying3
  a3 := Try.isAgg3
  z3 := Try.sizeOf3
  v3 := Try.zeroValue3
  t4 := Try.underlying4
  a4 := Try.isAgg4
  z4 := Try.sizeOf4
  v4 := Try.zeroValue4
  t22 := Try.underlying25
  a22 := Try.isAgg25
  z22 := Try.sizeOf25
  v22 := Try.zeroValue25
  a23 := Try.isAgg34
  z23 := Try.sizeOf34 }
end Go.Proofs
namespace Go.Proofs.Ytjnhalomkmdcgaa
open Go.RowKit Go.Sort

section
variable {α : Type} [Inhabited α] {en : α → Value}
theorem holds_ofE {w : World} {g : Nat} {cur : Array Value} {e : TypeId} {ss : List α} (hb : w.heap[g]? = some (.cells cur e (0, 0))) (h1 : cur.toList.take ss.length = ss.map en) : Holds en w g 0 ss.toArray := by
  intro j hj
  have hj' : j < ss.length := by simpa using hj
  have hc : cur.toList[j]? = some (en ss[j]) := by
    have : (cur.toList.take ss.length)[j]? = (ss.map en)[j]? := by rw [h1]
    rw [List.getElem?_take_of_lt hj'] at this
    rw [this]; simp [hj']
  refine ⟨?_, ?_⟩
  · simp only [World.cell?, hb]
    simp only [Nat.zero_add, Option.isSome_none, Bool.false_eq_true, if_false]
    rw [← Array.getElem?_toList, hc]
    simp [hj']
  · simp [World.frozen?, hb]
theorem heap_putE {w : World} {g n : Nat} {cur : Array Value} {e : TypeId} {fr : Nat × Nat} (d : Array α) (hb : w.heap[g]? = some (.cells cur e fr)) :
    (putRow en (Sort.ahead w n) g 0 d).heap[g]? = some (.cells (putCells en 0 d cur) e fr) := by
  simp [putRow, mapBlock, Sort.ahead, Array.getElem?_modify, hb, onCells]
theorem grownBy_putE {w : World} {g n : Nat} (d : Array α) : w.grownBy (putRow en (Sort.ahead w n) g 0 d) (some g) := by
  refine ⟨rfl, rfl, rfl, by simp, fun k hk hne => ?_⟩
  have : g ≠ k := fun e => hne (by rw [e])
  simp [putRow, mapBlock, Sort.ahead, Array.getElem?_modify, this]
theorem take_putCellsE (cur : Array Value) (ts : List α) (h : ts.length ≤ cur.size) : (putCells en 0 ts.toArray cur).toList.take ts.length = ts.map en := by
  apply List.ext_getElem?
  intro j
  by_cases hj : j < ts.length
  · rw [List.getElem?_take_of_lt hj, Array.getElem?_toList]
    simp [putCells, hj, show j < cur.size by omega]
  · rw [List.getElem?_take_eq_none (by omega), List.getElem?_eq_none (by simp; omega)]
theorem ownsRow_putE {w : World} {base g cap n : Nat} {e : TypeId} {cur : Array Value} {ss ts : List α} (hl : ts.length = ss.length) (hbase : base ≤ g) (hb : w.heap[g]? = some (.cells cur e (0, 0)))
    (h1 : ss.length ≤ cap) (h2 : cap ≤ maxLen) (h3 : cur.size = cap * 1) :
    (putRow en (Sort.ahead w n) g 0 ts.toArray).ownsRow base e 1 (.slice (some ⟨g, 0, none⟩) ss.length cap) ss.length (ts.map en) :=
  ⟨by simp [hl], .inr ⟨g, cap, _, rfl, hbase, heap_putE _ hb, h1, h2, by simp [putCells, h3], by rw [Nat.mul_one, ← hl]; exact take_putCellsE cur ts (by omega)⟩⟩
end

/-- Where a row of ids lies, and the row. -/
abbrev Rp := Option Addr × List Int × Nat
def vR (x : Rp) : Value := .slice x.1 x.2.1.length x.2.2
def lR (x : Rp) : List Int := x.2.1
def gR (X : List Rp) (k : Nat) : Rp := X.getD k (none, [], 0)
theorem gR_eq {X : List Rp} {k : Nat} (h : k < X.length) : gR X k = X[k] := by simp [gR, h]
theorem gR_mem {X : List Rp} {k : Nat} (h : k < X.length) : gR X k ∈ X := by rw [gR_eq h]; exact List.getElem_mem h
/-- Rows of ids, the rows of which a call owns; the ids lie below N. -/
structure RO (N B : Nat) (X : List Rp) (q : Option Addr) (c : Nat) (W : World) : Prop where
  o : W.ownsRow B 34 1 (.slice q X.length c) X.length (X.map vR)
  t : ∀ x ∈ X, TRow N W x.1 x.2.1 x.2.2
theorem RO.below {N B : Nat} {X : List Rp} {q : Option Addr} {c : Nat} {W W' : World} (h : RO N B X q c W) (hb : Below W.heap.size W W') (hN : N ≤ W.heap.size) : RO N B X q c W' := ⟨owns_below h.o hb, fun x hx => (h.t x hx).below hb hN⟩
theorem RO.cells {N B : Nat} {X : List Rp} {q : Option Addr} {c : Nat} {W : World} (h : RO N B X q c W) {k : Nat} (hk : k < X.length) : ∃ G, q = some ⟨G, 0, none⟩ ∧ B ≤ G ∧ G < W.heap.size ∧ W.cell? ⟨G, k, none⟩ = some (vR (gR X k)) ∧ W.frozen? ⟨G, k, none⟩ = false := by
  rcases h.o.2 with ⟨hn, h0⟩ | ⟨g, cap, cur, hv, hb, hg, h1, h2, h3, h4⟩
  · omega
  · cases hv
    refine ⟨g, rfl, hb, (Array.getElem?_eq_some_iff.1 hg).1, ?_, ?_⟩
    · have hc : cur.toList[k]? = some (vR (gR X k)) := by
        have : (cur.toList.take (X.length * 1))[k]? = (X.map vR)[k]? := by rw [h4]
        rw [List.getElem?_take_of_lt (by omega)] at this
        rw [this, gR_eq hk]; simp [hk]
      simp only [World.cell?, hg]
      simp only [Option.isSome_none, Bool.false_eq_true, if_false]
      rw [← Array.getElem?_toList, hc]
    · simp [World.frozen?, hg]
theorem reverse29 (N B : Nat) (X : List Rp) (q : Option Addr) (c : Nat) (w : World) (h : RO N B X q c w) (hB : N ≤ B) (hn : X.length ≤ 1000000) :
    Calls Try.prog 29 #[.slice q X.length c] w fun e w' => e = .returned (.tuple #[]) ∧ RO N B X.reverse q c w' ∧ Below B w w' ∧ w.grownBy w' (Value.slice q X.length c).ownBlock := by
  rcases h.o.2 with ⟨hv, h0⟩ | ⟨g, cap, cur, hv, hbase, hb, h1, h2, h3, h4⟩
  · obtain rfl : X = [] := List.eq_nil_of_length_eq_zero h0
    cases hv
    refine Calls.mono (AnyE.slices_Reverse_empty Try.laysE35 none 0 w) ?_
    rintro e w' ⟨rfl, rfl⟩
    exact ⟨rfl, h, Below.refl _ _, World.grownBy.refl _ _⟩
  · cases hv
    have hH : Holds vR w g 0 X.toArray := holds_ofE hb (by simpa using h4)
    refine Calls.mono (AnyE.slices_Reverse Try.laysE35 vR (fun _ => rfl) g 0 c X w hH (by omega)) ?_
    rintro e w' ⟨rfl, n, rfl⟩
    have hg := grownBy_putE (en := vR) (w := w) (g := g) (n := n) X.reverse.toArray
    have hlt := (Array.getElem?_eq_some_iff.1 hb).1
    have hbw : Below B w (putRow vR (Sort.ahead w n) g 0 X.reverse.toArray) := (Below.refl B w).grown hg (by omega) (fun k e => by have h' : g = k := Option.some.inj e; omega)
    refine ⟨rfl, ⟨?_, fun x hx => ?_⟩, hbw, hg⟩
    · rw [List.length_reverse]; exact ownsRow_putE (ts := X.reverse) (by simp) hbase hb h1 h2 h3
    · exact (h.t x (List.mem_reverse.1 hx)).below hbw hB
end Go.Proofs.Ytjnhalomkmdcgaa
