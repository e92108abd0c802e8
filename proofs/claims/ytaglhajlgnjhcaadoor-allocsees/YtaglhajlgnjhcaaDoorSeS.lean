/- AllocSees: what lies where. -/
import Derived.Test.YtaglhajlgnjhcaaDoorSeC
import Derived.Test.YtaglhajlgnjhcaaDoorSeM
import Derived.Test.YtaglhajlgnjhcaaDoorReF
namespace Go.Proofs.YtaglhajlgnjhcaaDoor
open Go.RowKit

/-- The boxed argument lies at w's end in W, the copy's box at A, the copy's rows somewhere. -/
structure S2 (w W : World) (x y z : Value) (m : Int) (l : List (Int × Bool)) (f : List Int) (A : Nat) (p : Option Addr) (c : Nat) (q : Option Addr) (d : Nat) : Prop where
  t : W.heap[w.heap.size]? = some (.cells #[x, y, z] 25 (0, 0))
  b : Below w.heap.size w W
  a : W.heap[A]? = some (.cells #[.int .i64 m, .slice p l.length c, .slice q f.length d] 25 (0, 0))
  ia : AIn W p l q f
theorem S2.below {w W W' : World} {x y z : Value} {m : Int} {l : List (Int × Bool)} {f : List Int} {A : Nat} {p : Option Addr} {c : Nat} {q : Option Addr} {d : Nat} (h : S2 w W x y z m l f A p c q d) (hb : Below W.heap.size W W') : S2 w W' x y z m l f A p c q d :=
  ⟨atW hb h.t, h.b.trans (hb.mono h.b.size), atW hb h.a, h.ia.below hb⟩
theorem S2.drew {w W : World} {x y z : Value} {m : Int} {l : List (Int × Bool)} {f : List Int} {A : Nat} {p : Option Addr} {c : Nat} {q : Option Addr} {d : Nat} (h : S2 w W x y z m l f A p c q d) : S2 w W.drew x y z m l f A p c q d := h.below (Below.refl _ _).drew
theorem S2.s6 {w W : World} {x y z : Value} {m : Int} {l : List (Int × Bool)} {f : List Int} {A : Nat} {p : Option Addr} {c : Nat} {q : Option Addr} {d : Nat} (h : S2 w W x y z m l f A p c q d) :
    W.cell? ⟨A, 0, none⟩ = some (.int .i64 m) ∧ W.cell? ⟨A, 1, none⟩ = some (.slice p l.length c) ∧ W.cell? ⟨A, 2, none⟩ = some (.slice q f.length d) ∧ W.cell? ⟨w.heap.size, 0, none⟩ = some x ∧ W.cell? ⟨w.heap.size, 1, none⟩ = some y ∧ W.cell? ⟨w.heap.size, 2, none⟩ = some z := by
  obtain ⟨a0, a1, a2, _, _⟩ := cells3 h.a
  obtain ⟨b0, b1, b2, _, _⟩ := cells3 h.t
  exact ⟨a0, a1, a2, b0, b1, b2⟩
theorem S2.start {w w1 w2 : World} {x y z : Value} {m : Int} {l : List (Int × Bool)} {f : List Int} {p : Option Addr} {c : Nat} {q : Option Addr} {d : Nat} (h1 : Below (w.alloc (.cells #[x, y, z] 25)).heap.size (w.alloc (.cells #[x, y, z] 25)) w1) (h2 : Below w1.heap.size w1 w2) (hi : AIn w2 p l q f) : S2 w (w2.alloc (.cells #[.int .i64 m, .slice p l.length c, .slice q f.length d] 25)) x y z m l f w2.heap.size p c q d :=
  ⟨(heap_alloc_old (by have := h1.size; have := h2.size; simp at *; omega)).trans (atW h2 (atW h1 (heap_at rfl))), ((below1 h1).trans (h2.mono (below1 h1).size)).alloc (by have := h2.size; have := (below1 h1).size; omega) _, heap_at rfl, hi.alloc _⟩
/-- What a slice of ids is, as All gives it. -/
theorem all_row {w W : World} {xs : List Int} {v : Value} (h : W.ownsRow w.heap.size 41 1 v xs.length (xs.map (Value.int .u64))) : ∃ p c, v = .slice p xs.length c ∧ IRow .u64 W.heap.size W p xs := by
  obtain ⟨p, c, hv, _, _, hr⟩ := irow_own' (q := .u64) (e := 41) (w := W) (base := w.heap.size) (v := v) (l := xs) h
  exact ⟨p, c, hv, hr⟩
theorem av_row {w W : World} {xs : List Int} {v : Value} (h : Av w W xs v) : ∃ p c, v = .slice p xs.length c ∧ IRow .u64 W.heap.size W p xs := by
  obtain ⟨p, c, hv, _, _, hr⟩ := irow_own' h.own
  exact ⟨p, c, hv, hr⟩
theorem may_slots {m : Int} {l : List (Int × Bool)} {f : List Int} (hm : mayB m l f = true) : l.length ≤ 1048578 ∧ ∀ k, k < l.length → 0 ≤ sG l k ∧ sG l k ≤ 7 := by
  obtain ⟨⟨m1, m2, m3, m4⟩, hso, _, _⟩ := (mayB_iff m l f).1 hm
  refine ⟨by omega, fun k hk => ?_⟩
  have := hso k hk
  unfold slotOk at this
  simp at this
  omega
end Go.Proofs.YtaglhajlgnjhcaaDoor
