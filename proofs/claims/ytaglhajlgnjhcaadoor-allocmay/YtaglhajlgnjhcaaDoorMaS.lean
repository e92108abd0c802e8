/- AllocMay: what lies where behind the two copies. -/
import Derived.Test.YtaglhajlgnjhcaaDoorReF
import Derived.Test.YtaglhajlgnjhcaaDoorReM
import Derived.Test.YtaglhajlgnjhcaaDoorOwB
namespace Go.Proofs.YtaglhajlgnjhcaaDoor
open Go.RowKit

theorem hidOf {p : Prop} (h : p) : Hid p := h
theorem bd0 {w1 w2 : World} (hb : Below w1.drew.heap.size w1.drew w2) : Below w1.heap.size w1 w2 := (Below.refl _ _).drew.trans hb
theorem bd1 {w1 w2 : World} {o : Obj} (hb : Below (w1.alloc o).drew.heap.size (w1.alloc o).drew w2) : Below w1.heap.size w1 w2 := below1 (bd0 hb)
theorem bd2 {w1 w2 : World} {o o' : Obj} (hb : Below ((w1.alloc o).alloc o').drew.heap.size ((w1.alloc o).alloc o').drew w2) : Below w1.heap.size w1 w2 := below2 (bd0 hb)
theorem ze1 {w1 w2 : World} {o : Obj} (hb : Below (w1.alloc o).heap.size (w1.alloc o) w2) : w2.heap[w1.heap.size]? = some o := atW hb (heap_at (W := w1) rfl)
theorem ze2 {w1 w2 : World} {o o' : Obj} (hb : Below ((w1.alloc o).alloc o').heap.size ((w1.alloc o).alloc o') w2) : w2.heap[w1.heap.size]? = some o ∧ w2.heap[w1.heap.size + 1]? = some o' :=
  ⟨atW hb ((heap_alloc_old (w := w1.alloc o) (by simp)).trans (heap_at (W := w1) rfl)), atW hb (heap_at (W := w1.alloc o) (by simp))⟩
theorem zz1 {w1 w2 : World} {o : Obj} (hb : Below (w1.alloc o).drew.heap.size (w1.alloc o).drew w2) : w2.heap[w1.heap.size]? = some o := ze1 (bd0 hb)
theorem zz2 {w1 w2 : World} {o o' : Obj} (hb : Below ((w1.alloc o).alloc o').drew.heap.size ((w1.alloc o).alloc o').drew w2) : w2.heap[w1.heap.size]? = some o ∧ w2.heap[w1.heap.size + 1]? = some o' := ze2 (bd0 hb)

theorem Tw.s6 {w W : World} {x y z x' y' z' : Value} (h : Tw w W x y z x' y' z') : W.cell? ⟨w.heap.size, 0, none⟩ = some x ∧ W.cell? ⟨w.heap.size, 1, none⟩ = some y ∧ W.cell? ⟨w.heap.size, 2, none⟩ = some z ∧ W.cell? ⟨w.heap.size + 1, 0, none⟩ = some x' ∧ W.cell? ⟨w.heap.size + 1, 1, none⟩ = some y' ∧ W.cell? ⟨w.heap.size + 1, 2, none⟩ = some z' := by
  obtain ⟨a0, a1, a2, _, _⟩ := cells3 h.a
  obtain ⟨b0, b1, b2, _, _⟩ := cells3 h.r
  exact ⟨a0, a1, a2, b0, b1, b2⟩
theorem Tw.drew {w W : World} {x y z x' y' z' : Value} (h : Tw w W x y z x' y' z') : Tw w W.drew x y z x' y' z' := h.below (Below.refl _ _).drew
theorem Tw.set3 {w W : World} {x y z x' y' z' : Value} (h : Tw w W x y z x' y' z') {A : Nat} {u v t : Value} (hA : w.heap.size + 1 < A) : Tw w (((W.setCell ⟨A, 0, none⟩ u).setCell ⟨A, 1, none⟩ v).setCell ⟨A, 2, none⟩ t) x y z x' y' z' :=
  ⟨(set3_other (by omega)).trans h.a, (set3_other (by omega)).trans h.r, below_set3 h.b (by omega) u v t⟩

/-- An allocator's rows lie in blocks from F on and below N. -/
structure AF (F N : Nat) (W : World) (p : Option Addr) (l : List (Int × Bool)) (q : Option Addr) (f : List Int) : Prop where
  fr : Fr W
  s : SRow N W p l
  i : IRow .i64 N W q f
  fp : FreshP F p
  fq : FreshP F q
  nw : N ≤ W.heap.size
  ln : l.length ≤ 8796093022208
  fn : f.length ≤ 8796093022208
theorem AF.in {F N : Nat} {W : World} {p : Option Addr} {l : List (Int × Bool)} {q : Option Addr} {f : List Int} (h : AF F N W p l q f) : AIn W p l q f :=
  ⟨h.fr, h.s.mono h.nw, h.i.mono h.nw, h.ln, h.fn⟩
theorem AF.below {F N : Nat} {W W' : World} {p : Option Addr} {l : List (Int × Bool)} {q : Option Addr} {f : List Int} (h : AF F N W p l q f) (hb : Below W.heap.size W W') : AF F N W' p l q f :=
  ⟨h.fr.below hb h.fr.lt, h.s.below hb h.nw, h.i.below hb h.nw, h.fp, h.fq, Nat.le_trans h.nw hb.size, h.ln, h.fn⟩
theorem AF.alloc {F N : Nat} {W : World} {p : Option Addr} {l : List (Int × Bool)} {q : Option Addr} {f : List Int} (h : AF F N W p l q f) (o : Obj) : AF F N (W.alloc o) p l q f := h.below ((Below.refl _ _).alloc (Nat.le_refl _) _)
theorem AF.set3 {F N : Nat} {W : World} {p : Option Addr} {l : List (Int × Bool)} {q : Option Addr} {f : List Int} (h : AF F N W p l q f) {R : Nat} {x y z : Value} (h0 : 0 < R) (hR : R < F ∨ N ≤ R) : AF F N (((W.setCell ⟨R, 0, none⟩ x).setCell ⟨R, 1, none⟩ y).setCell ⟨R, 2, none⟩ z) p l q f := by
  refine ⟨⟨by have := h.fr.lt; simpa using this, set3far (by omega) h.fr.c0, set3far (by omega) h.fr.c1⟩, ?_, ?_, h.fp, h.fq, by have := h.nw; simpa using this, h.ln, h.fn⟩
  · intro hl
    obtain ⟨b, off, rfl, hN, hc⟩ := h.s hl
    have hb : F ≤ b := h.fp _ rfl
    exact ⟨b, off, rfl, hN, fun k hk => ⟨set3far (by omega) (hc k hk).1, set3far (by omega) (hc k hk).2⟩⟩
  · intro hl
    obtain ⟨b, off, rfl, hN, hc⟩ := h.i hl
    have hb : F ≤ b := h.fq _ rfl
    exact ⟨b, off, rfl, hN, fun k hk => set3far (by omega) (hc k hk)⟩
theorem AF.of {F : Nat} {W : World} {p : Option Addr} {l : List (Int × Bool)} {c : Nat} {q : Option Addr} {f : List Int} {d : Nat} (h : AIx W p l c q f d ∧ FreshP F p ∧ FreshP F q) : AF F W.heap.size W p l q f :=
  ⟨h.1.i.fr, h.1.i.s, h.1.i.i, h.2.1, h.2.2, Nat.le_refl _, h.1.i.ln, h.1.i.fn⟩
theorem AF.cast {F F' N : Nat} {W : World} {p : Option Addr} {l : List (Int × Bool)} {q : Option Addr} {f : List Int} (h : AF F N W p l q f) (e : F = F') : AF F' N W p l q f := e ▸ h
theorem ae1 {w1 W : World} {o : Obj} {p : Option Addr} {l : List (Int × Bool)} {c : Nat} {q : Option Addr} {f : List Int} {d : Nat} (h : AIx W p l c q f d ∧ FreshP (w1.alloc o).heap.size p ∧ FreshP (w1.alloc o).heap.size q) : AF (w1.heap.size + 1) W.heap.size W p l q f := (AF.of h).cast (by simp)
theorem ae2 {w1 W : World} {o o' : Obj} {p : Option Addr} {l : List (Int × Bool)} {c : Nat} {q : Option Addr} {f : List Int} {d : Nat} (h : AIx W p l c q f d ∧ FreshP ((w1.alloc o).alloc o').heap.size p ∧ FreshP ((w1.alloc o).alloc o').heap.size q) : AF (w1.heap.size + 2) W.heap.size W p l q f := (AF.of h).cast (by simp)
theorem ad0 {w1 W : World} {p : Option Addr} {l : List (Int × Bool)} {c : Nat} {q : Option Addr} {f : List Int} {d : Nat} (h : AIx W p l c q f d ∧ FreshP w1.drew.heap.size p ∧ FreshP w1.drew.heap.size q) : AF w1.heap.size W.heap.size W p l q f := AF.of h
theorem ad1 {w1 W : World} {o : Obj} {p : Option Addr} {l : List (Int × Bool)} {c : Nat} {q : Option Addr} {f : List Int} {d : Nat} (h : AIx W p l c q f d ∧ FreshP (w1.alloc o).drew.heap.size p ∧ FreshP (w1.alloc o).drew.heap.size q) : AF (w1.heap.size + 1) W.heap.size W p l q f := ae1 h
theorem ad2 {w1 W : World} {o o' : Obj} {p : Option Addr} {l : List (Int × Bool)} {c : Nat} {q : Option Addr} {f : List Int} {d : Nat} (h : AIx W p l c q f d ∧ FreshP ((w1.alloc o).alloc o').drew.heap.size p ∧ FreshP ((w1.alloc o).alloc o').drew.heap.size q) : AF (w1.heap.size + 2) W.heap.size W p l q f := ae2 h

/-- Behind the two copies: their boxes A and B. -/
structure M4 (w W : World) (x y z x' y' z' : Value) (m : Int) (l : List (Int × Bool)) (f : List Int) (m2 : Int) (l2 : List (Int × Bool)) (f2 : List Int) (A : Nat) (p : Option Addr) (c : Nat) (q : Option Addr) (d : Nat) (B : Nat) (p2 : Option Addr) (c2 : Nat) (q2 : Option Addr) (d2 : Nat) : Prop where
  t : Tw w W x y z x' y' z'
  a : W.heap[A]? = some (.cells #[.int .i64 m, .slice p l.length c, .slice q f.length d] 25 (0, 0))
  b : W.heap[B]? = some (.cells #[.int .i64 m2, .slice p2 l2.length c2, .slice q2 f2.length d2] 25 (0, 0))
  ia : AIn W p l q f
  ib : AIn W p2 l2 q2 f2
theorem M4.below {w W W' : World} {x y z x' y' z' : Value} {m : Int} {l : List (Int × Bool)} {f : List Int} {m2 : Int} {l2 : List (Int × Bool)} {f2 : List Int} {A : Nat} {p : Option Addr} {c : Nat} {q : Option Addr} {d : Nat} {B : Nat} {p2 : Option Addr} {c2 : Nat} {q2 : Option Addr} {d2 : Nat} (h : M4 w W x y z x' y' z' m l f m2 l2 f2 A p c q d B p2 c2 q2 d2) (hb : Below W.heap.size W W') : M4 w W' x y z x' y' z' m l f m2 l2 f2 A p c q d B p2 c2 q2 d2 :=
  ⟨h.t.below hb, atW hb h.a, atW hb h.b, h.ia.below hb, h.ib.below hb⟩
end Go.Proofs.YtaglhajlgnjhcaaDoor
