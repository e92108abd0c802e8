/- AllocMay: what lies where, cell by cell. -/
import Derived.Test.YtaglhajlgnjhcaaDoorMaS
namespace Go.Proofs.YtaglhajlgnjhcaaDoor
open Go.RowKit

theorem M4.s9 {w W : World} {x y z x' y' z' : Value} {m : Int} {l : List (Int × Bool)} {f : List Int} {m2 : Int} {l2 : List (Int × Bool)} {f2 : List Int} {A : Nat} {p : Option Addr} {c : Nat} {q : Option Addr} {d : Nat} {B : Nat} {p2 : Option Addr} {c2 : Nat} {q2 : Option Addr} {d2 : Nat} (h : M4 w W x y z x' y' z' m l f m2 l2 f2 A p c q d B p2 c2 q2 d2) :
    W.cell? ⟨A, 0, none⟩ = some (.int .i64 m) ∧ W.cell? ⟨A, 1, none⟩ = some (.slice p l.length c) ∧ W.cell? ⟨A, 2, none⟩ = some (.slice q f.length d) ∧ W.cell? ⟨B, 0, none⟩ = some (.int .i64 m2) ∧ W.cell? ⟨B, 1, none⟩ = some (.slice p2 l2.length c2) ∧ W.cell? ⟨B, 2, none⟩ = some (.slice q2 f2.length d2) ∧ W.cell? ⟨w.heap.size, 0, none⟩ = some x ∧ W.cell? ⟨w.heap.size, 1, none⟩ = some y ∧ W.cell? ⟨w.heap.size, 2, none⟩ = some z := by
  obtain ⟨a0, a1, a2, _, _⟩ := cells3 h.a
  obtain ⟨b0, b1, b2, _, _⟩ := cells3 h.b
  obtain ⟨c0, c1, c2, _, _⟩ := cells3 h.t.a
  exact ⟨a0, a1, a2, b0, b1, b2, c0, c1, c2⟩
theorem M4.lts {w W : World} {x y z x' y' z' : Value} {m : Int} {l : List (Int × Bool)} {f : List Int} {m2 : Int} {l2 : List (Int × Bool)} {f2 : List Int} {A : Nat} {p : Option Addr} {c : Nat} {q : Option Addr} {d : Nat} {B : Nat} {p2 : Option Addr} {c2 : Nat} {q2 : Option Addr} {d2 : Nat} (h : M4 w W x y z x' y' z' m l f m2 l2 f2 A p c q d B p2 c2 q2 d2) :
    A < W.heap.size ∧ B < W.heap.size ∧ w.heap.size + 1 < W.heap.size :=
  ⟨(Array.getElem?_eq_some_iff.1 h.a).1, (Array.getElem?_eq_some_iff.1 h.b).1, (Array.getElem?_eq_some_iff.1 h.t.r).1⟩
theorem M4.drew {w W : World} {x y z x' y' z' : Value} {m : Int} {l : List (Int × Bool)} {f : List Int} {m2 : Int} {l2 : List (Int × Bool)} {f2 : List Int} {A : Nat} {p : Option Addr} {c : Nat} {q : Option Addr} {d : Nat} {B : Nat} {p2 : Option Addr} {c2 : Nat} {q2 : Option Addr} {d2 : Nat} (h : M4 w W x y z x' y' z' m l f m2 l2 f2 A p c q d B p2 c2 q2 d2) : M4 w W.drew x y z x' y' z' m l f m2 l2 f2 A p c q d B p2 c2 q2 d2 := h.below (Below.refl _ _).drew
theorem M4.alloc {w W : World} {x y z x' y' z' : Value} {m : Int} {l : List (Int × Bool)} {f : List Int} {m2 : Int} {l2 : List (Int × Bool)} {f2 : List Int} {A : Nat} {p : Option Addr} {c : Nat} {q : Option Addr} {d : Nat} {B : Nat} {p2 : Option Addr} {c2 : Nat} {q2 : Option Addr} {d2 : Nat} (h : M4 w W x y z x' y' z' m l f m2 l2 f2 A p c q d B p2 c2 q2 d2) (o : Obj) : M4 w (W.alloc o) x y z x' y' z' m l f m2 l2 f2 A p c q d B p2 c2 q2 d2 := h.below ((Below.refl _ _).alloc (Nat.le_refl _) _)
theorem AIn.nil {W : World} (h : Fr W) {p q : Option Addr} : AIn W p [] q [] := ⟨h, SRow.nil, IRow.nil, by simp, by simp⟩
theorem AIn.two {W : World} (h : Fr W) {p q : Option Addr} (hs : SRow W.heap.size W p [(0, true), (0, true)]) : AIn W p [(0, true), (0, true)] q [] := ⟨h, hs, IRow.nil, by simp, by simp⟩
theorem chkE_t {m : Int} {l : List (Int × Bool)} {f : List Int} (h : mayB m l f = true) : chkE m l f = 0 := by unfold chkE; rw [h]; rfl
theorem chkE_f {m : Int} {l : List (Int × Bool)} {f : List Int} (h : mayB m l f = false) : chkE m l f = 120 := by unfold chkE; rw [h]; rfl
theorem ad0x {w1 W : World} {p : Option Addr} {l : List (Int × Bool)} {c : Nat} {q : Option Addr} {f : List Int} {d : Nat} (h : AIx W p l c q f d ∧ FreshP w1.drew.heap.size p ∧ FreshP w1.drew.heap.size q) : ∃ F, F = w1.heap.size ∧ AF F W.heap.size W p l q f := ⟨_, rfl, ad0 h⟩
theorem ad1x {w1 W : World} {o : Obj} {p : Option Addr} {l : List (Int × Bool)} {c : Nat} {q : Option Addr} {f : List Int} {d : Nat} (h : AIx W p l c q f d ∧ FreshP (w1.alloc o).drew.heap.size p ∧ FreshP (w1.alloc o).drew.heap.size q) : ∃ F, F = w1.heap.size + 1 ∧ AF F W.heap.size W p l q f := ⟨_, rfl, ad1 h⟩
theorem ad2x {w1 W : World} {o o' : Obj} {p : Option Addr} {l : List (Int × Bool)} {c : Nat} {q : Option Addr} {f : List Int} {d : Nat} (h : AIx W p l c q f d ∧ FreshP ((w1.alloc o).alloc o').drew.heap.size p ∧ FreshP ((w1.alloc o).alloc o').drew.heap.size q) : ∃ F, F = w1.heap.size + 2 ∧ AF F W.heap.size W p l q f := ⟨_, rfl, ad2 h⟩
theorem ae0x {w1 W : World} {p : Option Addr} {l : List (Int × Bool)} {c : Nat} {q : Option Addr} {f : List Int} {d : Nat} (h : AIx W p l c q f d ∧ FreshP w1.heap.size p ∧ FreshP w1.heap.size q) : ∃ F, F = w1.heap.size ∧ AF F W.heap.size W p l q f := ⟨_, rfl, AF.of h⟩
theorem ae1x {w1 W : World} {o : Obj} {p : Option Addr} {l : List (Int × Bool)} {c : Nat} {q : Option Addr} {f : List Int} {d : Nat} (h : AIx W p l c q f d ∧ FreshP (w1.alloc o).heap.size p ∧ FreshP (w1.alloc o).heap.size q) : ∃ F, F = w1.heap.size + 1 ∧ AF F W.heap.size W p l q f := ⟨_, rfl, ae1 h⟩
theorem ae2x {w1 W : World} {o o' : Obj} {p : Option Addr} {l : List (Int × Bool)} {c : Nat} {q : Option Addr} {f : List Int} {d : Nat} (h : AIx W p l c q f d ∧ FreshP ((w1.alloc o).alloc o').heap.size p ∧ FreshP ((w1.alloc o).alloc o').heap.size q) : ∃ F, F = w1.heap.size + 2 ∧ AF F W.heap.size W p l q f := ⟨_, rfl, ae2 h⟩
theorem same_new (n : Int) (G H : Nat) (W : World) (hF : Fr W) (h : SRow W.heap.size W (some ⟨G, 0, none⟩) [(0, true), (0, true)]) (h' : SRow W.heap.size W (some ⟨H, 0, none⟩) [(0, true), (0, true)]) :
    Calls Tryd.prog 14 #[.agg #[.int .i64 n, .slice (some ⟨G, 0, none⟩) 2 2, .slice none 0 0], .agg #[.int .i64 n, .slice (some ⟨H, 0, none⟩) 2 2, .slice none 0 0]] W fun e w' => e = .returned (.bool true) ∧ Below W.heap.size W w' := by
  have := refSame14 n n 2 0 2 0 W (some ⟨G, 0, none⟩) (some ⟨H, 0, none⟩) [(0, true), (0, true)] [(0, true), (0, true)] none none [] [] (AIn.two hF h) (AIn.two hF h')
  rw [sameB_refl] at this
  exact this
theorem same_zero (W : World) (hF : Fr W) :
    Calls Tryd.prog 14 #[.agg #[.int .i64 0, .slice none 0 0, .slice none 0 0], .agg #[.int .i64 0, .slice none 0 0, .slice none 0 0]] W fun e w' => e = .returned (.bool true) ∧ Below W.heap.size W w' := by
  have := refSame14 0 0 0 0 0 0 W none none [] [] none none [] [] (AIn.nil hF) (AIn.nil hF)
  rw [sameB_refl] at this
  exact this
/-- The rows of two that New and the document's New have made, where the second's box is written. -/
theorem new_rows {w11 w12 : World} {o o' : Obj} {G H : Nat} {x y z : Value} (hg : w11.heap[G]? = some (.cells (cellsS [(0, true), (0, true)]).toArray 61 (0, 0))) (hb : Below ((w11.alloc o).alloc o').heap.size ((w11.alloc o).alloc o') w12) (hH : ((w11.alloc o).alloc o').heap.size ≤ H) (hs : SRow w12.heap.size w12 (some ⟨H, 0, none⟩) [(0, true), (0, true)]) :
    SRow (((w12.setCell ⟨w11.heap.size + 1, 0, none⟩ x).setCell ⟨w11.heap.size + 1, 1, none⟩ y).setCell ⟨w11.heap.size + 1, 2, none⟩ z).heap.size (((w12.setCell ⟨w11.heap.size + 1, 0, none⟩ x).setCell ⟨w11.heap.size + 1, 1, none⟩ y).setCell ⟨w11.heap.size + 1, 2, none⟩ z) (some ⟨G, 0, none⟩) [(0, true), (0, true)] ∧
    SRow (((w12.setCell ⟨w11.heap.size + 1, 0, none⟩ x).setCell ⟨w11.heap.size + 1, 1, none⟩ y).setCell ⟨w11.heap.size + 1, 2, none⟩ z).heap.size (((w12.setCell ⟨w11.heap.size + 1, 0, none⟩ x).setCell ⟨w11.heap.size + 1, 1, none⟩ y).setCell ⟨w11.heap.size + 1, 2, none⟩ z) (some ⟨H, 0, none⟩) [(0, true), (0, true)] := by
  have hB := below_set3 (below2 hb) (by omega : w11.heap.size ≤ w11.heap.size + 1) x y z
  simp at hH
  refine ⟨((srow_heap (l := [(0, true), (0, true)]) (t := 61) hg).below hB (Nat.le_refl _)).mono hB.size, ?_⟩
  have h2 := hs.set3 (B := w11.heap.size + 2) (fun a ha => by cases ha; exact hH) (by omega : w11.heap.size + 1 < w11.heap.size + 2) x y z
  simpa using h2
end Go.Proofs.YtaglhajlgnjhcaaDoor
