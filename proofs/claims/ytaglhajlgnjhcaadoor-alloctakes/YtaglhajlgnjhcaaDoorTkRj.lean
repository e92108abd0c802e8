/- AllocTakes: the walk. -/
import Derived.Test.YtaglhajlgnjhcaaDoorTkV
import Derived.Deep.CutRange
namespace Go.Proofs.YtaglhajlgnjhcaaDoor
open Go.RowKit

theorem btw {a b c : World} (h1 : Below a.heap.size a b) (h2 : Below b.heap.size b c) : Below a.heap.size a c := h1.trans (h2.mono h1.size)
/-- What holds at a turn's beginning. -/
structure LI (w W : World) (A : Nat) (m : Int) (p : Option Addr) (l : List (Int × Bool)) (c : Nat) (q : Option Addr) (f : List Int) (d : Nat) : Prop where
  o : Ob W A 0 W.heap.size m p l c q f d
  l1 : l.length ≤ 40
  l2 : f.length ≤ 40
  b : Below w.heap.size w W
  z : w.heap.size ≤ A
  z0 : 0 < w.heap.size
theorem same_any {W : World} {B B' lo hi lo' hi' : Nat} {m : Int} {p p' : Option Addr} {l : List (Int × Bool)} {c c' : Nat} {q q' : Option Addr} {f : List Int} {d d' : Nat} (h : Ob W B lo hi m p l c q f d) (h' : Ob W B' lo' hi' m p' l c' q' f d') :
    Calls Tryd.prog 14 #[.agg #[.int .i64 m, .slice p l.length c, .slice q f.length d], .agg #[.int .i64 m, .slice p' l.length c', .slice q' f.length d']] W fun e w' => e = .returned (.bool true) ∧ Below W.heap.size W w' := by
  have := refSame14 m m c d c' d' W p p' l l q q' f f h.r.aix.i h'.r.aix.i
  rw [sameB_refl] at this
  exact this

/-- What lies where behind the first half's calls. -/
structure M1 (w3 W : World) (A n0 B8 N1 : Nat) (m : Int) (p : Option Addr) (l : List (Int × Bool)) (c : Nat) (q : Option Addr) (f : List Int) (d : Nat) (p1 : Option Addr) (c1 : Nat) (q1 : Option Addr) (d1 : Nat) (T : TR) (p3 : Option Addr) (c3 : Nat) (q3 : Option Addr) (d3 : Nat) (pt : Option Addr) (ct : Nat) (qt : Option Addr) (dt : Nat) : Prop where
  a : Ob W A 0 n0 m p l c q f d
  w : Ob W B8 n0 B8 m p1 l c1 q1 f d1
  g : Ob W w3.heap.size N1 w3.heap.size T.m p3 T.l c3 q3 T.f d3
  t : Ob W (w3.heap.size + 1) (w3.heap.size + 2) W.heap.size T.m pt T.l ct qt T.f dt
  b : Below w3.heap.size w3 W
theorem m1_zero {w3 : World} {A n0 B8 N1 : Nat} {m : Int} {p : Option Addr} {l : List (Int × Bool)} {c : Nat} {q : Option Addr} {f : List Int} {d : Nat} {p1 : Option Addr} {c1 : Nat} {q1 : Option Addr} {d1 : Nat} {T : TR} {p3 : Option Addr} {c3 : Nat} {q3 : Option Addr} {d3 : Nat}
    (ha : Ob w3 A 0 n0 m p l c q f d) (hw : Ob w3 B8 n0 B8 m p1 l c1 q1 f d1) (hx : AIx w3 p3 T.l c3 q3 T.f d3) (hf : FreshP N1 p3) (hg : FreshP N1 q3) (W4 : World) (h4 : W4 = ((w3.alloc (.cells #[.int .i64 T.m, .slice p3 T.l.length c3, .slice q3 T.f.length d3] 25)).alloc (.cells #[.int .i64 0, .slice none 0 0, .slice none 0 0] 25))) :
    Ob W4 A 0 n0 m p l c q f d ∧ Ob W4 B8 n0 B8 m p1 l c1 q1 f d1 ∧ Ob W4 w3.heap.size N1 w3.heap.size T.m p3 T.l c3 q3 T.f d3 ∧ W4.heap[w3.heap.size + 1]? = some (.cells #[.int .i64 0, .slice none 0 0, .slice none 0 0] 25 (0, 0)) ∧ Below w3.heap.size w3 W4 ∧ W4.heap.size = w3.heap.size + 2 ∧ Fr W4 := by
  subst h4
  have hb := bel2 w3 (.cells #[.int .i64 T.m, .slice p3 T.l.length c3, .slice q3 T.f.length d3] 25) (.cells #[.int .i64 0, .slice none 0 0, .slice none 0 0] 25)
  refine ⟨ha.to hb, hw.to hb, ?_, heap_at (by simp), hb, by simp, fr_of ha.r.fr hb⟩
  refine Ob.to (W := w3.alloc (.cells #[.int .i64 T.m, .slice p3 T.l.length c3, .slice q3 T.f.length d3] 25)) ⟨heap_at rfl, ?_⟩ ((Below.refl _ _).alloc (Nat.le_refl _) _)
  have hr : Rw N1 w3.heap.size w3 p3 T.l c3 q3 T.f d3 := ⟨hx.i.fr, hx.i.s, hx.i.i, hf, hg, hx.hp, hx.hq, hx.hc, hx.hd, Nat.le_refl _, hx.i.ln, hx.i.fn⟩
  exact hr.to ((Below.refl _ _).alloc (Nat.le_refl _) _)

theorem m1_full {w3 W4 w5 w6 : World} {A n0 B8 N1 : Nat} {m : Int} {p : Option Addr} {l : List (Int × Bool)} {c : Nat} {q : Option Addr} {f : List Int} {d : Nat} {p1 : Option Addr} {c1 : Nat} {q1 : Option Addr} {d1 : Nat} {T : TR} {p3 : Option Addr} {c3 : Nat} {q3 : Option Addr} {d3 : Nat} {p6 : Option Addr} {c6 : Nat} {q6 : Option Addr} {d6 : Nat}
    (oa : Ob W4 A 0 n0 m p l c q f d) (ow : Ob W4 B8 n0 B8 m p1 l c1 q1 f d1) (og : Ob W4 w3.heap.size N1 w3.heap.size T.m p3 T.l c3 q3 T.f d3) (ot : w6.heap[w3.heap.size + 1]? = some (.cells #[.int .i64 0, .slice none 0 0, .slice none 0 0] 25 (0, 0))) (hz : W4.heap.size = w3.heap.size + 2) (hb4 : Below w3.heap.size w3 W4) (hb5 : Below W4.heap.size W4 w5) (hb6 : Below w5.heap.size w5 w6) (hx : AIx w6 p6 T.l c6 q6 T.f d6) (hf : FreshP w5.heap.size p6) (hg : FreshP w5.heap.size q6) (hn : n0 ≤ B8 ∧ B8 < N1 ∧ N1 ≤ w3.heap.size ∧ A < n0 ∧ 0 < A) :
    M1 w3 (((w6.setCell ⟨w3.heap.size + 1, 0, none⟩ (.int .i64 T.m)).setCell ⟨w3.heap.size + 1, 1, none⟩ (.slice p6 T.l.length c6)).setCell ⟨w3.heap.size + 1, 2, none⟩ (.slice q6 T.f.length d6)) A n0 B8 N1 m p l c q f d p1 c1 q1 d1 T p3 c3 q3 d3 p6 c6 q6 d6 := by
  have hb := btw hb5 hb6
  have h5 := hb5.size
  have h6 := hb6.size
  have hh := hole_set3 w6 (w3.heap.size + 1) (.int .i64 T.m) (.slice p6 T.l.length c6) (.slice q6 T.f.length d6)
  refine ⟨(oa.to hb).hole hh (by omega) (by omega) (by omega), (ow.to hb).hole hh (by omega) (by omega) (by omega), (og.to hb).hole hh (by omega) (by omega) (by omega), ?_, ?_⟩
  · exact (ob_put (w := w5) ot (by omega) (by omega) hx hf hg).wide (by omega) (by simp) (Nat.le_refl _)
  · exact below_set3 (hb4.trans (hb.mono (by omega))) (by omega) _ _ _
/-- What lies where behind the first half. -/
structure M2 (W : World) (A B8 B13 la ha lw hw : Nat) (ri : Bool) (m : Int) (p : Option Addr) (l : List (Int × Bool)) (c : Nat) (q : Option Addr) (f : List Int) (d : Nat) (pw : Option Addr) (cw : Nat) (qw : Option Addr) (dw : Nat) : Prop where
  a : Ob W A la ha m p l c q f d
  w : Ob W B8 lw hw m pw l cw qw f dw
  na : ha ≤ B13 ∨ B13 < la
  nw : hw ≤ B13 ∨ B13 < lw
  t : ∃ x y z, W.heap[B13]? = some (.cells #[x, y, z] 25 (0, 0))
  l1 : l.length ≤ 40
  l2 : f.length ≤ 40
  r : mayB m l f = ri

theorem ad_take {p : Option Addr} {l : List Int} (h : AdOk p ∨ l.length = 0) : AdOk p ∨ (l.take 8).length = 0 := by
  rcases h with h | h
  · exact .inl h
  · right; rw [List.length_take, h]; rfl
theorem idsOk_take {l : List Int} (h : idsOk l) (n : Nat) : idsOk (l.take n) := fun j hj => by
  have hj' : j < n ∧ j < l.length := by simp at hj; omega
  rw [iG_take' hj'.1]; exact h j hj'.2
theorem m2_num {n0 B8 N1 N2 A Z : Nat} (hn : n0 ≤ B8 ∧ B8 < N1 ∧ N1 ≤ N2 ∧ A < n0 ∧ 0 < A) (hz : N2 + 2 ≤ Z) : 0 < A ∧ A < B8 ∧ B8 < N2 + 1 ∧ N2 + 1 < Z := by omega
theorem m2_le {n0 B8 N1 N2 A : Nat} (hn : n0 ≤ B8 ∧ B8 < N1 ∧ N1 ≤ N2 ∧ A < n0 ∧ 0 < A) : A ≤ B8 := by omega
theorem m2_new {w7 w8 w9 : World} {A B8 B13 : Nat} {ri : Bool} {mo : Int} {x y z x' y' z' x2 y2 z2 : Value} {p8 : Option Addr} {l : List (Int × Bool)} {c8 : Nat} {q8 : Option Addr} {f : List Int} {d8 : Nat} {p9 : Option Addr} {c9 : Nat} {q9 : Option Addr} {d9 : Nat} (hb8 : Below w7.heap.size w7 w8) (hb9 : Below w8.heap.size w8 w9) (h8 : AIx w8 p8 l c8 q8 f d8) (f8 : FreshP w7.heap.size p8) (g8 : FreshP w7.heap.size q8) (h9 : AIx w9 p9 l c9 q9 f d9) (f9 : FreshP w8.heap.size p9) (g9 : FreshP w8.heap.size q9) (ha : w9.heap[A]? = some (.cells #[x, y, z] 25 (0, 0))) (hw : w9.heap[B8]? = some (.cells #[x', y', z'] 25 (0, 0))) (ht : w9.heap[B13]? = some (.cells #[x2, y2, z2] 25 (0, 0))) (hn : 0 < A ∧ A < B8 ∧ B8 < B13 ∧ B13 < w7.heap.size) (l1 : l.length ≤ 40) (l2 : f.length ≤ 40) (hr : mayB mo l f = ri) :
    M2 ((((((w9.setCell ⟨A, 0, none⟩ (.int .i64 mo)).setCell ⟨A, 1, none⟩ (.slice p8 l.length c8)).setCell ⟨A, 2, none⟩ (.slice q8 f.length d8)).setCell ⟨B8, 0, none⟩ (.int .i64 mo)).setCell ⟨B8, 1, none⟩ (.slice p9 l.length c9)).setCell ⟨B8, 2, none⟩ (.slice q9 f.length d9)) A B8 B13 w7.heap.size w9.heap.size w8.heap.size w9.heap.size ri mo p8 l c8 q8 f d8 p9 c9 q9 d9 := by
  have s8 := hb8.size
  have s9 := hb9.size
  have hh1 := hole_set3 w9 A (.int .i64 mo) (.slice p8 l.length c8) (.slice q8 f.length d8)
  have oA := ob_put (w := w7) (m := mo) ha (by omega) hn.1 (h8.below hb9) f8 g8
  have r10 := (Rw.of (w := w8) h9 f9 g9).hole hh1 hn.1 (.inr (by omega))
  have hw10 : ((((w9.setCell ⟨A, 0, none⟩ (.int .i64 mo)).setCell ⟨A, 1, none⟩ (.slice p8 l.length c8)).setCell ⟨A, 2, none⟩ (.slice q8 f.length d8))).heap[B8]? = some (.cells #[x', y', z'] 25 (0, 0)) := by rw [set3_oth (by omega)]; exact hw
  have ht10 : ((((w9.setCell ⟨A, 0, none⟩ (.int .i64 mo)).setCell ⟨A, 1, none⟩ (.slice p8 l.length c8)).setCell ⟨A, 2, none⟩ (.slice q8 f.length d8))).heap[B13]? = some (.cells #[x2, y2, z2] 25 (0, 0)) := by rw [set3_oth (by omega)]; exact ht
  have hh2 := hole_set3 (((w9.setCell ⟨A, 0, none⟩ (.int .i64 mo)).setCell ⟨A, 1, none⟩ (.slice p8 l.length c8)).setCell ⟨A, 2, none⟩ (.slice q8 f.length d8)) B8 (.int .i64 mo) (.slice p9 l.length c9) (.slice q9 f.length d9)
  refine ⟨oA.hole hh2 (by omega) (.inl hn.2.1) (.inr (by omega)), ⟨set3_heap hw10, r10.hole hh2 (by omega) (.inr (by omega))⟩, .inr hn.2.2.2, .inr (by omega), ⟨x2, y2, z2, ?_⟩, l1, l2, hr⟩
  rw [set3_oth (by omega)]; exact ht10

theorem irow_to {q : IntKind} {W W' : World} {p : Option Addr} {l : List Int} (h : IRow q W.heap.size W p l) (hb : Below W.heap.size W W') : IRow q W'.heap.size W' p l := (h.below hb (Nat.le_refl _)).mono hb.size
theorem irow_hole {q : IntKind} {lo hi N1 N2 : Nat} {W W' : World} {p : Option Addr} {l : List Int} (h : IRow q hi W p l) (hf : FreshP lo p) (hh : Hole N1 N2 W W') (ho : hi ≤ N1 ∨ N2 ≤ lo) (hw : hi ≤ W.heap.size) : IRow q hi W' p l := by
  intro hl
  obtain ⟨b, off, rfl, hb, hc⟩ := h hl
  have hlo := hf _ rfl
  simp only at hlo
  exact ⟨b, off, rfl, hb, fun k hk => (World.cell?_of_block (a := ⟨b, off + k, none⟩) (hh.block b (by omega) (by omega))).trans (hc k hk)⟩
/-- What lies where behind the second half's calls. -/
structure M3 (w9 w10 W : World) (A B8 B13 la ha lw hw : Nat) (m : Int) (p : Option Addr) (l : List (Int × Bool)) (c : Nat) (q : Option Addr) (f : List Int) (d : Nat) (pw : Option Addr) (cw : Nat) (qw : Option Addr) (dw : Nat) (T : GR') (p3 : Option Addr) (c3 : Nat) (q3 : Option Addr) (d3 : Nat) (pt : Option Addr) (ct : Nat) (qt : Option Addr) (dt : Nat) : Prop where
  a : Ob W A la ha m p l c q f d
  w : Ob W B8 lw hw m pw l cw qw f dw
  g : Ob W w10.heap.size w9.heap.size w10.heap.size T.m p3 T.l c3 q3 T.f d3
  t : Ob W B13 (w10.heap.size + 1) W.heap.size T.m pt T.l ct qt T.f dt
  s : ∀ k, w9.heap.size ≤ k → k < w10.heap.size → W.heap[k]? = w10.heap[k]?
theorem m3_zero {wc w9 w10 : World} {A B8 B13 la ha lw hw : Nat} {m : Int} {p : Option Addr} {l : List (Int × Bool)} {c : Nat} {q : Option Addr} {f : List Int} {d : Nat} {pw : Option Addr} {cw : Nat} {qw : Option Addr} {dw : Nat} {T : GR'} {p3 : Option Addr} {c3 : Nat} {q3 : Option Addr} {d3 : Nat} {x y z : Value} {pi : Option Addr} {I : List Int}
    (oa : Ob w10 A la ha m p l c q f d) (ow : Ob w10 B8 lw hw m pw l cw qw f dw) (na : ha ≤ B13 ∨ B13 < la) (nw : hw ≤ B13 ∨ B13 < lw) (hx : AIx w10 p3 T.l c3 q3 T.f d3) (hf : FreshP w9.heap.size p3) (hg : FreshP w9.heap.size q3) (ht : w10.heap[B13]? = some (.cells #[x, y, z] 25 (0, 0))) (hn : 0 < A ∧ A < B8 ∧ B8 < B13 ∧ B13 < wc.heap.size) (h9 : Below wc.heap.size wc w9) (h10 : Below w9.heap.size w9 w10) (hi : IRow .u64 w9.heap.size w9 pi I) (hfi : FreshP wc.heap.size pi) (W : World)
    (hW : W = (((w10.setCell ⟨B13, 0, none⟩ (.int .i64 0)).setCell ⟨B13, 1, none⟩ (.slice none 0 0)).setCell ⟨B13, 2, none⟩ (.slice none 0 0)).alloc (.cells #[.int .i64 T.m, .slice p3 T.l.length c3, .slice q3 T.f.length d3] 25)) :
    Ob W A la ha m p l c q f d ∧ Ob W B8 lw hw m pw l cw qw f dw ∧ Ob W w10.heap.size w9.heap.size w10.heap.size T.m p3 T.l c3 q3 T.f d3 ∧ W.heap[B13]? = some (.cells #[.int .i64 0, .slice none 0 0, .slice none 0 0] 25 (0, 0)) ∧ (∀ k, w9.heap.size ≤ k → k < w10.heap.size → W.heap[k]? = w10.heap[k]?) ∧ W.heap.size = w10.heap.size + 1 ∧ Fr W ∧ IRow .u64 W.heap.size W pi I := by
  subst hW
  have s9 := h9.size
  have s10 := h10.size
  have hh := hole_set3 w10 B13 (.int .i64 0) (.slice none 0 0) (.slice none 0 0)
  obtain ⟨V, hV⟩ : ∃ V, V = (((w10.setCell ⟨B13, 0, none⟩ (.int .i64 0)).setCell ⟨B13, 1, none⟩ (.slice none 0 0)).setCell ⟨B13, 2, none⟩ (.slice none 0 0)) := ⟨_, rfl⟩
  have hs : V.heap.size = w10.heap.size := by rw [hV]; simp
  have hz := set3_heap (x' := .int .i64 0) (y' := .slice none 0 0) (z' := .slice none 0 0) ht
  rw [← hV] at hh hz ⊢
  have hb : Below V.heap.size V (V.alloc (.cells #[.int .i64 T.m, .slice p3 T.l.length c3, .slice q3 T.f.length d3] 25)) := (Below.refl _ _).alloc (Nat.le_refl _) _
  have o1 := oa.hole hh (by omega) (.inl (by omega)) (by omega)
  have o2 := ow.hole hh (by omega) (.inl (by omega)) (by omega)
  have r3 := (Rw.of (w := w9) hx hf hg).hole hh (by omega) (.inr (by omega))
  have i3 := irow_hole (hi.below h10 (Nat.le_refl _)) hfi hh (.inr (by omega)) s10
  refine ⟨o1.to hb, o2.to hb, ⟨heap_at hs.symm, r3.to hb⟩, atW hb hz, fun k h1 h2 => ?_, by simp [hs], fr_of o1.r.fr hb, ?_⟩
  · rw [heap_alloc_old (by omega)]; exact hh.block k h2 (.inr (by omega))
  · exact irow_to (i3.mono (by omega)) hb
theorem m3_full {wc w9 w10 W4 w5 w6 : World} {A B8 B13 la ha lw hw : Nat} {m : Int} {p : Option Addr} {l : List (Int × Bool)} {c : Nat} {q : Option Addr} {f : List Int} {d : Nat} {pw : Option Addr} {cw : Nat} {qw : Option Addr} {dw : Nat} {T : GR'} {p3 : Option Addr} {c3 : Nat} {q3 : Option Addr} {d3 : Nat} {p6 : Option Addr} {c6 : Nat} {q6 : Option Addr} {d6 : Nat} {x y z : Value}
    (oa : Ob W4 A la ha m p l c q f d) (ow : Ob W4 B8 lw hw m pw l cw qw f dw) (na : ha ≤ B13 ∨ B13 < la) (nw : hw ≤ B13 ∨ B13 < lw) (og : Ob W4 w10.heap.size w9.heap.size w10.heap.size T.m p3 T.l c3 q3 T.f d3) (ot : w6.heap[B13]? = some (.cells #[x, y, z] 25 (0, 0))) (hs : ∀ k, w9.heap.size ≤ k → k < w10.heap.size → W4.heap[k]? = w10.heap[k]?) (hz : W4.heap.size = w10.heap.size + 1) (hb5 : Below W4.heap.size W4 w5) (hb6 : Below w5.heap.size w5 w6) (hx : AIx w6 p6 T.l c6 q6 T.f d6) (hf : FreshP w5.heap.size p6) (hg : FreshP w5.heap.size q6) (hn : 0 < A ∧ A < B8 ∧ B8 < B13 ∧ B13 < wc.heap.size) (h9 : wc.heap.size ≤ w9.heap.size) (h10 : w9.heap.size ≤ w10.heap.size) :
    M3 w9 w10 (((w6.setCell ⟨B13, 0, none⟩ (.int .i64 T.m)).setCell ⟨B13, 1, none⟩ (.slice p6 T.l.length c6)).setCell ⟨B13, 2, none⟩ (.slice q6 T.f.length d6)) A B8 B13 la ha lw hw m p l c q f d pw cw qw dw T p3 c3 q3 d3 p6 c6 q6 d6 := by
  have hb := btw hb5 hb6
  have h5 := hb5.size
  have h6 := hb6.size
  have hh := hole_set3 w6 B13 (.int .i64 T.m) (.slice p6 T.l.length c6) (.slice q6 T.f.length d6)
  refine ⟨(oa.to hb).hole hh (by omega) (.inl (by omega)) (by omega), (ow.to hb).hole hh (by omega) (.inl (by omega)) (by omega), (og.to hb).hole hh (by omega) (.inr (by omega)) (.inr (by omega)), ?_, fun k h1 h2 => ?_⟩
  · exact (ob_put (w := w5) ot (by omega) (by omega) hx hf hg).wide (by omega) (by simp) (Nat.le_refl _)
  · rw [hh.block k (by omega) (.inr (by omega)), hb.block k (by omega)]; exact hs k h1 h2

set_option maxRecDepth 20000 in
set_option maxHeartbeats 4000000 in
theorem takes_walk (m0 : Int) (p0 : Option Addr) (l0 : List (Int × Bool)) (c0 : Nat) (q0 : Option Addr) (f0 : List Int) (d0 : Nat) (pr : Option Addr) (R : List RR) (cr : Nat) (w : World) (hF : Fr w) (hs : SRow w.heap.size w p0 l0) (hi : IRow .i64 w.heap.size w q0 f0) (hp : AdOk p0 ∨ l0.length = 0) (hq : AdOk q0 ∨ f0.length = 0) (hc : l0.length ≤ c0) (hd : f0.length ≤ d0) (hR : VRow w.heap.size w pr R) (hRl : R.length ≤ 9223372036854775807) :
    Calls Tryd.prog 5 #[.agg #[.int .i64 m0, .slice p0 l0.length c0, .slice q0 f0.length d0], .slice pr R.length cr] w fun e w' => e = .returned (.bool true) ∧ Below w.heap.size w w' := by
  have CW := fun (o : Obj) => wakes_any (w.alloc o) (hF.alloc o)
  have CO := fun (W : World) (hb : Below w.heap.size w W) => own10f m0 p0 l0 c0 q0 f0 d0 W (fr_of hF hb) ((hs.below hb (Nat.le_refl _)).mono hb.size) ((hi.below hb (Nat.le_refl _)).mono hb.size) hp hq hc hd
  have HF := hidOv hF
  have HR := hidOv hR
  have HRL := hidOv hRl
  have hz0 := hF.lt
  have HZ0 := hidOv hz0
  obtain ⟨l1, e1⟩ : ∃ l1, l1 = l0.take 40 := ⟨_, rfl⟩
  obtain ⟨f1, e2⟩ : ∃ f1, f1 = f0.take 40 := ⟨_, rfl⟩
  have HL : Hid (l1.length ≤ 40 ∧ f1.length ≤ 40) := by unfold Hid; rw [e1, e2]; simp; omega
  rw [← e1, ← e2] at CO
  obtain ⟨n, hn⟩ : ∃ n, n = R.length := ⟨_, rfl⟩
  have HN := hidOv hn
  rw [← hn] at hRl ⊢
  clear e1 e2 hF hs hi hp hq hc hd hR hn hz0
  go_enter Tryd.func5, Tryd.ntmps5
  go_wp2_with (first | (go_at_call 9; refine Calls.mono (CW _) ?_; rintro e w1 ⟨rfl, hb1⟩; obtain ⟨a0, a1, a2, af, a3⟩ := cells3 (atW hb1 (heap_at rfl)); have hB1 := ((Below.refl w.heap.size w).alloc (Nat.le_refl _) _).trans (hb1.mono (by simp))) | (go_at_call 10; refine Calls.mono (CO _ hB1) ?_; rintro e w2 ⟨p1, c1, q1, d1, rfl, ⟨hx2, hf2, hg2⟩, hb2⟩))
  have HI : Hid (LI w (w2.alloc (.cells #[.int .i64 m0, .slice p1 l1.length c1, .slice q1 f1.length d1] 25)) w2.heap.size m0 p1 l1 c1 q1 f1 d1) := by
    have h := ob_new (w := w1) (m := m0) hx2 hf2 hg2
    exact ⟨h.wide (Nat.zero_le _) (by simp) (Nat.le_refl _), HL.out.1, HL.out.2, (btw hB1 hb2).alloc (Nat.le_trans hB1.size hb2.size) _, Nat.le_trans hB1.size hb2.size, HZ0.out⟩
  obtain ⟨A, hA⟩ : ∃ A, A = w2.heap.size := ⟨_, rfl⟩
  rw [← hA] at HI ⊢
  generalize (w2.alloc (.cells #[.int .i64 m0, .slice p1 l1.length c1, .slice q1 f1.length d1] 25)) = W0 at HI ⊢
  clear hx2 hf2 hg2 hb2 hb1 a0 a1 a2 af a3 hB1 CW CO HL hA HF HZ0
  go_wp2
  go_loopw [23] (fun i wr => ∃ (k : Nat) (m : Int) (p : Option Addr) (l : List (Int × Bool)) (c : Nat) (q : Option Addr) (f : List Int) (d : Nat), k ≤ n ∧ k ≤ 8 ∧ i = .int .i64 k ∧ LI w wr A m p l c q f d) (fun i _ => n - (intOf i).toNat)
  case atStart => exact ⟨0, _, _, _, _, _, _, _, Nat.zero_le _, Nat.zero_le _, rfl, HI.out⟩
  case round =>
    obtain ⟨k, m, p, l, c, q, f, d, hk, hk8, rfl, hli⟩ := hrel
    have H0 := hidOv hli
    clear hli HI
    by_cases hlt : k < n
    · obtain ⟨rb, ro, hpr, hrb, hrc⟩ := (HR.out.to (H0.out.b.mono (Nat.le_refl _))) (by have := HN.out; omega)
      subst hpr
      obtain ⟨hck, hki⟩ := hrc k (by have := HN.out; omega)
      obtain ⟨pk, hpk⟩ : ∃ pk, pk = rP R k := ⟨_, rfl⟩
      obtain ⟨ids, hids⟩ : ∃ ids, ids = rL R k := ⟨_, rfl⟩
      obtain ⟨ck, hcke⟩ : ∃ ck, ck = rC R k := ⟨_, rfl⟩
      rw [← hpk, ← hids, ← hcke] at hck hki
      obtain ⟨rb2, ro2, hq9, hq8, hrc2⟩ := HR.out (by have := HN.out; omega)
      have hki2 := (hrc2 k (by have := HN.out; omega)).2
      rw [← hpk, ← hids, ← hcke] at hki2
      have HKI := hidOv hki2
      clear hrc hrc2 hpk hids hcke hki hki2 hq9 hq8
      by_cases h8 : k = 8
      · have h8' : ((k : Int) == 8) = true := by simp; omega
        clear h8
        go_wp2
        go_ret
        exact ⟨rfl, H0.out.b⟩
      · have h8' : ((k : Int) == 8) = false := by simp; omega
        have KS : Hid (k + 1 ≤ n ∧ k + 1 ≤ 8 ∧ wrap64 ((k : Int) + 1) = ((k + 1 : Nat) : Int) ∧ n - (intOf (.int .i64 ((k + 1 : Nat) : Int))).toNat < n - (intOf (.int .i64 (k : Int))).toNat) := ⟨hlt, by omega, by unfold wrap64; omega, by simp [intOf]; omega⟩
        have hl1 := H0.out.l1
        have hl2 := H0.out.l2
        have HL1 := hidOv hl1
        have HL2 := hidOv hl2
        clear hl1 hl2
        have OA := hidOv H0.out.o
        obtain ⟨a0, a1, a2, af, a3⟩ := cells3 OA.out.b
        obtain ⟨TR0, hTR⟩ : ∃ TR0, TR0 = takeR m l f := ⟨_, rfl⟩
        have HTR := hidOv hTR
        have CT := fun (W : World) (h : AIn W p l q f) => take25 m c d W p l q f h HL1.out HL2.out
        rw [← hTR] at CT
        have CR := fun (W : World) (h : AIn W p l q f) => right12 m c d W p l q f h
        rw [right_may] at CR
        obtain ⟨ri, hri⟩ : ∃ ri, ri = mayB m l f := ⟨_, rfl⟩
        have HRI := hidOv hri
        rw [← hri] at CR
        clear hTR hri
        go_upto_if 41 with (first | (go_at_call 10; refine Calls.mono (own_ob40 OA.out HL1.out HL2.out (Below.refl _ _)) ?_; rintro e w1 ⟨p1, c1, q1, d1, rfl, hx1, hf1, hg1, hb1⟩; have OW := hidOv (ob_new (w := wr) (m := m) hx1 hf1 hg1); have OA := hidOv (OA.out.to (btw hb1 ((Below.refl w1.heap.size w1).alloc (Nat.le_refl _) (.cells #[.int .i64 m, .slice p1 l.length c1, .slice q1 f.length d1] 25)))); obtain ⟨a0, a1, a2, af, a3⟩ := cells3 OA.out.b) | (go_at_call 12; refine Calls.mono (CR _ OA.out.r.aix.i) ?_; rintro e w2 ⟨rfl, hb2⟩; have OW := hidOv (OW.out.to hb2); have OA := hidOv (OA.out.to hb2); obtain ⟨a0, a1, a2, af, a3⟩ := cells3 OA.out.b) | (go_at_call 25; refine Calls.mono (CT _ OA.out.r.aix.i) ?_; rintro e w3 ⟨v3, rfl, ⟨p3, c3, q3, d3, rfl, hx3, hf3, hg3⟩, hb3, hsp⟩; have HSP := hidOv hsp; have HX3 := hidOv (And.intro hx3 (And.intro hf3 hg3)); have HB3 := hidOv hb3; clear hsp hx3 hf3 hg3))
        have hOA3 := OA.out.to HB3.out
        have hOW3 := OW.out.to HB3.out
        obtain ⟨W4, hW4⟩ : ∃ W4, W4 = ((w3.alloc (.cells #[.int .i64 TR0.m, .slice p3 TR0.l.length c3, .slice q3 TR0.f.length d3] 25)).alloc (.cells #[.int .i64 0, .slice none 0 0, .slice none 0 0] 25)) := ⟨_, rfl⟩
        obtain ⟨x1, x2, x3, x4, x5, x6, x7⟩ := m1_zero hOA3 hOW3 HX3.out.1 HX3.out.2.1 HX3.out.2.2 W4 hW4
        rw [← hW4]
        have OA := hidOv x1
        have OW := hidOv x2
        have OG := hidOv x3
        have OT := hidOv x4
        have HB4 := hidOv x5
        have HZ4 := hidOv x6
        have HF4 := hidOv x7
        have HN1 : Hid (wr.heap.size ≤ w1.heap.size ∧ w1.heap.size < w2.heap.size ∧ w2.heap.size ≤ w3.heap.size ∧ A < wr.heap.size ∧ 0 < A) := by
          have h1 := hb1.size
          have h2 := hb2.size
          have h3 := HB3.out.size
          rw [World.size_alloc] at h2
          exact ⟨h1, h2, h3, H0.out.o.lt, Nat.lt_of_lt_of_le H0.out.z0 H0.out.z⟩
        have HBW : Hid (Below w.heap.size w W4) := btw (btw (btw H0.out.b (btw hb1 ((Below.refl w1.heap.size w1).alloc (Nat.le_refl _) _))) hb2) (btw HB3.out HB4.out)
        obtain ⟨a0, a1, a2, af, a3⟩ := cells3 OA.out.b
        clear hW4 x1 x2 x3 x4 x5 x6 x7 hOA3 hOW3 hb1 hb2 hb3 hx1 hf1 hg1 CT CR
        go_cut [14, 15, 23] from 23 to 111 (fun who no i wx => who = .int .u64 TR0.id ∧ no = .int .i64 TR0.e ∧ i = .int .i64 k ∧ (∃ pt ct qt dt, M1 w3 wx A wr.heap.size w1.heap.size w2.heap.size m p l c q f d p1 c1 q1 d1 TR0 p3 c3 q3 d3 pt ct qt dt) ∧ Below w.heap.size w wx)
        case first =>
          cases ri
          · have hT : TR0 = ⟨0, [], [], 0, 120⟩ := by rw [HTR.out]; exact takeR_bad HRI.out.symm
            subst hT
            go_wp2
            go_meet
            case rel => exact ⟨rfl, rfl, rfl, ⟨none, 0, none, 0, ⟨OA.out, OW.out, OG.out, ob_zero HF4.out OT.out _, HB4.out⟩⟩, HBW.out⟩
          · go_wp2_with (first | (go_at_call 10; refine Calls.mono (own_ob40 OA.out HL1.out HL2.out (Below.refl _ _)) ?_; rintro e w5 ⟨p5, c5, q5, d5, rfl, hx5, hf5, hg5, hb5⟩) | (go_at_call 26; refine Calls.mono (refTake26 m c5 d5 w5 p5 l q5 f hx5 HL1.out HL2.out HRI.out.symm) ?_; rw [← HTR.out]; rintro e w6 ⟨v6, rfl, ⟨p6, c6, q6, d6, rfl, hx6, hf6, hg6⟩, hb6⟩; have OT6 := hidOv (atW (btw hb5 hb6) OT.out); obtain ⟨t0, t1, t2, tf, t3⟩ := cells3 OT6.out))
            go_meet
            case rel => exact ⟨rfl, rfl, rfl, ⟨p6, c6, q6, d6, m1_full OA.out OW.out OG.out OT6.out HZ4.out HB4.out hb5 hb6 hx6 hf6 hg6 HN1.out⟩, below_set3 (btw HBW.out (btw hb5 hb6)) (by have := HN1.out; have := H0.out.z; omega) _ _ _⟩
        case rest =>
          obtain ⟨rfl, rfl, rfl, ⟨pt, ct, qt, dt, hM⟩, hBW⟩ := hcut
          have HM := hidOv hM
          have HBW := hidOv hBW
          clear hM hBW OA OW OG OT HB4 HZ4 HF4 a0 a1 a2 af a3
          obtain ⟨g0, g1, g2, gf, g3⟩ := cells3 HM.out.g.b
          obtain ⟨t0, t1, t2, tf, t3⟩ := cells3 HM.out.t.b
          go_upto_if 66 with (first | (go_at_call 14; refine Calls.mono (same_any HM.out.g HM.out.t) ?_; rintro e w6 ⟨rfl, hb6⟩; have g0 := (hb6.cell (p := ⟨w3.heap.size, 0, none⟩) g3).trans g0; have g1 := (hb6.cell (p := ⟨w3.heap.size, 1, none⟩) g3).trans g1; have g2 := (hb6.cell (p := ⟨w3.heap.size, 2, none⟩) g3).trans g2) | (go_at_call 27; refine Calls.mono (HSP.out _ (fun k _ hk => (HM.out.b.trans (hb6.mono HM.out.b.size)).block k hk)) ?_; rintro e w7 ⟨rfl, hh7⟩))
          have hn := HN1.out
          have OA := hidOv ((HM.out.a.to hb6).hole hh7 (by omega) (by omega) (by omega))
          have OW := hidOv ((HM.out.w.to hb6).hole hh7 (by omega) (by omega) (by omega))
          have OT := hidOv ((HM.out.t.to hb6).hole hh7 (by omega) (by omega) (by omega))
          have HB7 : Hid (Below w.heap.size w w7) := (btw HBW.out hb6).trans ((hh7.below (by have := HM.out.b.size; have := hb6.size; omega)).mono (by have := H0.out.z; omega))
          have HZ7 : Hid (w3.heap.size + 2 ≤ w7.heap.size) := OT.out.lt
          clear HM HBW g0 g1 g2 gf g3 t0 t1 t2 tf t3 hb6 hh7 hn HSP
          go_cut [23] from 23 to 111 (fun i wx => i = .int .i64 k ∧ (∃ la ha lw hw m' p' l' c' q' f' d' pw cw qw dw, M2 wx A w1.heap.size (w3.heap.size + 1) la ha lw hw ri m' p' l' c' q' f' d' pw cw qw dw) ∧ Below w.heap.size w wx)
          case first =>
            by_cases he : TR0.e = 0
            · have heb : (TR0.e == 0) = true := by simp [he]
              have HMAY := hidOv (take_may HL1.out HL2.out (by rw [← HTR.out]; exact he))
              rw [← HTR.out] at HMAY
              clear he
              obtain ⟨b0, b1, b2, bf, b3⟩ := cells3 OT.out.b
              have CO2 := fun (W' : World) (hb : Below w7.heap.size w7 W') => own_ob OT.out hb
              obtain ⟨L4, hL4⟩ : ∃ L4, L4 = TR0.l.take 40 := ⟨_, rfl⟩
              obtain ⟨F4, hF4⟩ : ∃ F4, F4 = TR0.f.take 40 := ⟨_, rfl⟩
              have HL4 : Hid (L4.length ≤ 40 ∧ F4.length ≤ 40) := by unfold Hid; rw [hL4, hF4]; simp; omega
              rw [← hL4, ← hF4] at CO2 HMAY
              have hA8 : A ≠ w1.heap.size := by have := HN1.out; omega
              have hA13 : A ≠ w3.heap.size + 1 := by have := HN1.out; omega
              have h813 : w1.heap.size ≠ w3.heap.size + 1 := by have := HN1.out; omega
              clear hL4 hF4
              go_wp2
              go_region_held3 (fun w' => w'.cell? ⟨w3.heap.size + 1, 0, none⟩ = some (.int .i64 TR0.m) ∧ w'.cell? ⟨w3.heap.size + 1, 1, none⟩ = some (.slice pt TR0.l.length ct) ∧ w'.cell? ⟨w3.heap.size + 1, 2, none⟩ = some (.slice qt TR0.f.length dt)) (first | go_keep | exact ⟨b0, b1, b2⟩ | exact ⟨u0, u1, u2⟩ | with_reducible exact ⟨v0, v1, v2⟩ | with_reducible exact TT.out _ _ _ | with_reducible exact TU.out _ _ _ _ _ _) (first | (go_at_call 10; refine Calls.mono (CO2 w7.drew ((Below.refl _ _).drew)) ?_; rintro e w8 ⟨p8, c8, q8, d8, rfl, hx8, hf8, hg8, hb8⟩; have HB8 := hidOv (btw ((Below.refl w7.heap.size w7).drew) hb8); have HX8 := hidOv (And.intro hx8 (And.intro hf8 hg8)); obtain ⟨u0, u1, u2, uf, u3⟩ := cells3 (OT.out.to HB8.out).b; clear hx8 hf8 hg8 hb8) | (go_at_call 10; refine Calls.mono (CO2 w8 HB8.out) ?_; rintro e w9 ⟨p9, c9, q9, d9, rfl, hx9, hf9, hg9, hb9⟩; have HB9 := hidOv hb9; have HX9 := hidOv (And.intro hx9 (And.intro hf9 hg9)); obtain ⟨v0, v1, v2, vf, v3⟩ := cells3 (OT.out.to (btw HB8.out hb9)).b; obtain ⟨a0, a1, a2, af, a3⟩ := cells3 (OA.out.to (btw HB8.out hb9)).b; obtain ⟨s0, s1, s2, sf, s3⟩ := cells3 (OW.out.to (btw HB8.out hb9)).b; have TT := hidOv (fun (x y z : Value) => (And.intro (set3far (x := x) (y := y) (z := z) hA13 v0) (And.intro (set3far (x := x) (y := y) (z := z) hA13 v1) (set3far (x := x) (y := y) (z := z) hA13 v2)))); have TU := hidOv (fun (x y z x' y' z' : Value) => (And.intro (set3far (x := x') (y := y') (z := z') h813 (TT.out x y z).1) (And.intro (set3far (x := x') (y := y') (z := z') h813 (TT.out x y z).2.1) (set3far (x := x') (y := y') (z := z') h813 (TT.out x y z).2.2)))); clear hx9 hf9 hg9 hb9))
              go_wp2
              go_meet
              case rel => exact ⟨rfl, ⟨_, _, _, _, _, _, _, _, _, _, _, _, _, _, _, m2_new HB8.out HB9.out HX8.out.1 HX8.out.2.1 HX8.out.2.2 HX9.out.1 HX9.out.2.1 HX9.out.2.2 (OA.out.to (btw HB8.out HB9.out)).b (OW.out.to (btw HB8.out HB9.out)).b (OT.out.to (btw HB8.out HB9.out)).b (m2_num HN1.out HZ7.out) HL4.out.1 HL4.out.2 (HMAY.out.2.trans (HMAY.out.1.symm.trans HRI.out.symm))⟩, below_set3 (below_set3 (btw HB7.out (btw HB8.out HB9.out)) H0.out.z _ _ _) (Nat.le_trans H0.out.z (m2_le HN1.out)) _ _ _⟩
            · have heb : (TR0.e == 0) = false := by simp [he]
              clear he
              go_wp2
              go_meet
              case rel => exact ⟨rfl, ⟨_, _, _, _, m, p, l, c, q, f, d, p1, c1, q1, d1, ⟨OA.out, OW.out, .inl (by have := HN1.out; omega), .inl (by have := HN1.out; omega), ⟨_, _, _, OT.out.b⟩, HL1.out, HL2.out, HRI.out.symm⟩⟩, HB7.out⟩
          case rest =>
            obtain ⟨rfl, ⟨la, ha, lw, hw, m2, p2, l2, c2, q2, f2, d2, pw, cw, qw, dw, hM⟩, hBW⟩ := hcut
            have HM := hidOv hM
            have HBW := hidOv hBW
            clear hM hBW OA OW OT HB7 HZ7 HTR HRI HL1 HL2 HB3 HX3
            obtain ⟨I8, hI8⟩ : ∃ I8, I8 = ids.take 8 := ⟨_, rfl⟩
            obtain ⟨n8, hn8⟩ : ∃ n8, n8 = I8.length := ⟨_, rfl⟩
            have HKW := HKI.out.to HBW.out
            have CK := clone28 pk (ids.take 8) ck wc (HKW.i.take 8) (ad_take HKW.a) (by simp; omega)
            rw [← hI8, ← hn8] at CK
            have e8 : n8 = min ids.length 8 := by rw [hn8, hI8]; simp; omega
            have hr8 := HKW.r
            have hm1 : (if (8 : Int) < (ids.length : Int) then (8 : Int) else (ids.length : Int)) = (n8 : Int) := by split <;> omega
            have hm2 : min (ids.length : Int) 8 = (n8 : Int) := by omega
            have hm3 : (0 : Int) ≤ (n8 : Int) := by omega
            have hm4 : (n8 : Int) ≤ (ck : Int) := by omega
            have HI8 : Hid (I8.length ≤ 8 ∧ n8 = I8.length ∧ idsOk I8) := ⟨by omega, hn8, by rw [hI8]; exact idsOk_take HKW.u 8⟩
            clear e8 hr8 hn8 hI8 HKW HKI
            obtain ⟨GR0, hGR⟩ : ∃ GR0, GR0 = giveR m2 l2 f2 I8 := ⟨_, rfl⟩
            have HGR := hidOv hGR
            have CG := fun (W : World) (qi : Option Addr) (ci : Nat) (h : AIn W p2 l2 q2 f2) (hI : IRow .u64 W.heap.size W qi I8) => give29 m2 c2 d2 qi I8 ci W p2 l2 q2 f2 h hI HI8.out.2.2 HI8.out.1 HM.out.l1 HM.out.l2
            rw [← hGR, ← HI8.out.2.1] at CG
            clear hGR
            have OA := hidOv HM.out.a
            obtain ⟨tx, ty, tz, ht⟩ := HM.out.t
            have HT := hidOv ht
            obtain ⟨a0, a1, a2, af, a3⟩ := cells3 OA.out.b
            go_upto_if 84 with (first | (go_at_call 28; refine Calls.mono CK ?_; rintro e w9 ⟨p9, c9, rfl, hc9, ⟨ha9, hf9⟩, hi9, hb9⟩; have OA := hidOv (OA.out.to hb9); have HT := hidOv (atW hb9 HT.out); obtain ⟨a0, a1, a2, af, a3⟩ := cells3 OA.out.b) | (go_at_call 29; refine Calls.mono (CG _ p9 c9 OA.out.r.aix.i hi9) ?_; rintro e w10 ⟨v10, rfl, ⟨p10, c10, q10, d10, rfl, hx10, hf10, hg10⟩, hb10, hsp⟩; have HSP := hidOv hsp; have HX10 := hidOv (And.intro hx10 (And.intro hf10 hg10)); have HB10 := hidOv hb10; have HT := hidOv (atW hb10 HT.out); obtain ⟨t0, t1, t2, tf, t3⟩ := cells3 HT.out; clear hsp hx10 hf10 hg10))
            have hBz := HM.out.t
            have HN3 : Hid (0 < A ∧ A < w1.heap.size ∧ w1.heap.size < w3.heap.size + 1 ∧ w3.heap.size + 1 < wc.heap.size) := by
              obtain ⟨_, _, _, hq⟩ := HM.out.t
              exact m2_num HN1.out (Array.getElem?_eq_some_iff.1 hq).1
            clear hBz
            have hOA := OA.out.to HB10.out
            have hOW := (HM.out.w.to hb9).to HB10.out
            obtain ⟨W4, hW4⟩ : ∃ W4, W4 = (((w10.setCell ⟨w3.heap.size + 1, 0, none⟩ (.int .i64 0)).setCell ⟨w3.heap.size + 1, 1, none⟩ (.slice none 0 0)).setCell ⟨w3.heap.size + 1, 2, none⟩ (.slice none 0 0)).alloc (.cells #[.int .i64 GR0.m, .slice p10 GR0.l.length c10, .slice q10 GR0.f.length d10] 25) := ⟨_, rfl⟩
            obtain ⟨x1, x2, x3, x4, x5, x6, x7, x8⟩ := m3_zero hOA hOW HM.out.na HM.out.nw HX10.out.1 HX10.out.2.1 HX10.out.2.2 HT.out HN3.out hb9 HB10.out hi9 hf9 W4 hW4
            have HBW4 : Hid (Below w.heap.size w W4) := by
              rw [hW4]
              have hA := H0.out.z
              have hm := HN3.out
              have hbw := btw (btw HBW.out hb9) HB10.out
              exact (below_set3 hbw (by omega) _ _ _).alloc (by have := hbw.size; simpa using this) _
            rw [← hW4]
            have OA := hidOv x1
            have OW := hidOv x2
            have OG := hidOv x3
            have OT := hidOv x4
            have HS4 := hidOv x5
            have HZ4 := hidOv x6
            have HF4 := hidOv x7
            have HI4 := hidOv x8
            have HC9 : Hid (I8.length ≤ c9) := by unfold Hid; rw [← HI8.out.2.1]; exact hc9
            have HZ9 := hidOv (And.intro hb9.size HB10.out.size)
            have HHA : Hid (ha ≤ w9.heap.size) := Nat.le_trans HM.out.a.r.nw hb9.size
            have HHW : Hid (hw ≤ w9.heap.size) := Nat.le_trans HM.out.w.r.nw hb9.size
            have HLM : Hid (l2.length ≤ 40 ∧ f2.length ≤ 40 ∧ mayB m2 l2 f2 = ri ∧ (ha ≤ w3.heap.size + 1 ∨ w3.heap.size + 1 < la) ∧ (hw ≤ w3.heap.size + 1 ∨ w3.heap.size + 1 < lw)) := ⟨HM.out.l1, HM.out.l2, HM.out.r, HM.out.na, HM.out.nw⟩
            obtain ⟨a0, a1, a2, af, a3⟩ := cells3 OA.out.b
            clear hW4 x1 x2 x3 x4 x5 x6 x7 x8 hOA hOW HM hi9 hf9 ha9 hc9 hb9 hb10 t0 t1 t2 tf t3 HT CG CK
            go_cut [15, 23] from 23 to 111 (fun no i wx => no = .int .i64 GR0.e ∧ i = .int .i64 k ∧ (∃ pt ct qt dt, M3 w9 w10 wx A w1.heap.size (w3.heap.size + 1) la ha lw hw m2 p2 l2 c2 q2 f2 d2 pw cw qw dw GR0 p10 c10 q10 d10 pt ct qt dt) ∧ Below w.heap.size w wx)
            case first =>
              cases ri
              · have hT : GR0 = ⟨0, [], [], 120⟩ := by rw [HGR.out]; exact giveR_bad HLM.out.2.2.1
                subst hT
                go_wp2
                go_meet
                case rel => exact ⟨rfl, rfl, ⟨none, 0, none, 0, ⟨OA.out, OW.out, OG.out, ob_zero HF4.out OT.out _, HS4.out⟩⟩, HBW4.out⟩
              · go_wp2_with (first | (go_at_call 10; refine Calls.mono (own_ob40 OA.out HLM.out.1 HLM.out.2.1 (Below.refl _ _)) ?_; rintro e w12 ⟨p12, c12, q12, d12, rfl, hx12, hf12, hg12, hb12⟩; have CG2 := refGive30 m2 c12 d12 p9 I8 c9 w12 p12 l2 q12 f2 hx12 (irow_to HI4.out hb12) HC9.out HI8.out.1 HLM.out.1 HLM.out.2.1 HLM.out.2.2.1; rw [← HGR.out, ← HI8.out.2.1] at CG2) | (go_at_call 30; refine Calls.mono CG2 ?_; rintro e w13 ⟨v13, rfl, ⟨p13, c13, q13, d13, rfl, hx13, hf13, hg13⟩, hb13⟩; have OT6 := hidOv (atW (btw hb12 hb13) OT.out); obtain ⟨t0, t1, t2, tf, t3⟩ := cells3 OT6.out))
                go_meet
                case rel => exact ⟨rfl, rfl, ⟨p13, c13, q13, d13, m3_full OA.out OW.out HLM.out.2.2.2.1 HLM.out.2.2.2.2 OG.out OT6.out HS4.out HZ4.out hb12 hb13 hx13 hf13 hg13 HN3.out HZ9.out.1 HZ9.out.2⟩, below_set3 (btw HBW4.out (btw hb12 hb13)) (by have := HN3.out; have := H0.out.z; omega) _ _ _⟩
            case rest =>
              obtain ⟨rfl, rfl, ⟨pt, ct, qt, dt, hM⟩, hBW⟩ := hcut
              have HM := hidOv hM
              have HBW := hidOv hBW
              clear hM hBW OA OW OG OT HS4 HZ4 HF4 HI4 HC9 HBW4 HX10 a0 a1 a2 af a3
              obtain ⟨g0, g1, g2, gf, g3⟩ := cells3 HM.out.g.b
              obtain ⟨t0, t1, t2, tf, t3⟩ := cells3 HM.out.t.b
              go_upto_if 108 with (first | (go_at_call_has 14 p10; refine Calls.mono (same_any HM.out.g HM.out.t) ?_; rintro e w14 ⟨rfl, hb14⟩; have g0 := (hb14.cell (p := ⟨w10.heap.size, 0, none⟩) g3).trans g0; have g1 := (hb14.cell (p := ⟨w10.heap.size, 1, none⟩) g3).trans g1; have g2 := (hb14.cell (p := ⟨w10.heap.size, 2, none⟩) g3).trans g2) | (go_at_call 27; refine Calls.mono (HSP.out _ (fun k h1 h2 => (hb14.block k (Nat.lt_trans h2 HM.out.g.lt)).trans (HM.out.s k h1 h2))) ?_; rintro e w15 ⟨rfl, hh15⟩; have OA := hidOv ((HM.out.a.to hb14).hole hh15 (by have := HN3.out; have := HZ9.out; omega) (.inl (by have := HN3.out; have := HZ9.out; omega)) (.inl HHA.out)); have OW := hidOv ((HM.out.w.to hb14).hole hh15 (by have := HN3.out; have := HZ9.out; omega) (.inl (by have := HN3.out; have := HZ9.out; omega)) (.inl HHW.out)); obtain ⟨a0, a1, a2, af, a3⟩ := cells3 OA.out.b; obtain ⟨s0, s1, s2, sf, s3⟩ := cells3 OW.out.b) | (go_at_call_has 14 p2; refine Calls.mono (same_any OA.out OW.out) ?_; rintro e w16 ⟨rfl, hb16⟩))
              have hn3 := HN3.out
              have hz9 := HZ9.out
              have OT := hidOv (((HM.out.t.to hb14).hole hh15 (by omega) (.inl (by omega)) (.inr (by omega))).to hb16)
              have OA := hidOv (OA.out.to hb16)
              have HBF : Hid (Below w.heap.size w w16) := btw ((btw HBW.out hb14).trans ((hh15.below (by have := HM.out.g.lt; have := hb14.size; omega)).mono (by have := H0.out.z; omega))) hb16
              clear hn3 hz9 HM HBW g0 g1 g2 gf g3 t0 t1 t2 tf t3 a0 a1 a2 af a3 s0 s1 s2 sf s3 hb14 hh15 hb16 OW HSP
              by_cases he : GR0.e = 0
              · have heb : (GR0.e == 0) = true := by simp [he]
                have CO2 := own_ob OT.out (Below.refl w16.heap.size w16)
                obtain ⟨L4, hL4⟩ : ∃ L4, L4 = GR0.l.take 40 := ⟨_, rfl⟩
                obtain ⟨F4, hF4⟩ : ∃ F4, F4 = GR0.f.take 40 := ⟨_, rfl⟩
                have HL4 : Hid (L4.length ≤ 40 ∧ F4.length ≤ 40) := by unfold Hid; rw [hL4, hF4]; simp; omega
                rw [← hL4, ← hF4] at CO2
                obtain ⟨t0, t1, t2, tf, t3⟩ := cells3 OT.out.b
                clear he hL4 hF4
                go_wp2_with (first | (go_at_call 10; refine Calls.mono CO2 ?_; rintro e w17 ⟨p17, c17, q17, d17, rfl, hx17, hf17, hg17, hb17⟩; have OA7 := hidOv (OA.out.to hb17); obtain ⟨a0, a1, a2, af, a3⟩ := cells3 OA7.out.b))
                go_roundw
                case rel => exact ⟨k + 1, _, _, _, _, _, _, _, KS.out.1, KS.out.2.1, by first | rfl | rw [KS.out.2.2.1], ⟨(ob_put (w := w16) OA7.out.b OA.out.lt HN3.out.1 hx17 hf17 hg17).wide (Nat.zero_le _) (by simp) (Nat.le_refl _), HL4.out.1, HL4.out.2, below_set3 (btw HBF.out hb17) H0.out.z _ _ _, H0.out.z, H0.out.z0⟩⟩
                case measure => first | exact KS.out.2.2.2 | (rw [KS.out.2.2.1]; exact KS.out.2.2.2)
              · have heb : (GR0.e == 0) = false := by simp [he]
                clear he
                go_wp2
                go_roundw
                case rel => exact ⟨k + 1, _, _, _, _, _, _, _, KS.out.1, KS.out.2.1, by first | rfl | rw [KS.out.2.2.1], ⟨OA.out.wide (Nat.zero_le _) OA.out.r.nw (Nat.le_refl _), HLM.out.1, HLM.out.2.1, HBF.out, H0.out.z, H0.out.z0⟩⟩
                case measure => first | exact KS.out.2.2.2 | (rw [KS.out.2.2.1]; exact KS.out.2.2.2)
    · clear HR
      go_wp2
      go_ret
      exact ⟨rfl, H0.out.b⟩
end Go.Proofs.YtaglhajlgnjhcaaDoor
