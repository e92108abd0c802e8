/- ValueOrder: its mathematics, and what its walk keeps. -/
import Derived.Test.YtofobpijkceldaaDoorVaK
import Derived.BigFrame
import Derived.Lib.AppendZeros
namespace Go.Proofs.YtofobpijkceldaaDoor
open Go.RowKit Go.Shelf

/-- What stands behind does not matter where something ahead is unlike. -/
theorem cmp_more : ∀ (a b x y : List Int), a.length = b.length → cmpL a b ≠ 0 → cmpL (a ++ x) (b ++ y) = cmpL a b
  | [], [], _, _, _, h => absurd rfl h
  | [], _ :: _, _, _, h, _ => by simp at h
  | _ :: _, [], _, _, h, _ => by simp at h
  | u :: a, v :: b, x, y, hl, h => by
    simp only [List.cons_append]
    unfold cmpL at h ⊢
    by_cases h1 : u < v
    · rw [if_pos h1, if_pos h1]
    · rw [if_neg h1, if_neg h1]
      by_cases h2 : v < u
      · rw [if_pos h2, if_pos h2]
      · rw [if_neg h1, if_neg h2] at h
        rw [if_neg h2, if_neg h2]
        exact cmp_more a b x y (by simpa using hl) h
theorem cmp_zero : ∀ (l : List Int), U64 l → cmpL (List.replicate l.length 0) l ≤ 0
  | [], _ => by decide
  | x :: l, h => by
    have h1 := (h x (by simp)).1
    have ih := cmp_zero l (fun y hy => h y (by simp [hy]))
    show cmpL (0 :: List.replicate l.length 0) (x :: l) ≤ 0
    unfold cmpL
    by_cases h2 : 0 < x
    · rw [if_pos h2]; decide
    · rw [if_neg h2, if_neg (by omega)]; exact ih
theorem cmp_tr {a b c : List Int} (h : cmpL a b ≤ 0) (g : cmpL b c ≤ 0) : cmpL a c ≤ 0 ∧ (cmpL a c = 0 ↔ (cmpL a b = 0 ∧ cmpL b c = 0)) := by
  rcases cmp_01 a b with h1 | h1 | h1
  · rcases cmp_01 b c with g1 | g1 | g1
    · have := cmp_trans a b c h1 g1; omega
    · have e := (cmp_eq b c).1 g1; subst e; omega
    · omega
  · have e := (cmp_eq a b).1 h1; subst e; omega
  · omega

def Apart (p q : Option Addr) : Prop := ∀ x y, p = some x → q = some y → x.block ≠ y.block
theorem ownBlock_slice (p : Option Addr) (n c : Nat) : (Value.slice p n c).ownBlock = p.map (·.block) := by cases p <;> rfl
theorem Apart.ne {p q : Option Addr} (h : Apart p q) (n c m d : Nat) : (Value.slice p n c).ownBlock = none ∨ (Value.slice p n c).ownBlock ≠ (Value.slice q m d).ownBlock := by
  rw [ownBlock_slice, ownBlock_slice]
  cases p with
  | none => exact .inl rfl
  | some x =>
    right
    cases q with
    | none => simp
    | some y => have := h x y rfl rfl; simpa using this
theorem OwnR.weak {B B' : Nat} {w : World} {p : Option Addr} {l : List Int} {c : Nat} (h : OwnR B w p l c) (hB : B' ≤ B) : OwnR B' w p l c := by
  refine ⟨⟨h.o.1, ?_⟩, h.n⟩
  rcases h.o.2 with h1 | ⟨g, cap, cur, e, hg, r⟩
  · exact .inl h1
  · exact .inr ⟨g, cap, cur, e, Nat.le_trans hB hg, r⟩
theorem own10r (p : Option Addr) (l : List Int) (c : Nat) (w : World) (h : InR w p l c) :
    Calls Tryd.prog 10 #[.slice p l.length c] w fun e w' => ∃ q d, e = .returned (.slice q (l.take 8).length d) ∧ OwnR w.heap.size w' q (l.take 8) d ∧ Below w.heap.size w w' := by
  refine Calls.mono (own10 p l c w h) ?_
  rintro e w' ⟨v, rfl, ho, hb⟩
  obtain ⟨q, d, rfl, _⟩ := irow_owns ho
  exact ⟨q, d, rfl, ⟨ho, by simp; omega⟩, hb⟩
/-- Three rows that the law owns, apart from one another. -/
structure O3 (w W : World) (qa : Option Addr) (la : List Int) (ca : Nat) (qb : Option Addr) (lb : List Int) (cb : Nat) (qc : Option Addr) (lc : List Int) (cc : Nat) : Prop where
  a : OwnR w.heap.size W qa la ca
  b : OwnR w.heap.size W qb lb cb
  c : OwnR w.heap.size W qc lc cc
  ab : Apart qa qb
  ac : Apart qa qc
  bc : Apart qb qc
  bel : Below w.heap.size w W
theorem O3.to {w W W' : World} {qa : Option Addr} {la : List Int} {ca : Nat} {qb : Option Addr} {lb : List Int} {cb : Nat} {qc : Option Addr} {lc : List Int} {cc : Nat} (h : O3 w W qa la ca qb lb cb qc lc cc) (hb : Below W.heap.size W W') : O3 w W' qa la ca qb lb cb qc lc cc :=
  ⟨h.a.to hb, h.b.to hb, h.c.to hb, h.ab, h.ac, h.bc, h.bel.trans (hb.mono h.bel.size)⟩
theorem apart_of {B : Nat} {w w' : World} {p q : Option Addr} {l m : List Int} {c d : Nat} (h : OwnR B w p l c) (g : OwnR w.heap.size w' q m d) : Apart p q := by
  intro x y hx hy
  have h1 := h.lt x hx
  have h2 := g.fr y hy
  omega
/-- Behind one append to the first. -/
structure O2 (w W : World) (qa : Option Addr) (la : List Int) (ca : Nat) (qb : Option Addr) (lb : List Int) (cb : Nat) (qc : Option Addr) (lc : List Int) (cc : Nat) : Prop where
  a : OwnR w.heap.size W qa la ca
  b : OwnR w.heap.size W qb lb cb
  c : OwnR w.heap.size W qc lc cc
  ab : Apart qa qb
  bc : Apart qb qc
  bel : Below w.heap.size w W
/-- Behind two. -/
structure O1 (w W : World) (qa : Option Addr) (la : List Int) (ca : Nat) (qb : Option Addr) (lb : List Int) (cb : Nat) (qc : Option Addr) (lc : List Int) (cc : Nat) : Prop where
  a : OwnR w.heap.size W qa la ca
  b : OwnR w.heap.size W qb lb cb
  c : OwnR w.heap.size W qc lc cc
  bel : Below w.heap.size w W
theorem O3.less {w W : World} {qa : Option Addr} {la : List Int} {ca : Nat} {qb : Option Addr} {lb : List Int} {cb : Nat} {qc : Option Addr} {lc : List Int} {cc : Nat} (h : O3 w W qa la ca qb lb cb qc lc cc) : O1 w W qa la ca qb lb cb qc lc cc := ⟨h.a, h.b, h.c, h.bel⟩
theorem O1.to {w W W' : World} {qa : Option Addr} {la : List Int} {ca : Nat} {qb : Option Addr} {lb : List Int} {cb : Nat} {qc : Option Addr} {lc : List Int} {cc : Nat} (h : O1 w W qa la ca qb lb cb qc lc cc) (hb : Below W.heap.size W W') : O1 w W' qa la ca qb lb cb qc lc cc :=
  ⟨h.a.to hb, h.b.to hb, h.c.to hb, h.bel.trans (hb.mono h.bel.size)⟩
/-- Two rows of one block begin alike. -/
theorem apart_like {B : Nat} {w : World} {p q : Option Addr} {l m : List Int} {c d : Nat} (h : OwnR B w p l c) (g : OwnR B w q m d) (hne : l.take m.length ≠ m) (hl : m.length ≤ l.length) : Apart p q := by
  intro x y hx hy e
  rcases h.o.2 with ⟨e1, _⟩ | ⟨g1, cap1, cur1, e1, _, hh1, _, _, _, t1⟩
  · injection e1 with e1; rw [hx] at e1; cases e1
  · rcases g.o.2 with ⟨e2, _⟩ | ⟨g2, cap2, cur2, e2, _, hh2, _, _, _, t2⟩
    · injection e2 with e2; rw [hy] at e2; cases e2
    · injection e1 with e1; injection e2 with e2
      rw [hx] at e1; rw [hy] at e2
      cases e1; cases e2
      simp only at e
      subst e
      rw [hh1] at hh2
      cases hh2
      apply hne
      have t3 : (cur1.toList.take (l.length * 1)).take m.length = m.map (Value.int .u64) := by
        rw [List.take_take, Nat.min_eq_left (by omega), ← t2, Nat.mul_one]
      rw [t1, ← List.map_take] at t3
      have inj : ∀ (u v : List Int), u.map (Value.int .u64) = v.map (Value.int .u64) → u = v := by
        intro u
        induction u with
        | nil => intro v hv; cases v with | nil => rfl | cons _ _ => simp at hv
        | cons a u ih =>
          intro v hv
          cases v with
          | nil => simp at hv
          | cons b v => simp only [List.map_cons, List.cons.injEq, Value.int.injEq] at hv; rw [hv.1.2, ih v hv.2]
      exact inj _ _ t3
theorem kept_own {B : Nat} {w w' : World} {p : Option Addr} {l : List Int} {c : Nat} {row : Option Nat} (h : OwnR B w p l c) (hg : w.grownBy w' row) (hr : (Value.slice p l.length c).ownBlock = none ∨ (Value.slice p l.length c).ownBlock ≠ row) : OwnR B w' p l c :=
  ⟨h.o.kept hg hr, h.n⟩
theorem grown_below {w W W' : World} {p : Option Addr} {l : List Int} {c : Nat} {B : Nat} (hb : Below B w W) (h : OwnR B W p l c) (hB : B ≤ W.heap.size) (hg : W.grownBy W' (Value.slice p l.length c).ownBlock) : Below B w W' := by
  refine hb.grown hg hB fun k hk => ?_
  rw [ownBlock_slice] at hk
  cases p with
  | none => cases hk
  | some x => have := h.fr x rfl; simp at hk; omega
theorem O3.app {w W w1 : World} {qa : Option Addr} {la : List Int} {ca : Nat} {qb : Option Addr} {lb : List Int} {cb : Nat} {qc : Option Addr} {lc : List Int} {cc : Nat} {qa' : Option Addr} {la' : List Int} {ca' : Nat} (h : O3 w W qa la ca qb lb cb qc lc cc)
    (ho : OwnR w.heap.size w1 qa' la' ca') (hg : W.grownBy w1 (Value.slice qa la.length ca).ownBlock) (hl : lb.length ≤ la'.length) (hne : la'.take lb.length ≠ lb) : O2 w w1 qa' la' ca' qb lb cb qc lc cc := by
  have hb := kept_own h.b hg ((show Apart qb qa from fun x y hx hy e => h.ab y x hy hx e.symm).ne _ _ _ _)
  have hc := kept_own h.c hg ((show Apart qc qa from fun x y hx hy e => h.ac y x hy hx e.symm).ne _ _ _ _)
  exact ⟨ho, hb, hc, apart_like ho hb hne hl, h.bc, grown_below h.bel h.a h.bel.size hg⟩
theorem O2.to {w W W' : World} {qa : Option Addr} {la : List Int} {ca : Nat} {qb : Option Addr} {lb : List Int} {cb : Nat} {qc : Option Addr} {lc : List Int} {cc : Nat} (h : O2 w W qa la ca qb lb cb qc lc cc) (hb : Below W.heap.size W W') : O2 w W' qa la ca qb lb cb qc lc cc :=
  ⟨h.a.to hb, h.b.to hb, h.c.to hb, h.ab, h.bc, h.bel.trans (hb.mono h.bel.size)⟩
theorem O2.app {w W w1 : World} {qa : Option Addr} {la : List Int} {ca : Nat} {qb : Option Addr} {lb : List Int} {cb : Nat} {qc : Option Addr} {lc : List Int} {cc : Nat} {qb' : Option Addr} {lb' : List Int} {cb' : Nat} (h : O2 w W qa la ca qb lb cb qc lc cc)
    (ho : OwnR w.heap.size w1 qb' lb' cb') (hg : W.grownBy w1 (Value.slice qb lb.length cb).ownBlock) : O1 w w1 qa la ca qb' lb' cb' qc lc cc := by
  have ha := kept_own h.a hg (h.ab.ne _ _ _ _)
  have hc := kept_own h.c hg ((show Apart qc qb from fun x y hx hy e => h.bc y x hy hx e.symm).ne _ _ _ _)
  exact ⟨ha, ho, hc, grown_below h.bel h.b h.bel.size hg⟩
/-- An append behind a guard. -/
theorem wpList_append_g {ops : Array Oper} {rest : List Oper} {o : Oper} {a : Act} {Q : Exit → Act → World → Prop} (w : World) (s x : Operand) (ho : o.op = .call { callee := .builtin .append, args := #[s, x], argTypes := #[26, 26] }) (hw : Region.wanted o (yielded ops a.tmps) = true)
    (B : Nat) (p : Option Addr) (l : List Int) (c : Nat) (hs : a.eval s = .slice p l.length c) (hown : OwnR B w p l c) (ad : Addr) (m : List Int) (k d : Nat) (hk : k = m.length) (hx : a.eval x = .slice (some ad) k d) (hm : ∀ j u, (cellsI .u64 m)[j]? = some u → w.cell? (ad.add j) = some u)
    (hl : l.length + m.length ≤ 1000) (hB : B ≤ w.heap.size)
    (h : ∀ q' l' c' w', l' = l ++ m → OwnR B w' q' l' c' → w.grownBy w' (Value.slice p l.length c).ownBlock → wpList Tryd.prog ops Q rest (a.put o.dst (.slice q' l'.length c')) w') : wpList Tryd.prog ops Q (o :: rest) a w := by
  subst hk
  obtain ⟨i0, hi, hz0, hz1, hz2⟩ := info_parts Tryd.info33
  obtain ⟨v', w', h1, h2, h3, _⟩ := run_append_own (P := Tryd.prog) w B 26 o.type 33 i0 (.int .u64 0) 1 8 Tryd.underlying26 hi hz0 hz1 hz2 rfl (by decide) _ l.length _ hown.o ad m.length d (cellsI .u64 m) (cellsI_len _ _) hm (cellsI_one _ _) (by unfold maxLen; omega) (by omega) hB
  have h2' : w'.ownsRow B 33 1 v' (l ++ m).length ((l ++ m).map (Value.int .u64)) := by simpa [cellsI] using h2
  obtain ⟨q', c', rfl, _⟩ := irow_owns h2'
  refine BigFrame.wpList_want hw fun K hK => ?_
  exact Lib.wp_append_run w s x 26 26 ho _ _ hs hx _ _ h1 (hK _ _ (h q' (l ++ m) c' w' rfl ⟨h2', by simp; omega⟩ h3))

theorem bal (W : World) (o : Obj) : Below W.heap.size W (W.alloc o) := (Below.refl _ _).alloc (Nat.le_refl _) _
/-- The three that came in. -/
structure S0 (w W : World) (px : Option Addr) (lx : List Int) (cx : Nat) (py : Option Addr) (ly : List Int) (cy : Nat) (pz : Option Addr) (lz : List Int) (cz : Nat) : Prop where
  x : InR W px lx cx
  y : InR W py ly cy
  z : InR W pz lz cz
  bel : Below w.heap.size w W
structure S1 (w W : World) (qa : Option Addr) (la : List Int) (ca : Nat) (py : Option Addr) (ly : List Int) (cy : Nat) (pz : Option Addr) (lz : List Int) (cz : Nat) : Prop where
  a : OwnR w.heap.size W qa la ca
  y : InR W py ly cy
  z : InR W pz lz cz
  bel : Below w.heap.size w W
structure S2 (w W : World) (qa : Option Addr) (la : List Int) (ca : Nat) (qb : Option Addr) (lb : List Int) (cb : Nat) (pz : Option Addr) (lz : List Int) (cz : Nat) : Prop where
  a : OwnR w.heap.size W qa la ca
  b : OwnR w.heap.size W qb lb cb
  ab : Apart qa qb
  z : InR W pz lz cz
  bel : Below w.heap.size w W
section
variable {w W W' : World} {px py pz qa qb qc : Option Addr} {lx ly lz la lb lc : List Int} {cx cy cz ca cb cc : Nat}
theorem S0.to (h : S0 w W px lx cx py ly cy pz lz cz) (hb : Below W.heap.size W W') : S0 w W' px lx cx py ly cy pz lz cz := ⟨h.x.to hb, h.y.to hb, h.z.to hb, h.bel.trans (hb.mono h.bel.size)⟩
theorem S0.more (h : S0 w W px lx cx py ly cy pz lz cz) (ho : OwnR W.heap.size W' qa la ca) (hb : Below W.heap.size W W') : S1 w W' qa la ca py ly cy pz lz cz := ⟨ho.weak h.bel.size, h.y.to hb, h.z.to hb, h.bel.trans (hb.mono h.bel.size)⟩
theorem S1.more (h : S1 w W qa la ca py ly cy pz lz cz) (ho : OwnR W.heap.size W' qb lb cb) (hb : Below W.heap.size W W') : S2 w W' qa la ca qb lb cb pz lz cz := ⟨h.a.to hb, ho.weak h.bel.size, apart_of h.a ho, h.z.to hb, h.bel.trans (hb.mono h.bel.size)⟩
theorem S2.more (h : S2 w W qa la ca qb lb cb pz lz cz) (ho : OwnR W.heap.size W' qc lc cc) (hb : Below W.heap.size W W') : O3 w W' qa la ca qb lb cb qc lc cc := ⟨h.a.to hb, h.b.to hb, ho.weak h.bel.size, h.ab, apart_of h.a ho, apart_of h.b ho, h.bel.trans (hb.mono h.bel.size)⟩
end
theorem cells1 (W : World) (x : Int) (t : TypeId) : ∀ j u, (cellsI .u64 [x])[j]? = some u → (W.alloc (.cells #[.int .u64 x] t)).cell? ((⟨W.heap.size, 0, none⟩ : Addr).add j) = some u := by
  intro j u hj
  have hj0 : j = 0 := by have := (List.getElem?_eq_some_iff.1 hj).1; simp [cellsI] at this; exact this
  subst hj0
  rw [addr_add, World.cell?_alloc_at _ _ _ _ rfl]
  simpa [cellsI] using hj
theorem cells2 (W : World) (x y : Int) (t : TypeId) : ∀ j u, (cellsI .u64 [x, y])[j]? = some u → (W.alloc (.cells #[.int .u64 x, .int .u64 y] t)).cell? ((⟨W.heap.size, 0, none⟩ : Addr).add j) = some u := by
  intro j u hj
  have hj0 : j < 2 := by have := (List.getElem?_eq_some_iff.1 hj).1; simpa [cellsI] using this
  rw [addr_add, World.cell?_alloc_at _ _ _ _ rfl]
  rcases (show j = 0 ∨ j = 1 by omega) with rfl | rfl <;> simpa [cellsI] using hj
end Go.Proofs.YtofobpijkceldaaDoor
