/- AllocLives: the two maps, and what lies where. -/
import Derived.Test.YtaglhajlgnjhcaaDoorLvM
import Derived.Test.YtaglhajlgnjhcaaDoorGvA
import Derived.Maps.OwnSet
namespace Go.Proofs.YtaglhajlgnjhcaaDoor
open Go.RowKit Go.Maps

theorem keyId : Keyed Tryd.prog 41 := int_keyed Tryd.underlying41
theorem zeroI (w : World) : (zeroValue 3).run Tryd.prog w = .ok (.int .i64 0) w := by kernel_rfl
theorem zeroB (w : World) : (zeroValue 4).run Tryd.prog w = .ok (.bool false) w := by kernel_rfl
theorem wfU {x : Int} (h0 : 0 ≤ x) (h1 : x < 18446744073709551616) : (Lit.int .u64 x).wf = true := by
  have a : IntKind.u64.min = 0 := by decide
  have b : IntKind.u64.max = 18446744073709551615 := by decide
  simp [Lit.wf, a, b]; omega
theorem wfI {x : Int} (h0 : 0 ≤ x) (h1 : x ≤ 1000) : (Lit.int .i64 x).wf = true := by
  have a : IntKind.i64.min = -9223372036854775808 := by decide
  have b : IntKind.i64.max = 9223372036854775807 := by decide
  simp [Lit.wf, a, b]; omega
theorem keyLit (x : Int) : WideAt.IsKeyLit (.int .u64 x) := by simp [WideAt.IsKeyLit]

/-- Block b is a map of ids to numbers, which are u; .. to truths, which are t. -/
def MapI (W : World) (b n : Nat) (u : Int → Int) : Prop := ∃ D : DataW Unit, W.ownsMap Tryd.prog 41 (plainElem Tryd.prog 3) b n D ∧ ∀ x, D.atKey (.int .u64 x) (.lit (.int .i64 0)) = .lit (.int .i64 (u x))
def MapB (W : World) (b n : Nat) (t : Int → Bool) : Prop := ∃ D : DataW Unit, W.ownsMap Tryd.prog 41 (plainElem Tryd.prog 4) b n D ∧ ∀ x, D.atKey (.int .u64 x) (.lit (.bool false)) = .lit (.bool (t x))
/-- Block b is some map. -/
def IsM (W : World) (b : Nat) : Prop := ∃ es clock, W.heap[b]? = some (.map es clock)
theorem MapI.is {W : World} {b n : Nat} {u : Int → Int} (h : MapI W b n u) : IsM W b := by obtain ⟨D, ⟨es, c, hb, _⟩, _⟩ := h; exact ⟨es, c, hb⟩
theorem MapB.is {W : World} {b n : Nat} {u : Int → Bool} (h : MapB W b n u) : IsM W b := by obtain ⟨D, ⟨es, c, hb, _⟩, _⟩ := h; exact ⟨es, c, hb⟩
theorem MapI.at {W W' : World} {b n : Nat} {u : Int → Int} (h : MapI W b n u) (e : W'.heap[b]? = W.heap[b]?) : MapI W' b n u := by
  obtain ⟨D, ⟨es, c, hb, r⟩, hD⟩ := h; exact ⟨D, ⟨es, c, e.trans hb, r⟩, hD⟩
theorem MapB.at {W W' : World} {b n : Nat} {u : Int → Bool} (h : MapB W b n u) (e : W'.heap[b]? = W.heap[b]?) : MapB W' b n u := by
  obtain ⟨D, ⟨es, c, hb, r⟩, hD⟩ := h; exact ⟨D, ⟨es, c, e.trans hb, r⟩, hD⟩
theorem IsM.lt {W : World} {b : Nat} (h : IsM W b) : b < W.heap.size := by obtain ⟨es, c, hb⟩ := h; exact (Array.getElem?_eq_some_iff.1 hb).1
theorem MapI.mono {W : World} {b n n' : Nat} {u : Int → Int} (h : MapI W b n u) (hn : n ≤ n') : MapI W b n' u := by obtain ⟨D, ho, hD⟩ := h; exact ⟨D, ho.mono hn, hD⟩
theorem MapB.mono {W : World} {b n n' : Nat} {u : Int → Bool} (h : MapB W b n u) (hn : n ≤ n') : MapB W b n' u := by obtain ⟨D, ho, hD⟩ := h; exact ⟨D, ho.mono hn, hD⟩
theorem mapI_new (W : World) : MapI (W.alloc (.map #[] 0)) W.heap.size 0 (fun _ => 0) := ⟨_, World.ownsMap_made W _ _ _, fun _ => rfl⟩
theorem mapB_new (W : World) : MapB (W.alloc (.map #[] 0)) W.heap.size 0 (fun _ => false) := ⟨_, World.ownsMap_made W _ _ _, fun _ => rfl⟩
theorem MapI.look {W : World} {b n : Nat} {u : Int → Int} (h : MapI W b n u) {x : Int} (h0 : 0 ≤ x) (h1 : x < 18446744073709551616) : (Instr.lookup 56 (.map (some b)) (.int .u64 x) false).run Tryd.prog W = .ok (.int .i64 (u x)) W := by
  obtain ⟨D, ho, hD⟩ := h
  obtain ⟨c, hrun, hat, _⟩ := ho.lookup_int keyId Tryd.underlying56 Tryd.underlying3 (zeroI _) (keyOf_int_mk Tryd.underlying41 (wfU h0 h1))
  rw [hD] at hat
  simp at hat
  rw [hat]; exact hrun
theorem plain_bool {P : Program} {e : TypeId} (he : P.underlying e = some .bool) {v : Value} {y : Bool} {ps : List MemPlace} (h : plainElem (H := Unit) P e v = some (.lit (.bool y), ps)) : v = .bool y := by
  unfold plainElem at h
  rw [he] at h
  cases v <;> simp at h
  rw [h.1]
theorem MapB.look {W : World} {b n : Nat} {u : Int → Bool} (h : MapB W b n u) {x : Int} (h0 : 0 ≤ x) (h1 : x < 18446744073709551616) : (Instr.lookup 55 (.map (some b)) (.int .u64 x) false).run Tryd.prog W = .ok (.bool (u x)) W := by
  obtain ⟨D, ho, hD⟩ := h
  obtain ⟨v, ps, hrun, hv⟩ := ho.lookup keyId Tryd.underlying55 (zeroB _) (plainElem_bool Tryd.underlying4 false) (keyOf_int_mk Tryd.underlying41 (wfU h0 h1))
  rw [hD] at hv
  rw [plain_bool Tryd.underlying4 hv] at hrun; exact hrun
theorem MapI.put {W : World} {b n : Nat} {u : Int → Int} (h : MapI W b n u) {x : Int} (h0 : 0 ≤ x) (h1 : x < 18446744073709551616) (hv0 : 0 ≤ u x) (hv1 : u x ≤ 900) (hn : n < maxLen) :
    ∃ W', (Instr.mapUpdate 56 (.map (some b)) (.int .u64 x) (.int .i64 (u x + 1))).run Tryd.prog W = .ok () W' ∧ MapI W' b (n + 1) (uPut u x) ∧ W.grownBy W' (some b) := by
  obtain ⟨D, ho, hD⟩ := h
  obtain ⟨W', hrun, ho', hg⟩ := ho.update keyId Tryd.underlying56 hn (keyOf_int_mk Tryd.underlying41 (wfU h0 h1)) (plainElem_int Tryd.underlying3 (wfI (x := u x + 1) (by omega) (by omega)))
  refine ⟨W', hrun, ⟨_, ho', fun y => ?_⟩, hg⟩
  unfold uPut
  by_cases e : y = x
  · subst e; rw [if_pos rfl]; exact atKey_put_same ho.isMap (keyLit _) _ _
  · rw [if_neg e, atKey_put_other (by simpa using e)]; exact hD y
theorem MapB.put {W : World} {b n : Nat} {u : Int → Bool} (h : MapB W b n u) {x : Int} (h0 : 0 ≤ x) (h1 : x < 18446744073709551616) (hn : n < maxLen) :
    ∃ W', (Instr.mapUpdate 55 (.map (some b)) (.int .u64 x) (.bool true)).run Tryd.prog W = .ok () W' ∧ MapB W' b (n + 1) (tPut u x) ∧ W.grownBy W' (some b) := by
  obtain ⟨D, ho, hD⟩ := h
  obtain ⟨W', hrun, ho', hg⟩ := ho.update keyId Tryd.underlying55 hn (keyOf_int_mk Tryd.underlying41 (wfU h0 h1)) (plainElem_bool Tryd.underlying4 true)
  refine ⟨W', hrun, ⟨_, ho', fun y => ?_⟩, hg⟩
  unfold tPut
  by_cases e : y = x
  · subst e; rw [if_pos rfl]; exact atKey_put_same ho.isMap (keyLit _) _ _
  · rw [if_neg e, atKey_put_other (by simpa using e)]; exact hD y

/-- A cell that reads lies in no map. -/
theorem cell_notM {W : World} {a : Addr} {v : Value} {U : Nat} (h : W.cell? a = some v) (hU : IsM W U) : a.block ≠ U := by
  intro e
  obtain ⟨es, c, hb⟩ := hU
  rw [← e] at hb
  revert h
  unfold World.cell?
  simp [hb]
theorem cell_grown {W W' : World} {a : Addr} {v : Value} {U : Nat} (h : W.cell? a = some v) (hU : IsM W U) (hg : W.grownBy W' (some U)) : W'.cell? a = some v := by
  have hne := cell_notM h hU
  rw [World.cell?_of_block (w := W) (hg.block a.block (World.block_lt_of_cell? _ _ h) (by simpa using hne))]; exact h
theorem heap_grown {W W' : World} {B U : Nat} {x : Array Value} {t : TypeId} {k : Nat × Nat} (h : W.heap[B]? = some (.cells x t k)) (hU : IsM W U) (hg : W.grownBy W' (some U)) : W'.heap[B]? = some (.cells x t k) := by
  have hne : B ≠ U := by
    rintro rfl
    obtain ⟨es, c, hb⟩ := hU
    rw [h] at hb; cases hb
  rw [hg.block B (Array.getElem?_eq_some_iff.1 h).1 (by simpa using hne)]; exact h
theorem AIn.grown {W W' : World} {p : Option Addr} {l : List (Int × Bool)} {q : Option Addr} {f : List Int} {U : Nat} (h : AIn W p l q f) (hU : IsM W U) (hg : W.grownBy W' (some U)) : AIn W' p l q f := by
  have hz := hg.size
  refine ⟨⟨by have := h.fr.lt; omega, cell_grown h.fr.c0 hU hg, cell_grown h.fr.c1 hU hg⟩, fun h0 => ?_, fun h0 => ?_, h.ln, h.fn⟩
  · obtain ⟨b, off, e, hb, hc⟩ := h.s h0
    exact ⟨b, off, e, by omega, fun k hk => ⟨cell_grown (hc k hk).1 hU hg, cell_grown (hc k hk).2 hU hg⟩⟩
  · obtain ⟨b, off, e, hb, hc⟩ := h.i h0
    exact ⟨b, off, e, by omega, fun k hk => cell_grown (hc k hk) hU hg⟩

/-- The law's allocator (its box X, its rows) and its two maps. -/
structure LW (w W : World) (X : Nat) (m : Int) (p : Option Addr) (l : List (Int × Bool)) (c : Nat) (q : Option Addr) (f : List Int) (d U M n : Nat) (u : Int → Int) (t : Int → Bool) : Prop where
  x : W.heap[X]? = some (.cells #[.int .i64 m, .slice p l.length c, .slice q f.length d] 25 (0, 0))
  i : AIn W p l q f
  b : Below w.heap.size w W
  lx : w.heap.size ≤ X
  mu : MapI W U n u
  mt : MapB W M n t
  lu : w.heap.size ≤ U
  lm : w.heap.size ≤ M
  um : U ≠ M
  z : 0 < w.heap.size
section
variable {w W W' : World} {X : Nat} {m : Int} {p : Option Addr} {l : List (Int × Bool)} {c : Nat} {q : Option Addr} {f : List Int} {d U M n : Nat} {u : Int → Int} {t : Int → Bool}
theorem LW.to (h : LW w W X m p l c q f d U M n u t) (hb : Below W.heap.size W W') : LW w W' X m p l c q f d U M n u t :=
  ⟨atW hb h.x, h.i.below hb, h.b.trans (hb.mono h.b.size), h.lx, h.mu.at (hb.block U h.mu.is.lt), h.mt.at (hb.block M h.mt.is.lt), h.lu, h.lm, h.um, h.z⟩
theorem LW.mono (h : LW w W X m p l c q f d U M n u t) {n' : Nat} (hn : n ≤ n') : LW w W X m p l c q f d U M n' u t :=
  ⟨h.x, h.i, h.b, h.lx, h.mu.mono hn, h.mt.mono hn, h.lu, h.lm, h.um, h.z⟩
theorem LW.s3 (h : LW w W X m p l c q f d U M n u t) : W.cell? ⟨X, 0, none⟩ = some (.int .i64 m) ∧ W.cell? ⟨X, 1, none⟩ = some (.slice p l.length c) ∧ W.cell? ⟨X, 2, none⟩ = some (.slice q f.length d) ∧ (∀ i, W.frozen? ⟨X, i, none⟩ = false) ∧ X < W.heap.size := cells3 h.x

/-- .. and the allocator that was answered, in its box B. -/
structure LT (w W : World) (X : Nat) (m : Int) (p : Option Addr) (l : List (Int × Bool)) (c : Nat) (q : Option Addr) (f : List Int) (d U M n : Nat) (u : Int → Int) (t : Int → Bool) (B : Nat) (l' : List (Int × Bool)) (f' : List Int) (G H : Nat) : Prop where
  a : LW w W X m p l c q f d U M n u t
  bx : W.heap[B]? = some (.cells #[.int .i64 m, .slice (some ⟨G, 0, none⟩) l'.length l'.length, .slice (some ⟨H, 0, none⟩) f'.length f'.length] 25 (0, 0))
  bi : AIn W (some ⟨G, 0, none⟩) l' (some ⟨H, 0, none⟩) f'
  gx : G ≠ X
  hx : H ≠ X
variable {B G H : Nat} {l' : List (Int × Bool)} {f' : List Int}
theorem LT.to (h : LT w W X m p l c q f d U M n u t B l' f' G H) (hb : Below W.heap.size W W') : LT w W' X m p l c q f d U M n u t B l' f' G H :=
  ⟨h.a.to hb, atW hb h.bx, h.bi.below hb, h.gx, h.hx⟩
theorem LT.b3 (h : LT w W X m p l c q f d U M n u t B l' f' G H) : W.cell? ⟨B, 0, none⟩ = some (.int .i64 m) ∧ W.cell? ⟨B, 1, none⟩ = some (.slice (some ⟨G, 0, none⟩) l'.length l'.length) ∧ W.cell? ⟨B, 2, none⟩ = some (.slice (some ⟨H, 0, none⟩) f'.length f'.length) ∧ (∀ i, W.frozen? ⟨B, i, none⟩ = false) ∧ B < W.heap.size := cells3 h.bx
theorem LT.start (h : LW w W X m p l c q f d U M n u t) (ho : AOwn W W' G l' H f') (h1 : l'.length ≤ 8796093022208) (h2 : f'.length ≤ 8796093022208) :
    LT w (W'.alloc (.cells #[.int .i64 m, .slice (some ⟨G, 0, none⟩) l'.length l'.length, .slice (some ⟨H, 0, none⟩) f'.length f'.length] 25)) X m p l c q f d U M n u t W'.heap.size l' f' G H := by
  have hx := (Array.getElem?_eq_some_iff.1 h.x).1
  have hg := ho.lg
  have hh := ho.lh
  have h5 := h.to ho.b
  exact ⟨h5.to ((Below.refl _ _).alloc (Nat.le_refl _) _), heap_at rfl, (ho.inW h5.i.fr h1 h2).alloc _, by omega, by omega⟩
theorem LT.useU (h : LT w W X m p l c q f d U M n u t B l' f' G H) {x : Int} (h0 : 0 ≤ x) (h1 : x < 18446744073709551616) (hv0 : 0 ≤ u x) (hv1 : u x ≤ 900) (hn : n < maxLen) :
    ∃ W', (Instr.mapUpdate 56 (.map (some U)) (.int .u64 x) (.int .i64 (u x + 1))).run Tryd.prog W = .ok () W' ∧ LT w W' X m p l c q f d U M (n + 1) (uPut u x) t B l' f' G H := by
  obtain ⟨W', hrun, hm, hg⟩ := h.a.mu.put h0 h1 hv0 hv1 hn
  have hU := h.a.mu.is
  refine ⟨W', hrun, ⟨heap_grown h.a.x hU hg, h.a.i.grown hU hg, h.a.b.grown hg h.a.b.size (fun k e => by cases e; exact h.a.lu), h.a.lx, hm, (h.a.mt.at (hg.block M h.a.mt.is.lt (by simpa using fun e => h.a.um e.symm))).mono (by omega), h.a.lu, h.a.lm, h.a.um, h.a.z⟩, heap_grown h.bx hU hg, h.bi.grown hU hg, h.gx, h.hx⟩
theorem LT.useM (h : LT w W X m p l c q f d U M n u t B l' f' G H) {x : Int} (h0 : 0 ≤ x) (h1 : x < 18446744073709551616) (hn : n < maxLen) :
    ∃ W', (Instr.mapUpdate 55 (.map (some M)) (.int .u64 x) (.bool true)).run Tryd.prog W = .ok () W' ∧ LT w W' X m p l c q f d U M (n + 1) u (tPut t x) B l' f' G H := by
  obtain ⟨W', hrun, hm, hg⟩ := h.a.mt.put h0 h1 hn
  have hU := h.a.mt.is
  refine ⟨W', hrun, ⟨heap_grown h.a.x hU hg, h.a.i.grown hU hg, h.a.b.grown hg h.a.b.size (fun k e => by cases e; exact h.a.lm), h.a.lx, (h.a.mu.at (hg.block U h.a.mu.is.lt (by simpa using h.a.um))).mono (by omega), hm, h.a.lu, h.a.lm, h.a.um, h.a.z⟩, heap_grown h.bx hU hg, h.bi.grown hU hg, h.gx, h.hx⟩
theorem notM_ne {B U : Nat} {x : Array Value} {ty : TypeId} {k : Nat × Nat} (h : W.heap[B]? = some (.cells x ty k)) (hU : IsM W U) : B ≠ U := by
  rintro rfl
  obtain ⟨es, c, hb⟩ := hU
  rw [h] at hb; cases hb
/-- The law's box is given the answer. -/
theorem LT.put (h : LT w W X m p l c q f d U M n u t B l' f' G H) :
    LW w (((W.setCell ⟨X, 0, none⟩ (.int .i64 m)).setCell ⟨X, 1, none⟩ (.slice (some ⟨G, 0, none⟩) l'.length l'.length)).setCell ⟨X, 2, none⟩ (.slice (some ⟨H, 0, none⟩) f'.length f'.length)) X m (some ⟨G, 0, none⟩) l' l'.length (some ⟨H, 0, none⟩) f' f'.length U M n u t := by
  have hB := below_set3 h.a.b h.a.lx (.int .i64 m) (.slice (some ⟨G, 0, none⟩) l'.length l'.length) (.slice (some ⟨H, 0, none⟩) f'.length f'.length)
  have hs := hB.size
  have lt0 := h.a.i.fr.lt
  have hx0 : X ≠ 0 := by have := h.a.z; have := h.a.lx; omega
  refine ⟨set3_heap h.a.x, ⟨⟨by simpa using lt0, set3far hx0 h.bi.fr.c0, set3far hx0 h.bi.fr.c1⟩, fun h0 => ?_, fun h0 => ?_, h.bi.ln, h.bi.fn⟩, hB, h.a.lx, h.a.mu.at (set3_other (notM_ne h.a.x h.a.mu.is)), h.a.mt.at (set3_other (notM_ne h.a.x h.a.mt.is)), h.a.lu, h.a.lm, h.a.um, h.a.z⟩
  · obtain ⟨b, off, e, hb, hc⟩ := h.bi.s h0
    obtain ⟨rfl, rfl⟩ : G = b ∧ 0 = off := by simpa using e
    exact ⟨G, 0, rfl, by simpa using hb, fun k hk => ⟨set3far (Ne.symm h.gx) (hc k hk).1, set3far (Ne.symm h.gx) (hc k hk).2⟩⟩
  · obtain ⟨b, off, e, hb, hc⟩ := h.bi.i h0
    obtain ⟨rfl, rfl⟩ : H = b ∧ 0 = off := by simpa using e
    exact ⟨H, 0, rfl, by simpa using hb, fun k hk => set3far (Ne.symm h.hx) (hc k hk)⟩
end
/-- Give of one that is alive, and none of the first two. -/
theorem give_own {m : Int} {l : List (Int × Bool)} {f : List Int} {y : Int} {l' : List (Int × Bool)} {left : List Int} (hm : mayB m l f = true) (ha : allLive l [y] = true) (hr : gRun l [y] 1 = some (l', left)) (y0 : 0 ≤ y) (y1 : y < 18446744073709551616)
    (c d : Nat) (qi : Option Addr) (ci : Nat) (w : World) (p q : Option Addr) (hA : AIn w p l q f) (hI : IRow .u64 w.heap.size w qi [y]) :
    Calls Tryd.prog 29 #[.agg #[.int .i64 m, .slice p l.length c, .slice q f.length d], .slice qi 1 ci] w fun e w' => ∃ G H, e = .returned (.tuple #[.agg #[.int .i64 m, .slice (some ⟨G, 0, none⟩) l'.length l'.length, .slice (some ⟨H, 0, none⟩) (f ++ srt left).length (f ++ srt left).length], .int .i64 0]) ∧ AOwn w w' G l' H (f ++ srt left) := by
  have K := give_run m c d qi [y] ci w p l q f hA hI (fun k hk => by obtain rfl : k = 0 := by simp at hk; omega
                                                                     exact ⟨y0, y1⟩) (by simp) hm ha
  have hl := (gRun_len hr).1
  rw [show ([y] : List Int).length = 1 from rfl, hr] at K
  refine Calls.mono K ?_
  rintro e w' ⟨G, H, rfl, ho⟩
  exact ⟨G, H, by rw [show l'.length = l.length from hl], ho⟩
end Go.Proofs.YtaglhajlgnjhcaaDoor
