/- own, replaced. -/
/- replaced; New. -/
import Derived.Test.YtjnhalomkmdcgaaLuE
import Derived.Lib.AppendZeros
namespace Go.Proofs.Ytjnhalomkmdcgaa
open Go.RowKit

theorem irow_none {q : IntKind} {N : Nat} {w : World} {l : List Int} (h : IRow q N w none l) : l = [] := by
  cases l with
  | nil => rfl
  | cons z t => obtain ⟨b, off, hh, _⟩ := h (by simp); cases hh
theorem irow_src {N : Nat} {w : World} {a : Addr} {l : List Int} (h : IRow .u64 N w (some a) l) : ∀ j u, (cellsI .u64 l)[j]? = some u → w.cell? (a.add j) = some u := by
  intro j u hj
  have hlt : j < l.length := by have := (List.getElem?_eq_some_iff.1 hj).1; simpa [cellsI] using this
  obtain ⟨b, off, e, _, hc⟩ := h (by omega)
  cases e
  rw [addr_add, hc j hlt]
  simp [cellsI, hlt] at hj
  rw [← hj, iG_eq hlt]
/-- A row of ids, copied. -/
theorem app_own (w : World) (q : Option Addr) (l : List Int) (c : Nat) (ty : TypeId) (hI : IRow .u64 w.heap.size w q l) (hl : l.length ≤ 1000) :
    ∃ v' w', (Builtin.append_ #[34, 34] ty #[.slice none 0 0, .slice q l.length c]).run Try.prog w = .ok v' w' ∧ w'.ownsRow w.heap.size 41 1 v' l.length (l.map (Value.int .u64)) ∧ Below w.heap.size w w' := by
  obtain ⟨i0, hi, hz0, hz1, hz2⟩ := info_parts Try.info41
  cases q with
  | none =>
    obtain rfl := irow_none hI
    refine ⟨.slice none 0 0, w, ?_, World.ownsRow_nil _ _ _ _, Below.refl _ _⟩
    simp [Builtin.append_, run_underlying Try.underlying34, sizeOf, typeInfo, hi, Builtin.lenOf, Builtin.firstCells]
  | some a =>
    obtain ⟨v', w', h1, h2, h3, _⟩ := run_append_own (P := Try.prog) w w.heap.size 34 ty 41 i0 (.int .u64 0) 1 8 Try.underlying34 hi hz0 hz1 hz2 rfl (by decide) (.slice none 0 0) 0 [] (World.ownsRow_nil _ _ _ _) a l.length c (cellsI .u64 l) (cellsI_len _ _) (irow_src hI) (cellsI_one _ _) (by unfold maxLen; omega) (by omega) (Nat.le_refl _)
    refine ⟨v', w', h1, ?_, (Below.refl _ _).grown h3 (Nat.le_refl _) (fun k e => by cases e)⟩
    simpa [cellsI] using h2
/-- A row of ids that the call owns. -/
structure OwT (B : Nat) (w : World) (q : Option Addr) (l : List Int) (c : Nat) : Prop where
  o : w.ownsRow B 41 1 (.slice q l.length c) l.length (l.map (Value.int .u64))
  u : U64 l
theorem OwT.row {B : Nat} {w : World} {q : Option Addr} {l : List Int} {c : Nat} (h : OwT B w q l c) : TRow w.heap.size w q l c := by
  obtain ⟨p, c', e, hi, _, hc, _⟩ := irow_owns h.o
  cases e
  exact ⟨hi, hc, h.u⟩
theorem OwT.fresh {B : Nat} {w : World} {q : Option Addr} {l : List Int} {c : Nat} (h : OwT B w q l c) : FreshP B q := by
  obtain ⟨p, c', e, _, hf, _⟩ := irow_owns h.o
  cases e
  exact hf
theorem heap3_cell {W : World} {B : Nat} {a b c : Value} {t : TypeId} (h : W.heap[B]? = some (.cells #[a, b, c] t (0, 0))) : W.cell? ⟨B, 0, none⟩ = some a ∧ W.cell? ⟨B, 1, none⟩ = some b ∧ W.cell? ⟨B, 2, none⟩ = some c ∧ (∀ o, W.frozen? ⟨B, o, none⟩ = false) :=
  ⟨by simp [World.cell?, h], by simp [World.cell?, h], by simp [World.cell?, h], fun o => by simp [World.frozen?, h]⟩
theorem ownBlock_slice (q : Option Addr) (n c : Nat) : (Value.slice q n c).ownBlock = q.map (·.block) := by cases q <;> rfl
theorem grownBy_setCellO (W : World) (a : Addr) (u : Value) : W.grownBy (W.setCell a u) (some a.block) := by
  have hb := (Below.refl a.block W).setCell (p := a) (Nat.le_refl _) u
  exact ⟨hb.os, hb.tape, hb.output, hb.size, fun k _ hne => heap_setCell_other W a k u (fun e => hne (by rw [e]))⟩
theorem owns_setCell {w : World} {B e s n c : Nat} {q : Option Addr} {xs : List Value} (h : w.ownsRow B e s (.slice q n c) n xs) {a : Addr} (hne : ∀ x, q = some x → x.block ≠ a.block) (u : Value) : (w.setCell a u).ownsRow B e s (.slice q n c) n xs := by
  refine h.kept (grownBy_setCellO w a u) ?_
  rw [ownBlock_slice]
  cases q with
  | none => exact .inl rfl
  | some x => exact .inr (by simpa using hne x rfl)
theorem owns_below {w w' : World} {B e s n : Nat} {v : Value} {xs : List Value} (h : w.ownsRow B e s v n xs) (hb : Below w.heap.size w w') : w'.ownsRow B e s v n xs :=
  h.kept (grown_of_below hb) (by cases v.ownBlock <;> simp)
theorem OwT.setCell {B : Nat} {w : World} {q : Option Addr} {l : List Int} {c : Nat} (h : OwT B w q l c) {a : Addr} (hne : ∀ x, q = some x → x.block ≠ a.block) (u : Value) : OwT B (w.setCell a u) q l c := ⟨owns_setCell h.o hne u, h.u⟩
theorem OwT.below {B : Nat} {w w' : World} {q : Option Addr} {l : List Int} {c : Nat} (h : OwT B w q l c) (hb : Below w.heap.size w w') : OwT B w' q l c := ⟨owns_below h.o hb, h.u⟩
theorem OwT.base {B B' : Nat} {w : World} {q : Option Addr} {l : List Int} {c : Nat} (h : OwT B w q l c) (hb : B' ≤ B) : OwT B' w q l c := ⟨owns_base h.o hb, h.u⟩
set_option maxRecDepth 20000 in
set_option maxHeartbeats 1000000 in
theorem own61 (s n : Int) (q : Option Addr) (l : List Int) (c : Nat) (w : World) (hS : TRow w.heap.size w q l c) (hl : l.length ≤ 1000) :
    Calls Try.prog 61 #[.agg #[.int .i64 s, .slice q l.length c, .int .i64 n]] w fun e w' => ∃ q' c', e = .returned (.agg #[.int .i64 s, .slice q' l.length c', .int .i64 n]) ∧ OwT w.heap.size w' q' l c' ∧ Below w.heap.size w w' := by
  obtain ⟨wA, hA⟩ : ∃ wA, wA = (w.alloc (.cells #[.int .i64 s, .slice q l.length c, .int .i64 n] 39)).alloc (.cells #[.int .i64 0, .slice none 0 0, .int .i64 0] 39) := ⟨_, rfl⟩
  have bA : Below w.heap.size w wA := by rw [hA]; exact ((Below.refl _ _).alloc (Nat.le_refl _) _).alloc (by simp) _
  have sA : wA.heap.size = w.heap.size + 2 := by rw [hA]; simp
  have zA : wA.heap[w.heap.size]? = some (.cells #[.int .i64 s, .slice q l.length c, .int .i64 n] 39 (0, 0)) := by rw [hA]; exact (Below.heap_alloc _ _ _ (by simp)).trans (World.alloc_heap_new w _)
  have zB : wA.heap[w.heap.size + 1]? = some (.cells #[.int .i64 0, .slice none 0 0, .int .i64 0] 39 (0, 0)) := by
    rw [hA]
    have := World.alloc_heap_new (w.alloc (.cells #[.int .i64 s, .slice q l.length c, .int .i64 n] 39)) (.cells #[.int .i64 0, .slice none 0 0, .int .i64 0] 39)
    rw [World.size_alloc] at this; exact this
  obtain ⟨v', w', h1, h2, h3⟩ := app_own wA q l c 34 ((hS.i.below bA (Nat.le_refl _)).mono bA.size) hl
  obtain ⟨q', c', rfl, hI', hf', hc', _⟩ := irow_owns h2
  have y0 := heap3_cell ((h3.block w.heap.size (by omega)).trans zA)
  have y1 := heap3_cell ((h3.block (w.heap.size + 1) (by omega)).trans zB)
  obtain ⟨a0, a1, a2, af⟩ := y0
  obtain ⟨b0, b1, b2, bf⟩ := y1
  rw [hA] at h1
  have HO := hidOg h2
  have HF := hidOg hf'
  have HB := hidOg (bA.trans (h3.mono bA.size))
  have HU := hidOg hS.u
  have HS3 := hidOg h3.size
  clear hS h2 hI' hf' hc' h3 zA zB hA bA
  go_enter Try.func61, Try.ntmps61
  go_wp2_with (first | (at_builtin; refine Lib.wpList_append_run _ rfl _ _ 34 34 rfl _ _ rfl rfl _ w' h1 ?_))
  refine bodyPost_ret (v := .agg #[.int .i64 s, .slice q' l.length c', .int .i64 n]) (by simp [results, Try.results61, go_sem, b0, b1, b2]) rfl ⟨q', c', rfl, ?_, ?_⟩
  · have hz := HF.out
    have e1 : ∀ x, q' = some x → x.block ≠ w.heap.size := fun x hx => by have := hz x hx; omega
    have e2 : ∀ x, q' = some x → x.block ≠ w.heap.size + 1 := fun x hx => by have := hz x hx; omega
    have h0 : OwT wA.heap.size w' q' l c' := ⟨HO.out, HU.out⟩
    exact ((((h0.setCell (a := ⟨w.heap.size, 1, none⟩) e1 _).setCell (a := ⟨w.heap.size + 1, 0, none⟩) e2 _).setCell (a := ⟨w.heap.size + 1, 1, none⟩) e2 _).setCell (a := ⟨w.heap.size + 1, 2, none⟩) e2 _).base (by omega)
  · exact (((HB.out.setCell (p := ⟨w.heap.size, 1, none⟩) (by simp) _).setCell (p := ⟨w.heap.size + 1, 0, none⟩) (by simp) _).setCell (p := ⟨w.heap.size + 1, 1, none⟩) (by simp) _).setCell (p := ⟨w.heap.size + 1, 2, none⟩) (by simp) _

/-- A row of ids outside of block G. -/
structure TG (G : Nat) (w : World) (p : Option Addr) (l : List Int) (c : Nat) : Prop where
  t : TRow w.heap.size w p l c
  g : 0 < l.length → ∀ a, p = some a → a.block ≠ G
theorem TG.below {G : Nat} {w w' : World} {p : Option Addr} {l : List Int} {c : Nat} (h : TG G w p l c) (hb : Below w.heap.size w w') : TG G w' p l c := ⟨(h.t.below hb (Nat.le_refl _)).mono hb.size, h.g⟩
theorem TG.setCell {G : Nat} {w : World} {p : Option Addr} {l : List Int} {c : Nat} (h : TG G w p l c) (o : Nat) (u : Value) : TG G (w.setCell ⟨G, o, none⟩ u) p l c := by
  have hb := (Below.refl G w).setCell (p := ⟨G, o, none⟩) (Nat.le_refl _) u
  refine ⟨⟨fun h0 => ?_, h.t.r, h.t.u⟩, h.g⟩
  obtain ⟨b, off, e, hN, hc⟩ := h.t.i h0
  have hne := h.g h0 _ e
  refine ⟨b, off, e, Nat.lt_of_lt_of_le hN hb.size, fun k hk => ?_⟩
  rw [← hc k hk]
  simp only [World.cell?]
  rw [heap_setCell_other w ⟨G, o, none⟩ b u hne]
theorem TRow.tg {w : World} {p : Option Addr} {l : List Int} {c G : Nat} (h : TRow G w p l c) (hw : G ≤ w.heap.size) : TG G w p l c :=
  ⟨h.mono hw, fun h0 a ha => by
    obtain ⟨b, off, e, hN, _⟩ := h.i h0
    rw [e] at ha; cases ha; show b ≠ G; omega⟩
/-- Rows of slots in a block of their own, G; their types elsewhere. -/
structure ERG (G m : Nat) (w : World) (X : List Ep) : Prop where
  o : w.ownsRow G 39 3 (.slice (some ⟨G, 0, none⟩) m m) m (cellsE X)
  n : X.length = m
  t : ∀ x ∈ X, TG G w x.2.1.1 x.2.1.2.1 x.2.1.2.2
theorem ERG.lt {G m : Nat} {w : World} {X : List Ep} (h : ERG G m w X) : G < w.heap.size := (h.o.lt G rfl).2
theorem ERG.below {G m : Nat} {w w' : World} {X : List Ep} (h : ERG G m w X) (hb : Below w.heap.size w w') : ERG G m w' X := ⟨owns_below h.o hb, h.n, fun x hx => (h.t x hx).below hb⟩
theorem gP_mem {X : List Ep} {k : Nat} (h : k < X.length) : gP X k ∈ X := by rw [gP_eq h]; exact List.getElem_mem h
theorem ERG.cells {G m : Nat} {w : World} {X : List Ep} (h : ERG G m w X) {k : Nat} (hk : k < m) : w.cell? ⟨G, k * 3, none⟩ = some (.int .i64 (gP X k).1) ∧ w.cell? ⟨G, k * 3 + 1, none⟩ = some (.slice (gP X k).2.1.1 (gP X k).2.1.2.1.length (gP X k).2.1.2.2) ∧ w.cell? ⟨G, k * 3 + 2, none⟩ = some (.int .i64 (gP X k).2.2) ∧ (∀ o, w.frozen? ⟨G, o, none⟩ = false) := by
  have hc := h.o.cells (g := G) rfl
  obtain ⟨d0, d1, d2⟩ := cellsE_at X k (by rw [h.n]; exact hk)
  have e0 := hc _ _ d0
  have e1 := hc _ _ d1
  have e2 := hc _ _ d2
  rw [addr_add, Nat.zero_add] at e0 e1 e2
  exact ⟨e0, e1, e2, fun o => own_frozen h.o o⟩
/-- A slot is written over. -/
theorem ERG.put {G m : Nat} {w : World} {X : List Ep} (h : ERG G m w X) (k : Nat) (y : Ep) (hy : TG G w y.2.1.1 y.2.1.2.1 y.2.1.2.2) :
    ERG G m (((w.setCell ⟨G, k * 3, none⟩ (.int .i64 y.1)).setCell ⟨G, k * 3 + 1, none⟩ (.slice y.2.1.1 y.2.1.2.1.length y.2.1.2.2)).setCell ⟨G, k * 3 + 2, none⟩ (.int .i64 y.2.2)) (X.set k y) := by
  refine ⟨own_put h.o k y, by rw [List.length_set]; exact h.n, fun x hx => ?_⟩
  rcases List.mem_or_eq_of_mem_set hx with hx | rfl
  · exact (((h.t x hx).setCell _ _).setCell _ _).setCell _ _
  · exact ((hy.setCell _ _).setCell _ _).setCell _ _
theorem ERG.row {G m : Nat} {w : World} {X : List Ep} (h : ERG G m w X) : ERow w.heap.size w (some ⟨G, 0, none⟩) (X.map eOf) := by
  obtain ⟨p, c, e, hr, _⟩ := erow_owns (N := w.heap.size) (by rw [h.n]; exact h.o) (fun x hx => (h.t x hx).t) (Nat.le_refl _)
  cases e
  exact hr
theorem set_gE {L : List En} {k : Nat} : L.set k (gE L k) = L := by
  by_cases h : k < L.length
  · rw [gE_eq h]; simp
  · rw [List.set_eq_of_length_le (by omega)]
theorem Try.info39 : (Try.prog.info? 39).map (fun i => (i.zero, i.size, i.bytes)) = some (some (.agg #[.int .i64 0, .slice none 0 0, .int .i64 0]), 3, 40) := by kernel_rfl
theorem Try.size39 : (Try.prog.info? 39).map (·.size) = some 3 := by kernel_rfl
/-- Made slots. -/
def frX (m : Nat) : List Ep := List.replicate m (0, (none, [], 0), 0)
theorem frX_map (m : Nat) : (frX m).map eOf = frL m := by unfold frX frL; simp [eOf]
theorem cellsE_fr (m : Nat) : (madeCells (Value.agg #[.int .i64 0, .slice none 0 0, .int .i64 0]).cells (m * 3)).toList = cellsE (frX m) := by
  induction m with
  | zero => simp [madeCells, frX, cellsE]
  | succ m ih =>
    have e : frX (m + 1) = frX m ++ [(0, (none, [], 0), 0)] := by unfold frX; rw [List.replicate_succ']
    rw [e, cellsE_append, ← ih]
    have e3 : (m + 1) * 3 = m * 3 + 1 + 1 + 1 := by omega
    have m0 : m * 3 % 3 = 0 := by omega
    have m1 : (m * 3 + 1) % 3 = 1 := by omega
    have m2 : (m * 3 + 1 + 1) % 3 = 2 := by omega
    simp [madeCells, Value.cells, e3, List.range_succ, cellsE, m0, m1, m2]
/-- Slots in memory of a call's own, and their types. -/
structure EFr (B : Nat) (w : World) (p : Option Addr) (L : List En) (c : Nat) : Prop where
  ex : ∃ X : List Ep, X.map eOf = L ∧ w.ownsRow B 39 3 (.slice p L.length c) L.length (cellsE X) ∧ ∀ x ∈ X, OwT B w x.2.1.1 x.2.1.2.1 x.2.1.2.2
theorem EFr.row {B : Nat} {w : World} {p : Option Addr} {L : List En} {c : Nat} (h : EFr B w p L c) : ERow w.heap.size w p L := by
  obtain ⟨X, rfl, ho, ht⟩ := h.ex
  rw [List.length_map] at ho
  obtain ⟨p', c', e, hr, _⟩ := erow_owns (N := w.heap.size) ho (fun x hx => (ht x hx).row) (Nat.le_refl _)
  cases e
  exact hr
theorem EFr.room {B : Nat} {w : World} {p : Option Addr} {L : List En} {c : Nat} (h : EFr B w p L c) : L.length ≤ c := by
  obtain ⟨X, rfl, ho, ht⟩ := h.ex
  rw [List.length_map] at ho ⊢
  obtain ⟨p', c', e, _, hc, _⟩ := erow_owns (N := w.heap.size) ho (fun x hx => (ht x hx).row) (Nat.le_refl _)
  cases e
  exact hc
theorem owns_fresh {w : World} {B e s n c : Nat} {q : Option Addr} {xs : List Value} (h : w.ownsRow B e s (.slice q n c) n xs) : ∀ a, q = some a → B ≤ a.block := fun a ha => (h.lt a.block (by rw [ha]; rfl)).1
theorem EFr.setCell {B : Nat} {w : World} {p : Option Addr} {L : List En} {c : Nat} (h : EFr B w p L c) {a : Addr} (ha : a.block < B) (u : Value) : EFr B (w.setCell a u) p L c := by
  obtain ⟨X, hX, ho, ht⟩ := h.ex
  exact ⟨X, hX, owns_setCell ho (fun x hx => by have := owns_fresh ho x hx; omega) u, fun x hx => (ht x hx).setCell (fun y hy => by have := (ht x hx).fresh y hy; omega) u⟩
theorem EFr.below {B : Nat} {w w' : World} {p : Option Addr} {L : List En} {c : Nat} (h : EFr B w p L c) (hb : Below w.heap.size w w') : EFr B w' p L c := by
  obtain ⟨X, hX, ho, ht⟩ := h.ex
  exact ⟨X, hX, owns_below ho hb, fun x hx => (ht x hx).below hb⟩
theorem EFr.base {B B' : Nat} {w : World} {p : Option Addr} {L : List En} {c : Nat} (h : EFr B w p L c) (hb : B' ≤ B) : EFr B' w p L c := by
  obtain ⟨X, hX, ho, ht⟩ := h.ex
  exact ⟨X, hX, owns_base ho hb, fun x hx => (ht x hx).base hb⟩
theorem gP_set_same {X : List Ep} {k : Nat} {y : Ep} (h : k < X.length) : gP (X.set k y) k = y := by rw [gP_eq (by simpa using h)]; simp
theorem gP_set_ne {X : List Ep} {k j : Nat} {y : Ep} (h : j ≠ k) : gP (X.set k y) j = gP X j := by
  unfold gP; simp [List.getD_eq_getElem?_getD, Ne.symm h]
theorem gP_of_mem {X : List Ep} {x : Ep} (h : x ∈ X) : ∃ k, k < X.length ∧ gP X k = x := by
  obtain ⟨k, hk, rfl⟩ := List.getElem_of_mem h
  exact ⟨k, hk, gP_eq hk⟩
end Go.Proofs.Ytjnhalomkmdcgaa
namespace Go.Proofs.Ytjnhalomkmdcgaa
open Go.RowKit

/-- A lookup's slots, as a call answers them. -/
def AnsE (L' : List En) (w : World) (e : Ending) (w' : World) : Prop := ∃ p' c', e = .returned (.slice p' L'.length c') ∧ EFr w.heap.size w' p' L' c' ∧ Below w.heap.size w w'

theorem lb_set {L : List En} {i : Nat} {y : En} (h : LB L) (hy : y.2.1.length ≤ 1000) : LB (L.set i y) := fun k hk => by
  rw [List.length_set] at hk
  by_cases e : k = i
  · subst e; rw [gE_set_same y hk]; exact hy
  · rw [gE_set_ne y e]; exact h k hk
set_option maxRecDepth 20000 in
set_option maxHeartbeats 4000000 in
theorem replaced44 (p : Option Addr) (L : List En) (c i : Nat) (s n : Int) (q : Option Addr) (t : List Int) (d : Nat) (w : World) (hE : ERow w.heap.size w p L) (hB : LB L) (hT : TRow w.heap.size w q t d) (ht : t.length ≤ 1000) (hi : i < L.length) (hm : L.length ≤ 1000) :
    Calls Try.prog 44 #[.slice p L.length c, .int .i64 (i : Int), .agg #[.int .i64 s, .slice q t.length d, .int .i64 n]] w fun e w' => AnsE (L.set i (s, t, n)) w e w' := by
  obtain ⟨m, hm'⟩ : ∃ m, m = L.length := ⟨_, rfl⟩
  obtain ⟨X, hX, hXt, hXc⟩ := hE.places
  have lX : X.length = m := by rw [hm', ← hX, List.length_map]
  obtain ⟨b, off, rfl, hbN, hcs⟩ := hXc (by omega)
  have hsrc := fun (w1 : World) (hb : Below w.heap.size w w1) => cellsE_src (w := w1) (b := b) (off := off) (X := X) (fun k hk => by
    obtain ⟨k0, k1, k2⟩ := hcs k hk
    exact ⟨(hb.cell (p := ⟨b, off + k * 3, none⟩) hbN).trans k0, (hb.cell (p := ⟨b, off + k * 3 + 1, none⟩) hbN).trans k1, (hb.cell (p := ⟨b, off + k * 3 + 2, none⟩) hbN).trans k2⟩)
  have HSRC := hidOg hsrc
  have HX := hidOg hX
  have HXT := hidOg hXt
  have HLX := hidOg lX
  have HM := hidOg hm'
  have HT := hidOg hT
  have HLB := hidOg hB
  have HTL := hidOg ht
  have HCL : Hid ((cellsE X).length = m * 3) := by unfold Hid; rw [cellsE_len, lX]
  rw [← hm'] at hi hm ⊢
  obtain ⟨i0, hi0, hz0, hz1, hz2⟩ := info_parts Try.info39
  obtain ⟨lt, hlt⟩ : ∃ lt, lt = t.length := ⟨_, rfl⟩
  have HLT := hidOg hlt
  rw [← hlt]
  clear hE hX hXt hXc lX hcs hsrc hm' hT hB ht hlt
  go_enter Try.func44, Try.ntmps44
  go_wp2_with (first | (at_make; refine wpList_make_full _ rfl _ _ 22 rfl (w.alloc (.cells #[.int .i64 s, .slice q lt d, .int .i64 n] 39)).heap.size 39 i0 (.agg #[.int .i64 0, .slice none 0 0, .int .i64 0]) 3 Try.underlying22 hi0 hz0 hz1 .i64 .i64 _ _ m rfl rfl (by omega) (by omega) (by rw [hz2]; omega) (by unfold maxLen; omega) (Nat.le_refl _) ?_; intro w1 hown hgrow; clear hi0 hz0 hz1 hz2; obtain ⟨Z, HZ, HZl, hb1⟩ := made_row hown hgrow; clear hown hgrow))
  have bA : Below w.heap.size w (w.alloc (.cells #[.int .i64 s, .slice q lt d, .int .i64 n] 39)) := (Below.refl _ _).alloc (Nat.le_refl _) _
  have sA : (w.alloc (.cells #[.int .i64 s, .slice q lt d, .int .i64 n] 39)).heap.size = w.heap.size + 1 := by simp
  have zA : (w.alloc (.cells #[.int .i64 s, .slice q lt d, .int .i64 n] 39)).heap[w.heap.size]? = some (.cells #[.int .i64 s, .slice q lt d, .int .i64 n] 39 (0, 0)) := World.alloc_heap_new w _
  generalize (w.alloc (.cells #[.int .i64 s, .slice q lt d, .int .i64 n] 39)) = wA at *
  rw [sA] at HZ hb1
  have HB1 := hidOg (bA.trans (hb1.mono (by omega)))
  obtain ⟨w2, hr2, HZ2, hb2⟩ := copyK_ex (P := Try.prog) w1 22 22 3 39 3 Try.underlying22 Try.size39 (some ⟨w.heap.size + 1, 0, none⟩) (some ⟨b, off, none⟩) m m m c (w.heap.size + 1) 0 Z 39 HZ.out (cellsE X) m (by simp) HCL.out (fun h => ⟨rfl, _, rfl, HSRC.out _ HB1.out⟩) (by rw [HCL.out, HZl.out]; simp) (cellsE_one X) (w.heap.size + 1) wA hb1 (Nat.le_refl _)
  rw [hr2]
  clear hr2
  have HG : Hid (ERG (w.heap.size + 1) m w2 X) := by
    have e : splice Z 0 (cellsE X) = cellsE X := by
      unfold splice; simp; rw [HCL.out, HZl.out]; omega
    have hz := HZ2.out
    rw [e] at hz
    have hlt2 := (Array.getElem?_eq_some_iff.1 hz).1
    refine ⟨⟨by rw [HCL.out], .inr ⟨w.heap.size + 1, m, (cellsE X).toArray, rfl, Nat.le_refl _, hz, Nat.le_refl _, by unfold maxLen; omega, by simpa using HCL.out, by simp only []; rw [← HCL.out]; exact List.take_length⟩⟩, HLX.out, fun x hx => ?_⟩
    have hb := bA.trans (hb2.mono (by omega))
    exact (((HXT.out x hx).below hb (Nat.le_refl _)).mono (by omega : w.heap.size ≤ w.heap.size + 1)).tg (by omega)
  have HB2 := hidOg (bA.trans (hb2.mono (by omega)))
  obtain ⟨y0, y1, y2, yf⟩ := heap3_cell ((hb2.block w.heap.size (by omega)).trans zA)
  obtain ⟨g0, g1, g2, gf⟩ := HG.out.cells hi
  clear hb2 hb1 HZ HZ2 HZl HSRC bA zA HB1
  go_wp2
  have HT2 : Hid (TG (w.heap.size + 1) w2 q t d) := (((HT.out.below HB2.out (Nat.le_refl _)).mono (by omega : w.heap.size ≤ w.heap.size + 1))).tg (Nat.le_of_lt HG.out.lt)
  have HY := hidOg (HG.out.put i (s, (q, t, d), n) HT2.out)
  have HLS : Hid (LB (L.set i (s, t, n))) := lb_set HLB.out HTL.out
  have HLen : Hid ((L.set i (s, t, n)).length = m) := by unfold Hid; rw [List.length_set, HM.out]
  have HMp : Hid ((X.set i (s, (q, t, d), n)).map eOf = L.set i (s, t, n)) := by unfold Hid; rw [map_set, HX.out]; rfl
  obtain ⟨L', hL'⟩ : ∃ L', L' = L.set i (s, t, n) := ⟨_, rfl⟩
  rw [← hL'] at HLS HLen HMp
  have HL' := hidOg hL'
  clear hL'
  clear g0 g1 g2 gf y0 y1 y2 yf
  go_loopw [22] (fun v wr => ∃ (k : Nat) (Y : List Ep), k ≤ m ∧ v = .int .i64 k ∧ ERG (w.heap.size + 1) m wr Y ∧ Y.map eOf = L' ∧ (∀ j, j < k → OwT (w.heap.size + 2) wr (gP Y j).2.1.1 (gP Y j).2.1.2.1 (gP Y j).2.1.2.2) ∧ Below w.heap.size w wr) (fun v _ => m - (intOf v).toNat)
  case atStart =>
    refine ⟨0, X.set i (s, (q, t, d), n), Nat.zero_le _, rfl, ?_, HMp.out, (fun j h => by omega), ((HB2.out.setCell (p := ⟨w.heap.size + 1, i * 3, none⟩) (by simp) _).setCell (p := ⟨w.heap.size + 1, i * 3 + 1, none⟩) (by simp) _).setCell (p := ⟨w.heap.size + 1, i * 3 + 2, none⟩) (by simp) _⟩
    rw [HLT.out]
    exact HY.out
  case round =>
    obtain ⟨k, Y, hk, rfl, hG, hYm, hOw, hB⟩ := hrel
    have HGk := hidOg hG
    have HYm := hidOg hYm
    have HB := hidOg hB
    have HOw := hidOg hOw
    clear hG hYm hB hOw HY HMp HG HT2
    by_cases hlt : k < m
    · obtain ⟨a0, a1, a2, af⟩ := HGk.out.cells hlt
      have hkY : k < Y.length := by rw [HGk.out.n]; exact hlt
      have hTG := HGk.out.t _ (gP_mem hkY)
      have hgE : gE L' k = eOf (gP Y k) := by rw [← HYm.out, gE_map hkY]
      have hlen : (gP Y k).2.1.2.1.length ≤ 1000 := by
        have := HLS.out k (by rw [HLen.out]; exact hlt)
        rw [hgE] at this; exact this
      have hgl := HGk.out.lt
      obtain ⟨y, hy⟩ : ∃ y, y = gP Y k := ⟨_, rfl⟩
      rw [← hy] at a0 a1 a2 hTG hlen hgE
      obtain ⟨s', ⟨q', t', d'⟩, n'⟩ := y
      have HgE := hidOg hgE
      simp only at a0 a1 a2 hTG hlen
      have CO := fun (W : World) (hb : Below wr.heap.size wr W) => own61 s' n' q' t' d' W ((hTG.t.below hb (Nat.le_refl _)).mono hb.size) hlen
      have hbal := fun (o : Obj) => (Below.refl wr.heap.size wr).alloc (Nat.le_refl _) o
      have HBal := hidOg hbal
      have G4 : Hid (∀ (o : Obj) (W : World), Below (wr.alloc o).heap.size (wr.alloc o) W → ERG (w.heap.size + 1) m W Y ∧ Below w.heap.size w W ∧ ∀ j, j < k → OwT (w.heap.size + 2) W (gP Y j).2.1.1 (gP Y j).2.1.2.1 (gP Y j).2.1.2.2) := fun o W hb => by
        have h1 := (hbal o).trans (hb.mono (hbal o).size)
        exact ⟨HGk.out.below h1, HB.out.trans (h1.mono HB.out.size), fun j hj => (HOw.out j hj).below h1⟩
      have FR : Hid (∀ (o : Obj) (W : World) (q4 : Option Addr) (c4 : Nat), OwT (wr.alloc o).heap.size W q4 t' c4 → TG (w.heap.size + 1) W q4 t' c4 ∧ OwT (w.heap.size + 2) W q4 t' c4) := fun o W q4 c4 h => ⟨⟨h.row, fun _ a ha => by
        have := h.fresh a ha
        simp at this; omega⟩, h.base (by simp; omega)⟩
      obtain ⟨lt', hlt'⟩ : ∃ lt', lt' = t'.length := ⟨_, rfl⟩
      rw [← hlt'] at a1 CO
      have HLT' := hidOg hlt'
      clear hy hTG hlen hgE hbal hlt'
      go_wp2_with (first | (go_at_call 61; refine Calls.mono (CO _ (HBal.out _)) ?_; rintro e w4 ⟨q4, c4, rfl, hO, hb4⟩; obtain ⟨hG4, hB4, hO4⟩ := G4.out _ _ hb4; have HO4 := hidOg hO4; clear hO4; obtain ⟨e0, e1, e2, ef⟩ := hG4.cells hlt; have HG4 := hidOg hG4; have HB4 := hidOg hB4; have HTG4 := hidOg (FR.out _ _ _ _ hO).1; have HOn := hidOg (FR.out _ _ _ _ hO).2; clear hG4 hB4 hb4 hO))
      go_roundw
      case rel =>
        refine ⟨k + 1, Y.set k (s', (q4, t', c4), n'), by omega, by go_num, ?_, ?_, ?_, ((HB4.out.setCell (p := ⟨w.heap.size + 1, k * 3, none⟩) (by simp) _).setCell (p := ⟨w.heap.size + 1, k * 3 + 1, none⟩) (by simp) _).setCell (p := ⟨w.heap.size + 1, k * 3 + 2, none⟩) (by simp) _⟩
        · rw [HLT'.out]
          exact HG4.out.put k (s', (q4, t', c4), n') HTG4.out
        · rw [map_set, HYm.out]
          have : eOf (s', (q4, t', c4), n') = gE L' k := by rw [HgE.out]; rfl
          rw [this, set_gE]
        · intro j hj
          have hkY : k < Y.length := by rw [HG4.out.n]; exact hlt
          have key : OwT (w.heap.size + 2) w4 (gP (Y.set k (s', (q4, t', c4), n')) j).2.1.1 (gP (Y.set k (s', (q4, t', c4), n')) j).2.1.2.1 (gP (Y.set k (s', (q4, t', c4), n')) j).2.1.2.2 := by
            by_cases e : j = k
            · subst e; rw [gP_set_same hkY]; exact HOn.out
            · rw [gP_set_ne e]; exact HO4.out j (by omega)
          have hne : ∀ x, (gP (Y.set k (s', (q4, t', c4), n')) j).2.1.1 = some x → x.block ≠ w.heap.size + 1 := fun x hx => by have := key.fresh x hx; omega
          exact ((key.setCell (a := ⟨w.heap.size + 1, k * 3, none⟩) hne _).setCell (a := ⟨w.heap.size + 1, k * 3 + 1, none⟩) hne _).setCell (a := ⟨w.heap.size + 1, k * 3 + 2, none⟩) hne _
      case measure => simp [intOf]; omega
    · obtain rfl : k = m := by omega
      go_wp2
      go_ret
      have fin : AnsE L' w (.returned (.slice (some ⟨w.heap.size + 1, 0, none⟩) k k)) wr :=
        ⟨some ⟨w.heap.size + 1, 0, none⟩, k, by rw [HLen.out], ⟨Y, HYm.out, by rw [HLen.out]; exact owns_base HGk.out.o (by omega), fun x hx => by
          obtain ⟨j, hj, rfl⟩ := gP_of_mem hx
          exact (HOw.out j (by rw [← HGk.out.n]; exact hj)).base (by omega)⟩, HB.out⟩
      rw [HL'.out] at fin
      exact fin
set_option maxRecDepth 20000 in
theorem new17 (w : World) : Calls Try.prog 17 #[] w fun e w' => ∃ p' c', e = .returned (.agg #[.slice p' 8 c']) ∧ EFr w.heap.size w' p' (frL 8) c' ∧ Below w.heap.size w w' := by
  obtain ⟨i0, hi0, hz0, hz1, hz2⟩ := info_parts Try.info39
  obtain ⟨wA, hA⟩ : ∃ wA, wA = w.alloc (.cells #[.slice none 0 0] 24) := ⟨_, rfl⟩
  have bA : Below w.heap.size w wA := by rw [hA]; exact (Below.refl _ _).alloc (Nat.le_refl _) _
  have sA : wA.heap.size = w.heap.size + 1 := by rw [hA]; simp
  have bB : Boxed wA w.heap.size 24 (.slice none 0 0) := by rw [hA]; exact Boxed.new w 24 _
  go_enter Try.func17, Try.ntmps17
  go_wp2_with (first | (at_make; rw [← hA]; refine wpList_make_full _ rfl _ _ 22 rfl wA.heap.size 39 i0 (.agg #[.int .i64 0, .slice none 0 0, .int .i64 0]) 3 Try.underlying22 hi0 hz0 hz1 .i64 .i64 _ _ 8 rfl rfl (by omega) (by omega) (by rw [hz2]; omega) (by unfold maxLen; omega) (Nat.le_refl _) ?_; intro w1 hown hgrow; clear hi0 hz0 hz1 hz2; have bC := bB.kept hgrow (by simp); have cC := bC.cell; have fC := bC.frozen; have HO := hidOg hown; have HGr := hidOg hgrow; clear hown hgrow))
  have hb1 : Below w.heap.size w w1 := bA.trans (((Below.refl _ _).grown HGr.out (Nat.le_refl _) (fun k e => by cases e)).mono bA.size)
  have ho := HO.out
  rw [cellsE_fr 8, sA] at ho
  have hE : EFr (w.heap.size + 1) w1 (some ⟨w.heap.size + 1, 0, none⟩) (frL 8) 8 := ⟨frX 8, frX_map 8, ho, fun x hx => by
    have : x = (0, (none, [], 0), 0) := by unfold frX at hx; exact (List.mem_replicate.1 hx).2
    rw [this]; exact ⟨World.ownsRow_nil _ _ _ _, fun y hy => by simp at hy⟩⟩
  refine bodyPost_ret (v := .agg #[.slice (some ⟨w.heap.size + 1, 0, none⟩) 8 8]) (by simp [results, Try.results17, go_sem, cC]) rfl ⟨_, _, rfl, ?_, ?_⟩
  · exact (hE.setCell (a := ⟨w.heap.size, 0, none⟩) (by simp) _).base (by omega)
  · exact hb1.setCell (p := ⟨w.heap.size, 0, none⟩) (by simp) _
end Go.Proofs.Ytjnhalomkmdcgaa
