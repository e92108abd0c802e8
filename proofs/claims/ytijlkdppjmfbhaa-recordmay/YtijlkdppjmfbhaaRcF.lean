/- inOrder: who stands in a table, as they come. -/
import Derived.Test.YtijlkdppjmfbhaaRcE
namespace Go.Proofs.Ytijlkdppjmfbhaa
open Go.RowKit Go.Shelf
theorem irow_none {q : IntKind} {N : Nat} {w : World} {l : List Int} (h : IRow q N w none l) : l = [] := by
  cases l with
  | nil => rfl
  | cons z t => obtain ⟨b, off, hh, _⟩ := h (by simp); cases hh
theorem irow_src {N : Nat} {w : World} {a : Addr} {l : List Int} (h : IRow .i64 N w (some a) l) : ∀ j u, (cellsI .i64 l)[j]? = some u → w.cell? (a.add j) = some u := by
  intro j u hj
  have hlt : j < l.length := by have := (List.getElem?_eq_some_iff.1 hj).1; simpa [cellsI] using this
  obtain ⟨b, off, e, _, hc⟩ := h (by omega)
  cases e
  rw [addr_add, hc j hlt]
  simp [cellsI, hlt] at hj
  rw [← hj, iG_eq hlt]
theorem app_noneW {i : TypeInfo} {t : TypeId} (ht : Try.prog.underlying t = some (.slice 3)) (w : World) (ty : TypeId) (hi : Try.prog.info? 3 = some i) {B : Nat} {v : Value} {n : Nat} {xs : List Value} (h : w.ownsRow B 3 1 v n xs) (c : Nat) :
    (Builtin.append_ #[t, t] ty #[v, .slice none 0 c]).run Try.prog w = .ok v w := by
  rcases h.2 with ⟨rfl, h0⟩ | ⟨g, cap, cur, rfl, _, hh, h1, _⟩
  · simp [Builtin.append_, run_underlying ht, sizeOf, typeInfo, hi, Builtin.lenOf, Builtin.firstCells]
  · simp [Builtin.append_, run_underlying ht, sizeOf, typeInfo, hi, Builtin.lenOf, Builtin.firstCells, h1, storeCells]
/-- Words appended to a row of a call's own. -/
theorem app_words {t : TypeId} (ht : Try.prog.underlying t = some (.slice 3)) (W : World) (ty : TypeId) (B : Nat) (p : Option Addr) (l : List Int) (c : Nat) (q : Option Addr) (r : List Int) (d : Nat) (ho : OwnR B W p l c) (hr : IRow .i64 W.heap.size W q r) (hl : l.length + r.length ≤ 1099511627776) (hB : B ≤ W.heap.size) :
    ∃ p' c' W', (Builtin.append_ #[t, t] ty #[.slice p l.length c, .slice q r.length d]).run Try.prog W = .ok (.slice p' (l ++ r).length c') W' ∧ OwnR B W' p' (l ++ r) c' ∧ W.grownBy W' (p.map (·.block)) := by
  obtain ⟨i0, hi, hz0, hz1, hz2⟩ := info_parts Try.info3
  cases q with
  | none =>
    obtain rfl := irow_none hr
    refine ⟨p, c, W, ?_, by simpa using ho, World.grownBy.refl _ _⟩
    rw [List.append_nil]
    exact app_noneW ht W ty hi ho.o d
  | some ad =>
    obtain ⟨v', w', h1, h2, h3, _⟩ := run_append_own_at (P := Try.prog) W B t ty 3 i0 (.int .i64 0) 1 8 ht hi hz0 hz1 hz2 rfl (by decide) _ l.length _ ho.o ad r.length d (cellsI .i64 r) (cellsI_len _ _) (irow_src hr) (cellsI_one _ _) (by unfold maxLen; omega) (by omega) hB
    have h2' : w'.ownsRow B 3 1 v' (l ++ r).length ((l ++ r).map (Value.int .i64)) := by simpa [cellsI] using h2
    obtain ⟨q', c', rfl, _⟩ := irow_owns h2'
    exact ⟨q', c', w', h1, ⟨h2', by simp; omega⟩, by rw [ownBlock_slice] at h3; exact h3⟩

attribute [local go_sem] Oper.semAt_some
attribute [local go_sem ↓] app_hide
/-- Those, of these places, who stand in a table. -/
def rwN (l : List Sp) (t : Int) (pre : List Nat) : List Int := (pre.filter fun y => decide ((sG l y).1 = t)).map fun (y : Nat) => (y : Int) + 1
theorem rwN_len (l : List Sp) (t : Int) (pre : List Nat) : (rwN l t pre).length ≤ pre.length := by
  unfold rwN; rw [List.length_map]; exact List.length_filter_le _ _
theorem rwN_t {l : List Sp} {t : Int} {pre : List Nat} {x : Nat} (h : (sG l x).1 = t) : rwN l t (pre ++ [x]) = rwN l t pre ++ [(x : Int) + 1] := by
  unfold rwN; rw [List.filter_append, List.map_append]; simp [h]
theorem rwN_f {l : List Sp} {t : Int} {pre : List Nat} {x : Nat} (h : ¬ (sG l x).1 = t) : rwN l t (pre ++ [x]) = rwN l t pre := by
  unfold rwN; rw [List.filter_append]; simp [h]
/-- What inOrder keeps in memory. -/
def InM (S : Nat) (vp : Value) (l : List Sp) (t : Int) (pre : List Nat) (W : World) : Prop := Boxed W (S + 1) 24 vp ∧ ∃ q c, Boxed W S 26 (.slice q (rwN l t (pre.map yM)).length c) ∧ OwnR S W q (rwN l t (pre.map yM)) c
theorem InM.kc {S : Nat} {vp : Value} {l : List Sp} {t : Int} {pre : List Nat} {W W' : World} (h : InM S vp l t pre W) (k : Kc W W') : InM S vp l t pre W' := by
  obtain ⟨h0, q, c, h1, h2⟩ := h
  exact ⟨k.same _ _ h0 rfl, q, c, k.same _ _ h1 rfl, k.ownR h2⟩
def InI (S : Nat) (vp : Value) (w4 : World) (l : List Sp) (t : Int) (pre : List Nat) (W : World) : Prop := InM S vp l t pre W ∧ Below S w4 W
theorem ini_own (S : Nat) (vp : Value) (w4 : World) (l : List Sp) (t : Int) (B : Nat) (h1 : S ≤ w4.heap.size) (h2 : S ≤ B) : OwnFrom B (InI S vp w4 l t) :=
  OwnFrom.and (own_kc fun _ _ _ k h => h.kc k) (ownFrom_below h1 h2)
end Go.Proofs.Ytijlkdppjmfbhaa
