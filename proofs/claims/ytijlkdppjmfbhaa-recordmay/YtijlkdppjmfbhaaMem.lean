/- Rows as cells; 'copy' into a row of the call's own; rows that a call owns, and what keeps them; rows of values in memory. -/
import Derived.Test.YtijlkdppjmfbhaaMod
import Derived.Laws.CopyOwn
import Derived.Laws.IdiomCopy
import Derived.Deep.RegionHeld3
namespace Go.Proofs.Ytijlkdppjmfbhaa
open Go.RowKit

theorem run_copy_rowK {P : Program} (w : World) (dT sT ty elem : TypeId) (size g o dLen dCap : Nat) (a : Addr) (sLen sCap : Nat) (cur : Array Value) (t : TypeId) (cs : List Value)
    (hu : P.underlying dT = some (.slice elem)) (hs : (P.info? elem).map (·.size) = some size)
    (hg : w.heap[g]? = some (.cells cur t (0, 0))) (hn : cs.length = Nat.min sLen dLen * size)
    (hsrc : ∀ j v, cs[j]? = some v → w.cell? (a.add j) = some v) (hfit : o + cs.length ≤ cur.size) (h1 : ∀ v ∈ cs, v.oneCell' = true) :
    (Builtin.copy_ #[dT, sT] ty #[.slice (some ⟨g, o, none⟩) dLen dCap, .slice (some a) sLen sCap]).run P w =
      .ok (goInt (Nat.min sLen dLen : Nat)) (w.setRow g (cur.toList.take o ++ cs ++ cur.toList.drop (o + cs.length)).toArray) := by
  have hl := run_loadCells_list (P := P) w a cs hsrc
  have hst := run_storeCells_at P g o t cs 0 cur w hg (by simpa using hfit) h1
  cases hq : P.info? elem with
  | none => simp [hq] at hs
  | some i =>
    have hi : i.size = size := by simpa [hq] using hs
    simp [Builtin.copy_, run_underlying hu, Builtin.lenOf, Builtin.firstCells, sizeOf, typeInfo, hq, hi, ← hn, hl, hst]
theorem run_copy_noneK {P : Program} (w : World) (dT sT ty elem : TypeId) (size : Nat) (d a : Option Addr) (dLen dCap sLen sCap : Nat) (hu : P.underlying dT = some (.slice elem)) (hs : (P.info? elem).map (·.size) = some size) (hn : Nat.min sLen dLen = 0) :
    (Builtin.copy_ #[dT, sT] ty #[.slice d dLen dCap, .slice a sLen sCap]).run P w = .ok (goInt 0) w := by
  cases hq : P.info? elem with
  | none => simp [hq] at hs
  | some i =>
    have hl : ∀ (x : Addr), (loadCells x 0).run P w = .ok #[] w := fun x => by simpa using run_loadCells_list (P := P) w x [] (by simp)
    cases d <;> cases a <;> simp [Builtin.copy_, run_underlying hu, Builtin.lenOf, Builtin.firstCells, sizeOf, typeInfo, hq, hn, storeCells, hl]

theorem copyK_ex {P : Program} (w : World) (dT sT ty elem : TypeId) (size : Nat) (hu : P.underlying dT = some (.slice elem)) (hsz : (P.info? elem).map (·.size) = some size)
    (dp sp : Option Addr) (dLen dCap sLen sCap : Nat)
    (g off : Nat) (cur : List Value) (t : TypeId) (hg : w.heap[g]? = some (.cells cur.toArray t (0, 0))) (cs : List Value) (N : Nat) (hN : N = Nat.min sLen dLen) (hn : cs.length = N * size)
    (hpos : 0 < N → dp = some ⟨g, off, none⟩ ∧ ∃ ad, sp = some ad ∧ ∀ j v, cs[j]? = some v → w.cell? (ad.add j) = some v)
    (hfit : off + cs.length ≤ cur.length) (h1 : ∀ v ∈ cs, v.oneCell' = true) (B : Nat) (w0 : World) (hb : Below B w0 w) (hBg : B ≤ g) :
    ∃ w', (Builtin.copy_ #[dT, sT] ty #[.slice dp dLen dCap, .slice sp sLen sCap]).run P w = .ok (goInt (N : Nat)) w' ∧ Hid (w'.heap[g]? = some (.cells (splice cur off cs).toArray t (0, 0))) ∧ Below B w0 w' := by
  by_cases h0 : N = 0
  · have hc : cs.length = 0 := by rw [hn, h0]; simp
    obtain rfl : cs = [] := List.eq_nil_of_length_eq_zero hc
    exact ⟨w, by rw [run_copy_noneK (P := P) w dT sT ty elem size dp sp dLen dCap sLen sCap hu hsz (by omega), h0]; rfl, (show _ = _ by simpa [splice] using hg), hb⟩
  · obtain ⟨rfl, ad, rfl, hsrc⟩ := hpos (by omega)
    have hrun := run_copy_rowK (P := P) w dT sT ty elem size g off dLen dCap ad sLen sCap cur.toArray t cs hu hsz hg (by rw [hn, hN]) hsrc (by simpa using hfit) h1
    exact ⟨_, by rw [hrun, hN], (show _ = _ by simpa [splice] using setRow_heap w g _ _ t _ hg), below_setRow hb hBg _⟩

theorem srcI {q : IntKind} {N M : Nat} {w w1 : World} {p : Option Addr} {l : List Int} (hS : IRow q N w p l) (hb : Below M w w1) (hm : N ≤ M) (h : 0 < l.length) : ∃ ad, p = some ad ∧ ∀ j v, (cellsI q l)[j]? = some v → w1.cell? (ad.add j) = some v := by
  obtain ⟨b, off, rfl, _, hc⟩ := (hS.below hb hm) h
  exact ⟨_, rfl, cellsI_src hc⟩
theorem made_row {w w1 : World} {t size n : Nat} {zs : List Value} (hown : w1.ownsRow w.heap.size t size (.slice (some ⟨w.heap.size, 0, none⟩) n n) n zs) (hg : w.grownBy w1 none) :
    ∃ Z : List Value, Hid (w1.heap[w.heap.size]? = some (.cells Z.toArray t (0, 0))) ∧ Hid (Z.length = n * size) ∧ Below w.heap.size w w1 := by
  rcases hown.2 with ⟨h', _⟩ | ⟨g', cap', cur, h', _, hc, _, _, hs, _⟩
  · simp at h'
  · simp only [Value.slice.injEq, Option.some.injEq, Addr.mk.injEq, and_true, true_and] at h'
    obtain ⟨rfl, rfl⟩ := h'
    exact ⟨cur.toList, by simpa [Hid] using hc, by simpa [Hid] using hs, (Below.refl _ _).grown hg (Nat.le_refl _) (fun k e => by cases e)⟩
theorem splice_take {α : Type} (Z A B : List α) (h : Z.take A.length = A) : (splice Z A.length B).take (A.length + B.length) = A ++ B := by
  unfold splice
  rw [h, ← List.length_append, ← List.append_assoc, List.take_append_of_le_length (Nat.le_refl _), List.take_length]
theorem irow_heap {w : World} {G t : Nat} {l : List Int} (q : IntKind) (h : w.heap[G]? = some (.cells (cellsI q l).toArray t (0, 0))) : IRow q w.heap.size w (some ⟨G, 0, none⟩) l := by
  intro _
  refine ⟨G, 0, rfl, (Array.getElem?_eq_some_iff.1 h).1, fun k hk => ?_⟩
  simp [World.cell?, h, cellsI, iG, hk]

theorem heap3_cell {W : World} {B : Nat} {a b c : Value} {t : TypeId} (h : W.heap[B]? = some (.cells #[a, b, c] t (0, 0))) : W.cell? ⟨B, 0, none⟩ = some a ∧ W.cell? ⟨B, 1, none⟩ = some b ∧ W.cell? ⟨B, 2, none⟩ = some c ∧ (∀ o, W.frozen? ⟨B, o, none⟩ = false) :=
  ⟨by simp [World.cell?, h], by simp [World.cell?, h], by simp [World.cell?, h], fun o => by simp [World.frozen?, h]⟩
theorem ownBlock_slice (q : Option Addr) (n c : Nat) : (Value.slice q n c).ownBlock = q.map (·.block) := by cases q <;> rfl
theorem grownBy_setCellO (W : World) (a : Addr) (u : Value) : W.grownBy (W.setCell a u) (some a.block) := by
  have hb := (Below.refl a.block W).setCell (p := a) (Nat.le_refl _) u
  exact ⟨hb.os, hb.tape, hb.output, hb.size, fun k _ hne => heap_setCell_other W a k u (fun e => hne (by rw [e]))⟩
theorem owns_setCell {w : World} {B e s n c : Nat} {q : Option Addr} {xs : List Value} (h : w.ownsRow B e s (.slice q n c) n xs) {a : Addr} (hne : ∀ x, q = some x → x.block ≠ a.block) (u : Value) : (w.setCell a u).ownsRow B e s (.slice q n c) n xs := by
  refine h.kept (grownBy_setCellO w a u) ?_
  rw [ownBlock_slice]
  cases q with
  | none => exact .inl rfl
  | some x => exact .inr (by simpa using hne x rfl)
theorem owns_below {w w' : World} {B e s n : Nat} {v : Value} {xs : List Value} (h : w.ownsRow B e s v n xs) (hb : Below w.heap.size w w') : w'.ownsRow B e s v n xs :=
  h.kept (grown_of_below hb) (by cases v.ownBlock <;> simp)
theorem owns_base {w : World} {B B' e s n : Nat} {v : Value} {xs : List Value} (h : w.ownsRow B e s v n xs) (hB : B' ≤ B) : w.ownsRow B' e s v n xs := by
  refine ⟨h.1, ?_⟩
  rcases h.2 with h1 | ⟨g, cap, cur, e, hg, r⟩
  · exact .inl h1
  · exact .inr ⟨g, cap, cur, e, Nat.le_trans hB hg, r⟩
theorem owns_fresh {w : World} {B e s n c : Nat} {q : Option Addr} {xs : List Value} (h : w.ownsRow B e s (.slice q n c) n xs) : ∀ a, q = some a → B ≤ a.block := fun a ha => (h.lt a.block (by rw [ha]; rfl)).1
theorem owns_len {w : World} {B e s n : Nat} {v : Value} {xs : List Value} (h : w.ownsRow B e s v n xs) : (v = .slice none 0 0 ∧ n = 0) ∨ ∃ g c, v = .slice (some ⟨g, 0, none⟩) n c ∧ B ≤ g := by
  rcases h.2 with h | ⟨g, cap, cur, rfl, hb, _⟩
  · exact .inl h
  · exact .inr ⟨g, cap, rfl, hb⟩
theorem owns_kept {w w' : World} {B e s n G : Nat} {v : Value} {xs : List Value} (h : w.ownsRow B e s v n xs) (hG : v.ownBlock = none ∨ v.ownBlock ≠ some G) (hh : ∀ b, b ≠ G → b < w.heap.size → w'.heap[b]? = w.heap[b]?) : w'.ownsRow B e s v n xs := by
  refine ⟨h.1, ?_⟩
  rcases h.2 with hn | ⟨g, cap, cur, rfl, hb, hgg, rest⟩
  · exact .inl hn
  · have hne : g ≠ G := by
      rcases hG with h | h
      · simp [Value.ownBlock] at h
      · intro e; exact h (by rw [e]; rfl)
    exact .inr ⟨g, cap, cur, rfl, hb, (hh g hne (Array.getElem?_eq_some_iff.1 hgg).1).trans hgg, rest⟩
theorem owns_apart {W : World} {B B' s s' n n' : Nat} {e e' : TypeId} {v v' : Value} {xs xs' : List Value} (h : W.ownsRow B e s v n xs) (h' : W.ownsRow B' e' s' v' n' xs') (hne : e ≠ e') : v.ownBlock = none ∨ v.ownBlock ≠ v'.ownBlock := by
  rcases h.2 with ⟨rfl, _⟩ | ⟨g, cap, cur, rfl, _, hg, _⟩
  · exact .inl rfl
  · rcases h'.2 with ⟨rfl, _⟩ | ⟨g', cap', cur', rfl, _, hg', _⟩
    · exact .inr (by simp [Value.ownBlock])
    · refine .inr fun he => ?_
      have : g = g' := by simpa [Value.ownBlock] using he
      subst this
      rw [hg] at hg'; cases hg'; exact hne rfl
theorem OwnR.weak {B B' : Nat} {w : World} {p : Option Addr} {l : List Int} {c : Nat} (h : OwnR B w p l c) (hB : B' ≤ B) : OwnR B' w p l c := ⟨owns_base h.o hB, h.n⟩
theorem OwnR.setCell {B : Nat} {w : World} {q : Option Addr} {l : List Int} {c : Nat} (h : OwnR B w q l c) {a : Addr} (hne : ∀ x, q = some x → x.block ≠ a.block) (u : Value) : OwnR B (w.setCell a u) q l c := ⟨owns_setCell h.o hne u, h.n⟩
theorem bal (W : World) (o : Obj) : Below W.heap.size W (W.alloc o) := (Below.refl _ _).alloc (Nat.le_refl _) _
end Go.Proofs.Ytijlkdppjmfbhaa
