/- Rows of values that a call owns; appends. -/
import Derived.Test.YtkbikngkhaeakaaCoE
namespace Go.Proofs.Ytkbikngkhaeakaa
open Go.RowKit

def vR (x : RR) : Value := .slice x.1 x.2.1.length x.2.2
def gR (X : List RR) (k : Nat) : RR := X.getD k (none, [], 0)
theorem gR_eq {X : List RR} {k : Nat} (h : k < X.length) : gR X k = X[k] := by simp [gR, h]
theorem gR_mem {X : List RR} {k : Nat} (h : k < X.length) : gR X k ∈ X := by rw [gR_eq h]; exact List.getElem_mem h
theorem vR_one (X : List RR) : ∀ v ∈ X.map vR, v.oneCell' = true := fun v hv => by
  obtain ⟨x, _, rfl⟩ := List.mem_map.1 hv; rfl
/-- Rows of values in memory that a call owns; the values lie below N. -/
structure RO (N B : Nat) (X : List RR) (q : Option Addr) (c : Nat) (W : World) : Prop where
  o : W.ownsRow B 38 1 (.slice q X.length c) X.length (X.map vR)
  t : ∀ x ∈ X, IRow .u64 N W x.1 x.2.1
theorem RO.below {N M B : Nat} {X : List RR} {q : Option Addr} {c : Nat} {W W' : World} (h : RO N B X q c W) (hb : Below W.heap.size W W') (hN : N ≤ W.heap.size) (hM : N ≤ M) : RO M B X q c W' :=
  ⟨owns_below h.o hb, fun x hx => ((h.t x hx).below hb hN).mono hM⟩
theorem RO.base {N B B' : Nat} {X : List RR} {q : Option Addr} {c : Nat} {W : World} (h : RO N B X q c W) (hB : B' ≤ B) : RO N B' X q c W := ⟨owns_base h.o hB, h.t⟩
theorem RO.to {B : Nat} {X : List RR} {q : Option Addr} {c : Nat} {W W' : World} (h : RO W.heap.size B X q c W) (hb : Below W.heap.size W W') : RO W'.heap.size B X q c W' := h.below hb (Nat.le_refl _) hb.size
theorem RO.cells {N B : Nat} {X : List RR} {q : Option Addr} {c : Nat} {W : World} (h : RO N B X q c W) {k : Nat} (hk : k < X.length) : ∃ G, q = some ⟨G, 0, none⟩ ∧ B ≤ G ∧ G < W.heap.size ∧ W.cell? ⟨G, k, none⟩ = some (vR (gR X k)) ∧ W.frozen? ⟨G, k, none⟩ = false := by
  rcases h.o.2 with ⟨hn, h0⟩ | ⟨g, cap, cur, hv, hb, hg, h1, h2, h3, h4⟩
  · omega
  · cases hv
    refine ⟨g, rfl, hb, (Array.getElem?_eq_some_iff.1 hg).1, ?_, ?_⟩
    · have hc : cur.toList[k]? = some (vR (gR X k)) := by
        have : (cur.toList.take (X.length * 1))[k]? = (X.map vR)[k]? := by rw [h4]
        rw [List.getElem?_take_of_lt (by omega)] at this
        rw [this, gR_eq hk]; simp [hk]
      simp only [World.cell?, hg]
      simp only [Option.isSome_none, Bool.false_eq_true, if_false]
      rw [← Array.getElem?_toList, hc]
    · simp [World.frozen?, hg]
theorem RO.row {N B M : Nat} {X : List RR} {q : Option Addr} {c : Nat} {W : World} (h : RO N B X q c W) (hN : N ≤ M) (hM : W.heap.size ≤ M) : VRow M W q X := fun h0 => by
  obtain ⟨G, e, _, hG, _, _⟩ := h.cells h0
  refine ⟨G, 0, e, by omega, fun k hk => ?_⟩
  obtain ⟨G', e', _, _, hc, _⟩ := h.cells hk
  rw [e] at e'; cases e'
  rw [Nat.zero_add]
  refine ⟨hc, ?_⟩
  have := (h.t _ (gR_mem hk)).mono hN
  exact this
theorem RO.nil (N B : Nat) (W : World) : RO N B [] none 0 W := ⟨World.ownsRow_nil _ _ _ _, fun x hx => by simp at hx⟩
theorem RO.lt {N B : Nat} {X : List RR} {q : Option Addr} {c : Nat} {W : World} (h : RO N B X q c W) : ∀ a, q = some a → a.block < W.heap.size := by
  intro a ha
  rcases h.o.2 with ⟨e, _⟩ | ⟨g, cap, cur, e, _, hh, _⟩
  · injection e with e1; rw [ha] at e1; cases e1
  · injection e with e1; rw [ha] at e1; cases e1; exact (Array.getElem?_eq_some_iff.1 hh).1

theorem app_mix (w : World) (ty : TypeId) (p : Option Addr) (n c : Nat) (x : Value) : (Builtin.append_ #[22, 38] ty #[.slice p n c, x]).run Try.prog w = (Builtin.append_ #[22, 22] ty #[.slice p n c, x]).run Try.prog w := by
  obtain ⟨i0, hi, hz0, hz1, hz2⟩ := info_parts Try.info40
  simp [Builtin.append_, run_underlying Try.underlying38, run_underlying Try.underlying22, sizeOf, typeInfo, hi]
theorem app_noneW {i : TypeInfo} {t : TypeId} (ht : Try.prog.underlying t = some (.slice 40)) (w : World) (ty : TypeId) (hi : Try.prog.info? 40 = some i) {B : Nat} {v : Value} {n : Nat} {xs : List Value} (h : w.ownsRow B 40 1 v n xs) (c : Nat) :
    (Builtin.append_ #[t, t] ty #[v, .slice none 0 c]).run Try.prog w = .ok v w := by
  rcases h.2 with ⟨rfl, h0⟩ | ⟨g, cap, cur, rfl, _, hh, h1, _⟩
  · simp [Builtin.append_, run_underlying ht, sizeOf, typeInfo, hi, Builtin.lenOf, Builtin.firstCells]
  · simp [Builtin.append_, run_underlying ht, sizeOf, typeInfo, hi, Builtin.lenOf, Builtin.firstCells, h1, storeCells]
/-- Words appended to a row of a call's own. -/
theorem app_words {t : TypeId} (ht : Try.prog.underlying t = some (.slice 40)) (W : World) (ty : TypeId) (B : Nat) (p : Option Addr) (l : List Int) (c : Nat) (q : Option Addr) (r : List Int) (d : Nat) (ho : OwnR B W p l c) (hr : IRow .u64 W.heap.size W q r) (hl : l.length + r.length ≤ 1099511627776) (hB : B ≤ W.heap.size) :
    ∃ p' c' W', (Builtin.append_ #[t, t] ty #[.slice p l.length c, .slice q r.length d]).run Try.prog W = .ok (.slice p' (l ++ r).length c') W' ∧ OwnR B W' p' (l ++ r) c' ∧ W.grownBy W' (p.map (·.block)) := by
  obtain ⟨i0, hi, hz0, hz1, hz2⟩ := info_parts Try.info40
  cases q with
  | none =>
    obtain rfl := irow_none hr
    refine ⟨p, c, W, ?_, by simpa using ho, World.grownBy.refl _ _⟩
    rw [List.append_nil]
    exact app_noneW ht W ty hi ho.o d
  | some ad =>
    obtain ⟨v', w', h1, h2, h3, _⟩ := run_append_own_at (P := Try.prog) W B t ty 40 i0 (.int .u64 0) 1 8 ht hi hz0 hz1 hz2 rfl (by decide) _ l.length _ ho.o ad r.length d (cellsI .u64 r) (cellsI_len _ _) (irow_src hr) (cellsI_one _ _) (by unfold maxLen; omega) (by omega) hB
    have h2' : w'.ownsRow B 40 1 v' (l ++ r).length ((l ++ r).map (Value.int .u64)) := by simpa [cellsI] using h2
    obtain ⟨q', c', rfl, _⟩ := irow_owns h2'
    exact ⟨q', c', w', h1, ⟨h2', by simp; omega⟩, by rw [ownBlock_slice] at h3; exact h3⟩
theorem grown_bel {w W W' : World} {p : Option Addr} {N : Nat} (hb : Below N w W) (hp : ∀ a, p = some a → N ≤ a.block) (hN : N ≤ W.heap.size) (hg : W.grownBy W' (p.map (·.block))) : Below N w W' := by
  refine hb.grown hg hN fun k hk => ?_
  cases p with
  | none => cases hk
  | some x => have := hp x rfl; simp at hk; omega
/-- Rows of values in memory that a call owns; the values lie in rows of their own. -/
structure RV (B : Nat) (X : List RR) (q : Option Addr) (c : Nat) (W : World) : Prop where
  o : W.ownsRow B 38 1 (.slice q X.length c) X.length (X.map vR)
  t : ∀ x ∈ X, OwnR 0 W x.1 x.2.1 x.2.2
theorem RV.to {B : Nat} {X : List RR} {q : Option Addr} {c : Nat} {W W' : World} (h : RV B X q c W) (hb : Below W.heap.size W W') : RV B X q c W' := ⟨owns_below h.o hb, fun x hx => (h.t x hx).to hb⟩
theorem RV.base {B B' : Nat} {X : List RR} {q : Option Addr} {c : Nat} {W : World} (h : RV B X q c W) (hB : B' ≤ B) : RV B' X q c W := ⟨owns_base h.o hB, h.t⟩
theorem RV.ro {B : Nat} {X : List RR} {q : Option Addr} {c : Nat} {W : World} (h : RV B X q c W) : RO W.heap.size B X q c W := ⟨h.o, fun x hx => (h.t x hx).row.i⟩
theorem RV.row {B : Nat} {X : List RR} {q : Option Addr} {c : Nat} {W : World} (h : RV B X q c W) : VRow W.heap.size W q X := h.ro.row (Nat.le_refl _) (Nat.le_refl _)
theorem RV.nil (B : Nat) (W : World) : RV B [] none 0 W := ⟨World.ownsRow_nil _ _ _ _, fun x hx => by simp at hx⟩
theorem RV.len {B : Nat} {X : List RR} {q : Option Addr} {c : Nat} {W : World} (h : RV B X q c W) : X.length ≤ c := by
  rcases h.o.2 with ⟨e, h0⟩ | ⟨g, cap, cur, e, _, _, h1, _⟩
  · omega
  · injection e with e1 e2 e3; omega
/-- What a header's growing leaves. -/
theorem OwnR.hdr {B B' : Nat} {W W' : World} {p q : Option Addr} {l : List Int} {c n c' : Nat} {xs : List Value} (h : OwnR B W p l c) (ho : W.ownsRow B' 38 1 (.slice q n c') n xs) (hg : W.grownBy W' (q.map (·.block))) : OwnR B W' p l c :=
  ⟨h.o.kept hg (by have := owns_apart h.o ho (by decide); rw [ownBlock_slice q n c'] at this; exact this), h.n⟩
theorem app_rv (W : World) (ty : TypeId) (B : Nat) (p : Option Addr) (X : List RR) (c : Nat) (Y : List RR) (ad : Addr) (d : Nat) (ho : RV B X p c W) (hY : ∀ j u, (Y.map vR)[j]? = some u → W.cell? (ad.add j) = some u) (hYt : ∀ x ∈ Y, OwnR 0 W x.1 x.2.1 x.2.2) (hl : X.length + Y.length ≤ 100000) (hB : B ≤ W.heap.size) :
    ∃ p' c' W', (Builtin.append_ #[35, 35] ty #[.slice p X.length c, .slice (some ad) Y.length d]).run Try.prog W = .ok (.slice p' (X ++ Y).length c') W' ∧ RV B (X ++ Y) p' c' W' ∧ W.grownBy W' (p.map (·.block)) := by
  obtain ⟨i0, hi, hz0, hz1, hz2⟩ := info_parts Try.info38
  obtain ⟨v', w', h1, h2, h3, _⟩ := run_append_own_at (P := Try.prog) W B 35 ty 38 i0 (.slice none 0 0) 1 24 Try.underlying35 hi hz0 hz1 hz2 rfl (by decide) _ X.length _ ho.o ad Y.length d (Y.map vR) (by simp) hY (vR_one Y) (by unfold maxLen; omega) (by omega) hB
  have h2' : w'.ownsRow B 38 1 v' (X ++ Y).length ((X ++ Y).map vR) := by simpa using h2
  have hg : W.grownBy w' (p.map (·.block)) := by rw [ownBlock_slice] at h3; exact h3
  have hb' : ∀ x ∈ X ++ Y, OwnR 0 w' x.1 x.2.1 x.2.2 := fun x hx => by
    rcases List.mem_append.1 hx with hx | hx
    · exact (ho.t x hx).hdr ho.o hg
    · exact (hYt x hx).hdr ho.o hg
  rcases owns_len h2' with ⟨rfl, h0⟩ | ⟨g, c', rfl, _⟩
  · refine ⟨none, 0, w', ?_, ⟨by rw [h0]; rw [h0] at h2'; exact h2', hb'⟩, hg⟩
    rw [h1]; rw [h0]
  · exact ⟨_, c', w', h1.trans (by simp), ⟨h2', hb'⟩, hg⟩
theorem app_noneV {i : TypeInfo} (w : World) (ty : TypeId) (hi : Try.prog.info? 38 = some i) {B : Nat} {v : Value} {n : Nat} {xs : List Value} (h : w.ownsRow B 38 1 v n xs) (c : Nat) :
    (Builtin.append_ #[35, 35] ty #[v, .slice none 0 c]).run Try.prog w = .ok v w := by
  rcases h.2 with ⟨rfl, h0⟩ | ⟨g, cap, cur, rfl, _, hh, h1, _⟩
  · simp [Builtin.append_, run_underlying Try.underlying35, sizeOf, typeInfo, hi, Builtin.lenOf, Builtin.firstCells]
  · simp [Builtin.append_, run_underlying Try.underlying35, sizeOf, typeInfo, hi, Builtin.lenOf, Builtin.firstCells, h1, storeCells]
theorem vcells {W : World} {b off : Nat} {X : List RR} (h : ∀ k, k < X.length → W.cell? ⟨b, off + k, none⟩ = some (.slice (rP X k) (rL X k).length (rC X k))) : ∀ j u, (X.map vR)[j]? = some u → W.cell? ((⟨b, off, none⟩ : Addr).add j) = some u := by
  intro j u hj
  have hlt : j < X.length := by have := (List.getElem?_eq_some_iff.1 hj).1; simpa using this
  rw [addr_add, h j hlt]
  rw [List.getElem?_map, List.getElem?_eq_getElem hlt] at hj
  rw [← hj]; simp [vR, rP, rL, rC, hlt]
theorem cell_new1 (W : World) (v : Value) (t : TypeId) : ∀ j u, ([v])[j]? = some u → (W.alloc (.cells #[v] t)).cell? ((⟨W.heap.size, 0, none⟩ : Addr).add j) = some u := by
  intro j u hj
  have hj0 : j = 0 := by have := (List.getElem?_eq_some_iff.1 hj).1; simp at this; exact this
  subst hj0
  rw [addr_add, World.cell?_alloc_at _ _ _ _ rfl]
  simpa using hj
/-- Any rows appended, the row that is appended to may be empty. -/
theorem app_all (W : World) (ty : TypeId) (B : Nat) (p : Option Addr) (X : List RR) (c : Nat) (q : Option Addr) (Y : List RR) (d : Nat) (ho : RV B X p c W) (hq : VRow W.heap.size W q Y) (hYt : ∀ x ∈ Y, OwnR 0 W x.1 x.2.1 x.2.2) (hl : X.length + Y.length ≤ 100000) (hB : B ≤ W.heap.size) :
    ∃ p' c' W', (Builtin.append_ #[35, 35] ty #[.slice p X.length c, .slice q Y.length d]).run Try.prog W = .ok (.slice p' (X ++ Y).length c') W' ∧ RV B (X ++ Y) p' c' W' ∧ W.grownBy W' (p.map (·.block)) := by
  by_cases h0 : 0 < Y.length
  · obtain ⟨b, off, rfl, _, hc⟩ := hq h0
    exact app_rv W ty B p X c Y _ d ho (vcells fun k hk => (hc k hk).1) hYt hl hB
  · obtain rfl : Y = [] := List.eq_nil_of_length_eq_zero (by omega)
    cases q with
    | none =>
      obtain ⟨i0, hi, _⟩ := info_parts Try.info38
      refine ⟨p, c, W, ?_, by simpa using ho, World.grownBy.refl _ _⟩
      rw [List.append_nil]
      exact app_noneV W ty hi ho.o d
    | some ad => exact app_rv W ty B p X c [] ad d ho (by simp) hYt hl hB
end Go.Proofs.Ytkbikngkhaeakaa
