/- What All has handed over may be written over. -/
import Derived.Test.YtjnhalomkmdcgaaLwC
namespace Go.Proofs.Ytjnhalomkmdcgaa
open Go.RowKit

/-- Entries in memory of a call's own, whatever their types are by now. -/
structure GtM (Bg g : Nat) (q : Option Addr) (c : Nat) (W : World) : Prop where
  ex : ∃ X : List Ep, X.length = g ∧ W.ownsRow Bg 39 3 (.slice q g c) g (cellsE X) ∧ ∀ x ∈ X, OwT Bg W x.2.1.1 x.2.1.2.1 x.2.1.2.2
theorem gtm_of {B : Nat} {w : World} {p : Option Addr} {L : List En} {c g : Nat} (h : EFr B w p L c) (hg : g = L.length) : GtM B g p c w := by
  subst hg
  obtain ⟨X, hX, ho, ht⟩ := h.ex
  exact ⟨X, by rw [← hX, List.length_map], ho, ht⟩
theorem GtM.below {Bg g : Nat} {q : Option Addr} {c : Nat} {W W' : World} (h : GtM Bg g q c W) (hb : Below W.heap.size W W') : GtM Bg g q c W' := by
  obtain ⟨X, hX, ho, ht⟩ := h.ex
  exact ⟨X, hX, owns_below ho hb, fun x hx => (ht x hx).below hb⟩
theorem GtM.cells {Bg g k : Nat} {q : Option Addr} {c : Nat} {W : World} (h : GtM Bg g q c W) (hk : k < g) : ∃ G s n qy l cy, q = some ⟨G, 0, none⟩ ∧ G < W.heap.size ∧ W.cell? ⟨G, k * 3, none⟩ = some (.int .i64 s) ∧ W.cell? ⟨G, k * 3 + 1, none⟩ = some (.slice qy l.length cy) ∧ W.cell? ⟨G, k * 3 + 2, none⟩ = some (.int .i64 n) ∧ OwT Bg W qy l cy := by
  obtain ⟨X, hX, ho, ht⟩ := h.ex
  rcases owns_len ho with ⟨_, h0⟩ | ⟨G, c', hv, _⟩
  · omega
  · cases hv
    have hc := ho.cells (g := G) rfl
    obtain ⟨d0, d1, d2⟩ := cellsE_at X k (by rw [hX]; exact hk)
    have e0 := hc _ _ d0
    have e1 := hc _ _ d1
    have e2 := hc _ _ d2
    rw [addr_add, Nat.zero_add] at e0 e1 e2
    exact ⟨G, _, _, _, _, _, rfl, (ho.lt G rfl).2, e0, e1, e2, ht _ (gP_mem (by rw [hX]; exact hk))⟩
/-- An entry, behind a store to block b. -/
def updE (b k : Nat) (z : Int) (x : Ep) : Ep := (x.1, (x.2.1.1, (if x.2.1.1.map (·.block) = some b then x.2.1.2.1.set k z else x.2.1.2.1), x.2.1.2.2), x.2.2)
theorem updE_len (b k : Nat) (z : Int) (x : Ep) : (updE b k z x).2.1.2.1.length = x.2.1.2.1.length := by
  unfold updE; simp only; split <;> simp
theorem cellsE_upd (b k : Nat) (z : Int) (X : List Ep) : cellsE (X.map (updE b k z)) = cellsE X := by
  induction X with
  | nil => rfl
  | cons x X ih =>
    obtain ⟨s, ⟨q, l, c⟩, n⟩ := x
    have hl := updE_len b k z (s, (q, l, c), n)
    simp only [List.map_cons, cellsE, ih]
    rw [hl]; rfl
theorem owt_set {Bg b : Nat} {w : World} {l : List Int} {c : Nat} (ho : OwT Bg w (some ⟨b, 0, none⟩) l c) (k : Nat) {z : Int} (hz : 0 ≤ z ∧ z < 18446744073709551616) : OwT Bg (w.setCell ⟨b, k, none⟩ (.int .u64 z)) (some ⟨b, 0, none⟩) (l.set k z) c := by
  refine ⟨?_, fun y hy => ?_⟩
  · rw [List.length_set, List.map_set]
    exact ownsRow_set ho.o k (.int .u64 z)
  · rcases List.mem_or_eq_of_mem_set hy with hy | rfl
    · exact ho.u y hy
    · exact hz
theorem GtM.bump {Bg g : Nat} {q : Option Addr} {c : Nat} {w : World} {b : Nat} {l : List Int} {cy : Nat} (h : GtM Bg g q c w) (ho : OwT Bg w (some ⟨b, 0, none⟩) l cy) (k : Nat) {z : Int} (hz : 0 ≤ z ∧ z < 18446744073709551616) : GtM Bg g q c (w.setCell ⟨b, k, none⟩ (.int .u64 z)) := by
  obtain ⟨X, hX, hr, ht⟩ := h.ex
  refine ⟨X.map (updE b k z), by rw [List.length_map, hX], ?_, fun y hy => ?_⟩
  · rw [cellsE_upd]
    exact hr.kept (grownBy_setCellO w ⟨b, k, none⟩ _) (owns_part hr ho.o (by decide))
  · obtain ⟨x, hx, rfl⟩ := List.mem_map.1 hy
    have hox := ht x hx
    obtain ⟨s, ⟨qx, lx, cx⟩, n⟩ := x
    unfold updE
    simp only at hox ⊢
    by_cases hb : qx.map (·.block) = some b
    · rw [if_pos hb]
      rcases owns_len hox.o with ⟨hv, _⟩ | ⟨G, c', hv, _⟩
      · injection hv with h1
        rw [h1] at hb; simp at hb
      · cases hv
        simp at hb
        subst hb
        exact owt_set hox k hz
    · rw [if_neg hb]
      exact hox.setCell (a := ⟨b, k, none⟩) (fun a ha e => hb (by rw [ha]; simp; exact e)) _
theorem OwT.len {B : Nat} {w : World} {q : Option Addr} {l : List Int} {c : Nat} (h : OwT B w q l c) : l.length ≤ 9223372036854775807 := by
  rcases h.o.2 with ⟨_, h0⟩ | ⟨g, cap, cur, hv, _, hg, h1, h2, _⟩
  · omega
  · unfold maxLen at h2; omega
/-- The cells of such a row of ids. -/
theorem OwT.at {B : Nat} {w : World} {q : Option Addr} {l : List Int} {c k : Nat} (h : OwT B w q l c) (hk : k < l.length) : ∃ b, q = some ⟨b, 0, none⟩ ∧ B ≤ b ∧ w.cell? ⟨b, k, none⟩ = some (.int .u64 (iG l k)) ∧ w.frozen? ⟨b, k, none⟩ = false ∧ (∀ t cs, w.heap[b]? = some (.cells cs t (0, 0)) → t = 41) := by
  rcases owns_len h.o with ⟨_, h0⟩ | ⟨G, c', hv, hB⟩
  · omega
  · cases hv
    refine ⟨G, rfl, hB, ?_, own_frozen h.o k, fun t cs ht => ?_⟩
    · have hc := h.o.cells (g := G) rfl k (.int .u64 (iG l k)) (by simp [hk, iG_eq hk])
      rw [addr_add, Nat.zero_add] at hc
      exact hc
    · rcases h.o.2 with ⟨hn, _⟩ | ⟨g, cap, cur, hv, _, hg, _⟩
      · cases hn
      · cases hv
        rw [hg] at ht; cases ht; rfl
end Go.Proofs.Ytjnhalomkmdcgaa
