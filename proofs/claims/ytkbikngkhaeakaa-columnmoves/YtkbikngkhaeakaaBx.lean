/- Columns in boxes; what Set answers, and back; Rows in one form. -/
import Derived.Test.YtkbikngkhaeakaaCoM
import Derived.Test.YtkbikngkhaeakaaCoN
import Derived.Test.YtkbikngkhaeakaaRfC
import Derived.Test.YtkbikngkhaeakaaRfD
import Derived.Test.YtkbikngkhaeakaaRfF
import Derived.Test.YtkbikngkhaeakaaWk
namespace Go.Proofs.Ytkbikngkhaeakaa
open Go.RowKit Go.Sort

/-- A column in a box. -/
structure BC (K : Nat) (wd rs : Int) (q : Option Addr) (L : List Int) (c : Nat) (w : World) : Prop where
  b : w.heap[K]? = some (.cells #[.int .i64 wd, .int .i64 rs, .slice q L.length c] 24 (0, 0))
  r : Row w q L c
  m : c ≤ maxLen
theorem BC.lt {K : Nat} {wd rs : Int} {q : Option Addr} {L : List Int} {c : Nat} {w : World} (h : BC K wd rs q L c w) : K < w.heap.size := (Array.getElem?_eq_some_iff.1 h.b).1
theorem BC.to {K : Nat} {wd rs : Int} {q : Option Addr} {L : List Int} {c : Nat} {w w' : World} (h : BC K wd rs q L c w) (hb : Below w.heap.size w w') : BC K wd rs q L c w' := ⟨(hb.block K h.lt).trans h.b, h.r.to hb, h.m⟩
theorem BC.new {wd rs : Int} {q : Option Addr} {L : List Int} {c : Nat} {w : World} (h : Row w q L c) (hm : c ≤ maxLen) : BC w.heap.size wd rs q L c (w.alloc (.cells #[.int .i64 wd, .int .i64 rs, .slice q L.length c] 24)) := ⟨heap_alloc_new _ _, h.to (bal _ _), hm⟩
theorem BC.cells {K : Nat} {wd rs : Int} {q : Option Addr} {L : List Int} {c : Nat} {w : World} (h : BC K wd rs q L c w) : w.cell? ⟨K, 0, none⟩ = some (.int .i64 wd) ∧ w.cell? ⟨K, 1, none⟩ = some (.int .i64 rs) ∧ w.cell? ⟨K, 2, none⟩ = some (.slice q L.length c) := by
  obtain ⟨h0, h1, h2, _⟩ := heap3_cell h.b
  exact ⟨h0, h1, h2⟩
/-- The rows of whatever column. -/
def roS (wd rs : Int) (l : List Int) : List (List Int) := if mayB wd rs l.length then chK wd.toNat rs.toNat l else []
theorem roS_of {W R : Nat} {l : List Int} (h : mayB (W : Int) (R : Int) l.length = true) : roS W R l = chK W R l := by unfold roS; rw [if_pos h]; rfl
theorem rows20 (wd rs : Int) (p : Option Addr) (l : List Int) (c : Nat) (w : World) (hR : Row w p l c) (hc : c ≤ maxLen) (hs : smB wd rs l.length = true) :
    Calls Try.prog 20 #[.agg #[.int .i64 wd, .int .i64 rs, .slice p l.length c]] w fun e w' => GivesV (roS wd rs l) w e w' := by
  cases hm : mayB wd rs l.length
  · have := rows20_no wd rs p l c w (Nat.le_trans hR.r hc) hm
    unfold roS; rw [if_neg (by rw [hm]; decide)]; exact this
  · obtain ⟨W, R, rfl, rfl, hcv⟩ := cv_of hm hR hc
    rw [roS_of hm]
    have h2 : (R : Int) ≤ 200 := by
      unfold smB at hs
      rw [hm] at hs
      simpa using hs
    exact rows20_yes W R p l c w hcv (by omega)
theorem set_no {wd rs : Int} {L : List Int} {row : Int} {v : List Int} (h : ¬ (tA wd rs L row v).2 = 0) : (tA wd rs L row v).1.2.1 = 0 := by
  unfold tA setA at h ⊢
  by_cases h1 : mayB wd rs L.length = true
  · rw [if_pos h1] at h ⊢
    by_cases h2 : hasB (rs.toNat : Int) row = true
    · rw [if_pos h2] at h ⊢
      by_cases h3 : v.length = wd.toNat
      · rw [if_pos h3] at h; exact absurd rfl h
      · rw [if_neg h3]; rfl
    · rw [if_neg h2]; rfl
  · rw [if_neg h1]; rfl
theorem set_yes {wd rs : Int} {L : List Int} {row : Int} {v : List Int} (h : (tA wd rs L row v).2 = 0) : ∃ W R r : Nat, wd = W ∧ rs = R ∧ row = r ∧ r < R ∧ mayB (W : Int) (R : Int) L.length = true ∧ L.length = W * R ∧ v.length = W ∧ tA wd rs L row v = (((W : Int), (R : Int), ((chK W R L).set r v).flatten), 0) := by
  unfold tA setA at h ⊢
  by_cases h1 : mayB wd rs L.length = true
  · obtain ⟨m0, m1, m2, m3, m4⟩ := mayB_t h1
    obtain ⟨W, rfl⟩ : ∃ W : Nat, wd = W := ⟨wd.toNat, by omega⟩
    obtain ⟨R, rfl⟩ : ∃ R : Nat, rs = R := ⟨rs.toNat, by omega⟩
    rw [if_pos h1] at h ⊢
    rw [show (W : Int).toNat = W from rfl, show (R : Int).toNat = R from rfl] at h ⊢
    by_cases h2 : hasB (R : Int) row = true
    · have h2' : 0 ≤ row ∧ row < R := by unfold hasB at h2; simpa using h2
      rw [if_pos h2] at h ⊢
      by_cases h3 : v.length = W
      · rw [if_pos h3]
        refine ⟨W, R, row.toNat, rfl, rfl, by omega, by omega, h1, by exact_mod_cast m4, h3, rfl⟩
      · rw [if_neg h3] at h; exact absurd h (by decide)
    · rw [if_neg h2] at h; exact absurd h (by decide)
  · rw [if_neg h1] at h; exact absurd h (by decide)
theorem get_yes {W R r : Nat} {L : List Int} (hm : mayB (W : Int) (R : Int) L.length = true) (hr : r < R) : gA (W : Int) (R : Int) L (r : Int) = ((chK W R L)[r]'(by rw [chK_len]; exact hr), 0) := by
  unfold gA getV getE
  rw [if_pos hm, show (W : Int).toNat = W from rfl, show (R : Int).toNat = R from rfl]
  have h2 : hasB (R : Int) (r : Int) = true := by unfold hasB; simp; omega
  rw [if_pos h2, if_pos h2, wdK_row, chK_at _ _ hr]
theorem set_len {W R r : Nat} {L v : List Int} (hl : L.length = W * R) (hv : v.length = W) : (((chK W R L).set r v).flatten).length = W * R := by
  rw [flat_len (W := W) (fun x hx => ?_), List.length_set, chK_len]
  rcases List.mem_or_eq_of_mem_set hx with h | h
  · exact chK_mem hl h
  · rw [h, hv]
theorem chK_set {W R r : Nat} {L v : List Int} (hl : L.length = W * R) (hv : v.length = W) : chK W R (((chK W R L).set r v).flatten) = (chK W R L).set r v := by
  have := chK_flat (W := W) (rows := (chK W R L).set r v) (fun x hx => by
    rcases List.mem_or_eq_of_mem_set hx with h | h
    · exact chK_mem hl h
    · rw [h, hv])
  rwa [List.length_set, chK_len] at this
theorem setb_yes {W R r : Nat} {L v : List Int} (hm : mayB (W : Int) (R : Int) L.length = true) (hr : r < R) (hl : L.length = W * R) (hv : v.length = W) : tA (W : Int) (R : Int) (((chK W R L).set r v).flatten) (r : Int) ((chK W R L)[r]'(by rw [chK_len]; exact hr)) = (((W : Int), (R : Int), L), 0) := by
  have hm2 : mayB (W : Int) (R : Int) (((chK W R L).set r v).flatten).length = true := by rw [set_len hl hv, ← hl]; exact hm
  unfold tA setA
  rw [if_pos hm2, show (W : Int).toNat = W from rfl, show (R : Int).toNat = R from rfl]
  have h2 : hasB (R : Int) (r : Int) = true := by unfold hasB; simp; omega
  rw [if_pos h2, if_pos (by exact chK_mem hl (List.getElem_mem _)), chK_set hl hv, show ((r : Int)).toNat = r from rfl, set_back (by rw [chK_len]; exact hr), flat_chK hl]
theorem samC_refl (wd rs : Int) (l : List Int) : samC wd rs l wd rs l = true := by unfold samC; rw [samI_refl]; simp
end Go.Proofs.Ytkbikngkhaeakaa
