/- ColumnBack: what Push and Swap answer, and back. -/
import Derived.Test.YtkbikngkhaeakaaThM
namespace Go.Proofs.Ytkbikngkhaeakaa
open Go.RowKit

theorem fit_one (W : Nat) (pv : Option Addr) (v : List Int) (d : Nat) : fitB (W : Int) [(pv, v, d)] = decide (v.length = W) := (fitB_all W _).trans (by simp [lS])
theorem pu_yes {W R : Nat} {L v : List Int} {pv : Option Addr} {d : Nat} (hm : mayB (W : Int) (R : Int) L.length = true) (hR : R ≤ 200) (hv : v.length = W) : pA (W : Int) (R : Int) L [(pv, v, d)] = (((W : Int), ((R + 1 : Nat) : Int), L ++ v), 0) := by
  unfold pA pshA
  rw [if_pos hm, show (W : Int).toNat = W from rfl, show (R : Int).toNat = R from rfl, fit_one, if_pos (by simp [hv])]
  have h3 : roomB (R : Int) [(pv, v, d)].length = true := by unfold roomB; simp; omega
  rw [if_pos h3]
  simp [lS]
theorem pu_no {W R : Nat} {L v : List Int} {pv : Option Addr} {d : Nat} (hm : mayB (W : Int) (R : Int) L.length = true) (hv : ¬ v.length = W) : pA (W : Int) (R : Int) L [(pv, v, d)] = (zC, 140) := by
  unfold pA pshA
  rw [if_pos hm, show (W : Int).toNat = W from rfl, show (R : Int).toNat = R from rfl, fit_one, if_neg (by simp [hv])]
theorem sw_pushed {W R : Nat} {L v : List Int} (hW : W ≤ 4) (hR : R ≤ 200) (hl : L.length = W * R) (hv : v.length = W) : sA (W : Int) ((R + 1 : Nat) : Int) (L ++ v) (R : Int) = (((W : Int), (R : Int), L), 0) := by
  obtain ⟨p1, p2⟩ := push_one hl hv
  unfold sA swpA
  rw [if_pos (mayB_nat hW (by omega) p1), show (W : Int).toNat = W from rfl, show (((R + 1 : Nat) : Int)).toNat = R + 1 from rfl]
  have h2 : hasB ((R + 1 : Nat) : Int) (R : Int) = true := by unfold hasB; simp; omega
  rw [if_pos h2, p2, show ((R : Int)).toNat = R from rfl, swO_pushN (chK_len _ _ _), flat_chK hl, show R + 1 - 1 = R from rfl]
theorem get_pushed {W R : Nat} {L v : List Int} (hW : W ≤ 4) (hR : R ≤ 200) (hl : L.length = W * R) (hv : v.length = W) : gA (W : Int) ((R + 1 : Nat) : Int) (L ++ v) (R : Int) = (v, 0) := by
  obtain ⟨p1, p2⟩ := push_one hl hv
  rw [get_yes (mayB_nat hW (by omega) p1) (by omega)]
  congr 1
  simp only [p2]
  rw [List.getElem_append_right (by rw [chK_len]; exact Nat.le_refl _)]
  simp [chK_len]
theorem sw_no {W R : Nat} {L : List Int} {row : Int} (hm : mayB (W : Int) (R : Int) L.length = true) (h : ¬ (sA (W : Int) (R : Int) L row).2 = 0) : row < 0 ∨ (R : Int) ≤ row := by
  unfold sA swpA at h
  rw [if_pos hm, show (W : Int).toNat = W from rfl, show (R : Int).toNat = R from rfl] at h
  by_cases h2 : hasB (R : Int) row = true
  · rw [if_pos h2] at h; exact absurd rfl h
  · unfold hasB at h2
    simp at h2
    omega
theorem sw_yes {W R : Nat} {L : List Int} {row : Int} (hm : mayB (W : Int) (R : Int) L.length = true) (h : (sA (W : Int) (R : Int) L row).2 = 0) : ∃ r : Nat, row = r ∧ r < R ∧ sA (W : Int) (R : Int) L row = (((W : Int), ((R - 1 : Nat) : Int), (swO (chK W R L) r).flatten), 0) := by
  unfold sA swpA at h ⊢
  rw [if_pos hm, show (W : Int).toNat = W from rfl, show (R : Int).toNat = R from rfl] at h ⊢
  by_cases h2 : hasB (R : Int) row = true
  · have h2' : 0 ≤ row ∧ row < R := by unfold hasB at h2; simpa using h2
    rw [if_pos h2]
    exact ⟨row.toNat, by omega, by omega, rfl⟩
  · rw [if_neg h2] at h; exact absurd h (by decide)
end Go.Proofs.Ytkbikngkhaeakaa
