/- Mathematics of records: by who stands where. -/
import Derived.Test.YtijlkdppjmfbhaaApA
namespace Go.Proofs.Ytijlkdppjmfbhaa
open Go.RowKit

theorem sG_out {l : List Sp} {j : Nat} (h : l.length ≤ j) : sG l j = (0, 0) := by
  unfold sG; rw [List.getD_eq_getElem?_getD, List.getElem?_eq_none h]; rfl
theorem sG_lt {l : List Sp} {j : Nat} (h : sG l j ≠ (0, 0)) : j < l.length := Decidable.byContradiction fun hn => h (sG_out (by omega))
theorem sG_ext (l : List Sp) (n j : Nat) : sG (extS l n) j = sG l j := by
  unfold extS
  by_cases h : j < l.length
  · unfold sG; rw [List.getD_eq_getElem?_getD, List.getD_eq_getElem?_getD, List.getElem?_append_left h]
  · rw [sG_out (l := l) (by omega)]
    unfold sG; rw [List.getD_eq_getElem?_getD, List.getElem?_append_right (by omega), List.getElem?_replicate]
    split <;> rfl
theorem sG_set {l : List Sp} {k : Nat} (h : k < l.length) (s : Sp) (j : Nat) : sG (l.set k s) j = if j = k then s else sG l j := by
  unfold sG
  rw [List.getD_eq_getElem?_getD, List.getD_eq_getElem?_getD, List.getElem?_set]
  by_cases e : k = j
  · subst e; simp [h]
  · rw [if_neg e, if_neg (fun h => e h.symm)]
/-- The last one is not nowhere. -/
def NormL (l : List Sp) : Prop := l.length = 0 ∨ ¬ sG l (l.length - 1) = (0, 0)
theorem cutN_out (l : List Sp) : ∀ (k j : Nat), cutN l k ≤ j → j < k → sG l j = (0, 0)
  | 0, j, _, h => by omega
  | k + 1, j, h1, h2 => by
    unfold cutN at h1
    by_cases e : sG l k = (0, 0)
    · rw [if_pos e] at h1
      by_cases ej : j = k
      · rw [ej]; exact e
      · exact cutN_out l k j h1 (by omega)
    · rw [if_neg e] at h1; omega
theorem cutN_last (l : List Sp) : ∀ k, cutN l k = 0 ∨ ¬ sG l (cutN l k - 1) = (0, 0)
  | 0 => .inl rfl
  | k + 1 => by
    unfold cutN
    by_cases e : sG l k = (0, 0)
    · rw [if_pos e]; exact cutN_last l k
    · rw [if_neg e]; exact .inr e
theorem cutL_len (l : List Sp) : (cutL l).length = cutN l l.length := by
  unfold cutL; rw [List.length_take]; have := cutN_le l l.length; omega
theorem sG_cut (l : List Sp) (j : Nat) : sG (cutL l) j = sG l j := by
  by_cases h : j < cutN l l.length
  · unfold cutL; exact sG_take h
  · rw [sG_out (by rw [cutL_len]; omega)]
    by_cases h2 : j < l.length
    · exact (cutN_out l _ j (by omega) h2).symm
    · exact (sG_out (by omega)).symm
theorem norm_cut (l : List Sp) : NormL (cutL l) := by
  unfold NormL
  rw [cutL_len, sG_cut]
  exact cutN_last l _
theorem norm_eq {a b : List Sp} (ha : NormL a) (hb : NormL b) (h : ∀ j, sG a j = sG b j) : a = b := by
  have hlen : a.length = b.length := by
    rcases Nat.lt_trichotomy a.length b.length with h1 | h1 | h1
    · exfalso
      rcases hb with h2 | h2
      · omega
      · rw [← h, sG_out (by omega)] at h2; exact h2 rfl
    · exact h1
    · exfalso
      rcases ha with h2 | h2
      · omega
      · rw [h, sG_out (by omega)] at h2; exact h2 rfl
  refine List.ext_getElem hlen fun i h1 h2 => ?_
  have := h i
  rwa [sG_eq h1, sG_eq h2] at this
/-- Those who stand somewhere stand at places, no two at one. -/
def GoodF (f : Nat → Sp) : Prop := (∀ j, f j ≠ (0, 0) → plB (f j) = true) ∧ ∀ i j, f i ≠ (0, 0) → f i = f j → i = j
theorem goodQ_iff {l : List Sp} : GoodQ l (plN l l.length) ↔ GoodF (sG l) := by
  constructor
  · intro h
    refine ⟨fun j hj => h.1 j (plN_mem.2 ⟨sG_lt hj, hj⟩), fun i j hi e => ?_⟩
    have hj : sG l j ≠ (0, 0) := by rw [← e]; exact hi
    exact h.inj (plN_mem.2 ⟨sG_lt hi, hi⟩) (plN_mem.2 ⟨sG_lt hj, hj⟩) e
  · intro h
    refine ⟨fun y hy => h.1 y (plN_mem.1 hy).2, ?_⟩
    have hnd : (plN l l.length).Nodup := by unfold plN; exact (List.nodup_range).filter _
    refine List.Pairwise.imp_of_mem (R := fun a b => a ≠ b) ?_ hnd
    intro a b ha hb hne e
    exact hne (h.2 a b (plN_mem.1 ha).2 e)
theorem may_iff {l : List Sp} : mayS l = true ↔ l.length ≤ 1048578 ∧ NormL l ∧ GoodF (sG l) := by
  rw [← goodQ_iff]
  constructor
  · exact fun h => mayS_bd h
  · rintro ⟨h1, h2, h3⟩
    unfold mayS
    rw [decide_eq_true h1, decide_eq_true h3]
    rcases h2 with h2 | h2
    · rw [h2]; rfl
    · rw [decide_eq_false h2]; simp
theorem whF_at {l : List Sp} (h : GoodF (sG l)) {k : Nat} (hk : sG l k ≠ (0, 0)) : whF l (plN l l.length) (sG l k) = (k : Int) + 1 := by
  by_cases h0 : whF l (plN l l.length) (sG l k) = 0
  · exact absurd rfl (whF_0.1 h0 k (plN_mem.2 ⟨sG_lt hk, hk⟩))
  · obtain ⟨j, hj, e, hv⟩ := whF_ex h0
    rw [hv, h.2 k j hk e.symm]
theorem whF_none {l : List Sp} {s : Sp} (h : ∀ k, sG l k ≠ s) : whF l (plN l l.length) s = 0 := whF_0.2 fun y _ => h y
theorem fiB_nat {l : List Sp} {k : Nat} : fiB l ((k : Int) + 1) = !decide (sG l k = (0, 0)) := by
  rw [Bool.eq_iff_iff, fiB_iff]
  simp only [Bool.not_eq_true', decide_eq_false_iff_not]
  constructor
  · rintro ⟨j, e, _, h⟩
    have : k = j := by omega
    rw [this]; exact h
  · intro h; exact ⟨k, rfl, sG_lt h, h⟩
/-- Records with one of them elsewhere. -/
def puX (l : List Sp) (k : Nat) (s : Sp) : List Sp := cutL ((extS l (k + 1)).set k s)
theorem sG_puX (l : List Sp) (k : Nat) (s : Sp) (j : Nat) : sG (puX l k s) j = if j = k then s else sG l j := by
  unfold puX
  rw [sG_cut, sG_set (by rw [extS_len]; omega), sG_ext]
theorem norm_puX (l : List Sp) (k : Nat) (s : Sp) : NormL (puX l k s) := norm_cut _
theorem puX_len (l : List Sp) (k : Nat) (s : Sp) : (puX l k s).length ≤ max l.length (k + 1) := by
  unfold puX
  rw [cutL_len]
  have := cutN_le ((extS l (k + 1)).set k s) ((extS l (k + 1)).set k s).length
  rw [List.length_set, extS_len] at this
  rw [List.length_set, extS_len]
  exact this
theorem wfL_of {l : List Sp} (h : ∀ j, wfS (sG l j)) : wfL l := fun s hs => by
  obtain ⟨i, hi, e⟩ := List.getElem_of_mem hs
  rw [← e, ← sG_eq hi]; exact h i
theorem wfS_0 : wfS (0, 0) := ⟨wfI_of (by decide) (by decide), wfI_of (by decide) (by decide)⟩
theorem wf_puX {l : List Sp} (h : wfL l) (k : Nat) {s : Sp} (hs : wfS s) : wfL (puX l k s) := wfL_of fun j => by
  rw [sG_puX]; split
  · exact hs
  · exact h.at j
/-- Dropped, they may be still. -/
theorem may_drop {l : List Sp} (h : mayS l = true) {k : Nat} (hk : k < 1048578) : mayS (puX l k (0, 0)) = true := by
  obtain ⟨h1, h2, h3⟩ := may_iff.1 h
  refine may_iff.2 ⟨by have := puX_len l k (0, 0); omega, norm_puX _ _ _, fun j => ?_, fun i j => ?_⟩
  · rw [sG_puX]
    by_cases e : j = k
    · rw [if_pos e]; intro h; exact absurd rfl h
    · rw [if_neg e]; exact h3.1 j
  · rw [sG_puX, sG_puX]
    by_cases ei : i = k
    · rw [if_pos ei]; intro h; exact absurd rfl h
    · rw [if_neg ei]
      by_cases ej : j = k
      · rw [if_pos ej]; intro h e; exact absurd e h
      · rw [if_neg ej]; exact h3.2 i j
/-- Put where nobody else stands, they may be still. -/
theorem may_put {l : List Sp} (h : mayS l = true) {k : Nat} (hk : k < 1048578) {s : Sp} (hs : plB s = true) (hf : ∀ j, j ≠ k → sG l j ≠ s) : mayS (puX l k s) = true := by
  obtain ⟨h1, h2, h3⟩ := may_iff.1 h
  have hs0 : s ≠ (0, 0) := fun e => by rw [e] at hs; exact absurd hs (by decide)
  refine may_iff.2 ⟨by have := puX_len l k s; omega, norm_puX _ _ _, fun j => ?_, fun i j => ?_⟩
  · rw [sG_puX]
    by_cases e : j = k
    · rw [if_pos e]; exact fun _ => hs
    · rw [if_neg e]; exact h3.1 j
  · rw [sG_puX, sG_puX]
    by_cases ei : i = k
    · rw [if_pos ei]
      by_cases ej : j = k
      · intro _ _; rw [ei, ej]
      · rw [if_neg ej]; intro _ e; exact absurd e.symm (hf j ej)
    · rw [if_neg ei]
      by_cases ej : j = k
      · rw [if_pos ej]; intro _ e; exact absurd e (hf i ei)
      · rw [if_neg ej]; exact h3.2 i j
theorem drR_yes {l : List Sp} (h : mayS l = true) {k : Nat} (hk : sG l k ≠ (0, 0)) : drR l ((k : Int) + 1) = (puX l k (0, 0), 0) := by
  have hk1 : ((k : Int) + 1).toNat = k + 1 := by omega
  unfold drR drA
  rw [h, if_pos rfl, fiB_nat, decide_eq_false hk]
  show (cutL ((extS l ((k : Int) + 1).toNat).set (((k : Int) + 1).toNat - 1) (0, 0)), (0 : Int)) = _
  rw [hk1]; rfl
theorem puR_yes {l : List Sp} (h : mayS l = true) {k : Nat} (hk : k < 1048578) {s : Sp} (hs : plB s = true) (hf : ∀ j, j ≠ k → sG l j ≠ s) : puR l ((k : Int) + 1) s = (puX l k s, 0) := by
  have hk1 : ((k : Int) + 1).toNat = k + 1 := by omega
  have hs0 : s ≠ (0, 0) := fun e => by rw [e] at hs; exact absurd hs (by decide)
  unfold puR puA
  rw [h, if_pos rfl, if_neg (fun h => h.elim (by omega) (fun h => h.elim (by omega) (fun h => by rw [hs] at h; cases h))), if_neg ?_, hk1]
  · rfl
  · rintro ⟨h1, h2⟩
    obtain ⟨j, _, e, hv⟩ := whF_ex h1
    by_cases ej : j = k
    · exact h2 (by rw [hv, ej])
    · exact hf j ej e
end Go.Proofs.Ytijlkdppjmfbhaa
