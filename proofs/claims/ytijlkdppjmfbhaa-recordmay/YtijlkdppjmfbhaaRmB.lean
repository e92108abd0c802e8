/- Mathematics of Swap in a table whose rows are all taken. -/
import Derived.Test.YtijlkdppjmfbhaaRmA
namespace Go.Proofs.Ytijlkdppjmfbhaa
open Go.RowKit

/-- These are who stand in the table, in the rows 0, 1, .. -/
def FullT (l : List Sp) (T : Int) (Y : List Int) : Prop :=
  (∀ j, j < Y.length → ∃ k : Nat, iG Y j = (k : Int) + 1 ∧ sG l k = (T, (j : Int))) ∧ ∀ k, (sG l k).1 = T → ∃ j : Nat, j < Y.length ∧ iG Y j = (k : Int) + 1
theorem FullT.rows {l : List Sp} {T : Int} {Y : List Int} (h : FullT l T Y) (hT : T ≠ 0) : IsRows l T Y := by
  have hnd : Y.Nodup := by
    refine List.pairwise_iff_getElem.2 fun i j hi hj hij e => ?_
    obtain ⟨k, e1, s1⟩ := h.1 i hi
    obtain ⟨k', e2, s2⟩ := h.1 j hj
    rw [iG_eq hi] at e1
    rw [iG_eq hj] at e2
    have : k = k' := by omega
    rw [this, s2] at s1
    have : (j : Int) = (i : Int) := congrArg Prod.snd s1
    omega
  have hnd2 : (rwN l T (plN l l.length)).Nodup := by
    unfold rwN
    show List.Pairwise _ _
    rw [List.pairwise_map]
    have hp : ((plN l l.length).filter fun y => decide ((sG l y).1 = T)).Nodup := by
      unfold plN; exact ((List.nodup_range).filter _).filter _
    exact hp.imp fun h e => h (by omega)
  refine ⟨(List.perm_ext_iff_of_nodup hnd hnd2).2 fun x => ?_, ?_⟩
  · rw [rwN_mem]
    constructor
    · intro hx
      obtain ⟨j, hj, e⟩ := List.getElem_of_mem hx
      obtain ⟨k, e1, s1⟩ := h.1 j hj
      rw [iG_eq hj, e] at e1
      have hs : sG l k ≠ (0, 0) := by rw [s1]; intro e; exact hT (congrArg Prod.fst e)
      exact ⟨k, plN_mem.2 ⟨sG_lt hs, hs⟩, by rw [s1], e1⟩
    · rintro ⟨k, _, hk, rfl⟩
      obtain ⟨j, hj, e⟩ := h.2 k hk
      rw [← e]; exact iG_mem hj
  · refine List.pairwise_iff_getElem.2 fun i j hi hj hij => ?_
    obtain ⟨k, e1, s1⟩ := h.1 i hi
    obtain ⟨k', e2, s2⟩ := h.1 j hj
    rw [iG_eq hi] at e1
    rw [iG_eq hj] at e2
    rw [e1, e2]
    have h1 : ((k : Int) + 1).toNat - 1 = k := by omega
    have h2 : ((k' : Int) + 1).toNat - 1 = k' := by omega
    rw [h1, h2, s1, s2]
    show (i : Int) ≤ (j : Int)
    omega
/-- The place of the j-th. -/
def plX (X : List Int) (j : Nat) : Nat := (iG X j).toNat - 1
/-- The records behind j turns. -/
def reL (L : List Sp) (X : List Int) (T : Int) : Nat → List Sp
  | 0 => L
  | j + 1 => puX (puX (reL L X T j) (plX X j) (0, 0)) (plX X j) (T, (j : Int))
section
variable {L : List Sp} {X : List Int} {T : Int} (hm : mayS L = true) (hX : IsRows L T X)
include hm hX
omit hm in
theorem plX_at {j : Nat} (hj : j < X.length) : iG X j = (plX X j : Int) + 1 ∧ plX X j < L.length ∧ sG L (plX X j) ≠ (0, 0) ∧ (sG L (plX X j)).1 = T := by
  obtain ⟨k, a, b, c, e⟩ := (isRows_mem hX).1 (iG_mem hj)
  have : plX X j = k := by unfold plX; omega
  rw [this]; exact ⟨e, a, b, c⟩
theorem plX_inj {i j : Nat} (hi : i < X.length) (hj : j < X.length) (e : plX X i = plX X j) : i = j := by
  rcases Nat.lt_trichotomy i j with h | h | h
  · have := isRows_lt hm hX h hj
    unfold plX at e; rw [e] at this; omega
  · exact h
  · have := isRows_lt hm hX h hi
    unfold plX at e; rw [e] at this; omega
theorem row_ge {j : Nat} (hj : j < X.length) : (j : Int) ≤ (sG L (plX X j)).2 := by
  induction j with
  | zero => exact (mayS_rows hm _).1
  | succ j ih =>
    have h1 := ih (by omega)
    have h2 := isRows_lt hm hX (i := j) (j := j + 1) (by omega) hj
    unfold plX at h1 ⊢; omega
theorem sG_reL {j : Nat} (hj : j ≤ X.length) : (∀ i, i < j → sG (reL L X T j) (plX X i) = (T, (i : Int))) ∧ ∀ k, (∀ i, i < j → k ≠ plX X i) → sG (reL L X T j) k = sG L k := by
  induction j with
  | zero => exact ⟨fun i h => by omega, fun k _ => rfl⟩
  | succ j ih =>
    obtain ⟨h1, h2⟩ := ih (by omega)
    refine ⟨fun i hi => ?_, fun k hk => ?_⟩
    · show sG (puX (puX (reL L X T j) (plX X j) (0, 0)) (plX X j) (T, (j : Int))) _ = _
      rw [sG_puX]
      by_cases e : plX X i = plX X j
      · rw [if_pos e, plX_inj hm hX (by omega) (by omega) e]
      · rw [if_neg e, sG_puX, if_neg e]
        exact h1 i (by
          by_cases ei : i = j
          · rw [ei] at e; exact absurd rfl e
          · omega)
    · show sG (puX (puX (reL L X T j) (plX X j) (0, 0)) (plX X j) (T, (j : Int))) _ = _
      have e := hk j (Nat.lt_succ_self j)
      rw [sG_puX, if_neg e, sG_puX, if_neg e]
      exact h2 k fun i hi => hk i (by omega)
theorem sG_reL_at {j : Nat} (hj : j < X.length) : sG (reL L X T j) (plX X j) = sG L (plX X j) :=
  (sG_reL hm hX (by omega)).2 _ fun i hi e => by have := plX_inj hm hX hj (by omega) e; omega
theorem free_reL {j : Nat} (hj : j < X.length) (k : Nat) (hk : k ≠ plX X j) : sG (puX (reL L X T j) (plX X j) (0, 0)) k ≠ (T, (j : Int)) := by
  rw [sG_puX, if_neg hk]
  intro e
  obtain ⟨h1, h2⟩ := sG_reL hm hX (j := j) (by omega)
  by_cases h : ∃ i, i < j ∧ k = plX X i
  · obtain ⟨i, hi, rfl⟩ := h
    rw [h1 i hi] at e
    have : (i : Int) = (j : Int) := congrArg Prod.snd e
    omega
  · rw [h2 k fun i hi e => h ⟨i, hi, e⟩] at e
    have hT : T ≠ 0 := by
      obtain ⟨_, _, a, b⟩ := plX_at hX hj
      have := (may_iff.1 hm).2.2.1 _ a
      unfold plB at this; simp at this
      rw [b] at this; omega
    have hk0 : sG L k ≠ (0, 0) := by rw [e]; intro h; exact hT (congrArg Prod.fst h)
    have hmem : ((k : Int) + 1) ∈ X := (isRows_mem hX).2 ⟨k, sG_lt hk0, hk0, by rw [e], rfl⟩
    obtain ⟨i, hi, ei⟩ := List.getElem_of_mem hmem
    have hpi : plX X i = k := by unfold plX; rw [iG_eq hi, ei]; omega
    have hij : j < i := by
      rcases Nat.lt_trichotomy i j with h3 | h3 | h3
      · exact absurd ⟨i, h3, hpi.symm⟩ h
      · rw [h3] at hpi; exact absurd hpi.symm hk
      · exact h3
    have := row_ge hm hX hi
    rw [hpi, e] at this
    simp only at this
    omega
theorem plB_T {j : Nat} (hj : j < X.length) (i : Nat) (hi : i ≤ 1000) : plB (T, (i : Int)) = true := by
  obtain ⟨_, _, a, b⟩ := plX_at hX hj
  have := (may_iff.1 hm).2.2.1 _ a
  unfold plB at this ⊢
  simp at this ⊢
  rw [b] at this
  omega
theorem may_reL (hX40 : X.length ≤ 1000) (hL40 : L.length ≤ 1000) : ∀ {j : Nat}, j ≤ X.length → mayS (reL L X T j) = true ∧ (reL L X T j).length ≤ 1000
  | 0, _ => ⟨hm, hL40⟩
  | j + 1, hj => by
    obtain ⟨h1, h2⟩ := may_reL hX40 hL40 (j := j) (by omega)
    have hp := (plX_at hX (j := j) (by omega)).2.1
    have hd := may_drop h1 (k := plX X j) (by omega)
    refine ⟨may_put hd (by omega) (plB_T hm hX (j := j) (by omega) j (by omega)) (free_reL hm hX (by omega)), ?_⟩
    have a := puX_len (puX (reL L X T j) (plX X j) (0, 0)) (plX X j) (T, (j : Int))
    have b := puX_len (reL L X T j) (plX X j) (0, 0)
    show (puX (puX (reL L X T j) (plX X j) (0, 0)) (plX X j) (T, (j : Int))).length ≤ 1000
    omega
omit hm hX in
theorem wf_reL (hw : wfL L) (hT : wfI T) (hX40 : X.length ≤ 1000) : ∀ {j : Nat}, j ≤ X.length → wfL (reL L X T j)
  | 0, _ => hw
  | j + 1, hj => wf_puX (wf_puX (wf_reL hw hT hX40 (j := j) (by omega)) _ wfS_0) _ ⟨hT, wfI_of (by omega) (by omega)⟩
theorem full_reL (hT : T ≠ 0) : FullT (reL L X T X.length) T X := by
  obtain ⟨h1, h2⟩ := sG_reL hm hX (j := X.length) (Nat.le_refl _)
  refine ⟨fun j hj => ⟨plX X j, (plX_at hX hj).1, h1 j hj⟩, fun k hk => ?_⟩
  by_cases h : ∃ i, i < X.length ∧ k = plX X i
  · obtain ⟨i, hi, rfl⟩ := h
    exact ⟨i, hi, (plX_at hX hi).1⟩
  · rw [h2 k fun i hi e => h ⟨i, hi, e⟩] at hk
    by_cases hk0 : sG L k = (0, 0)
    · exfalso
      rw [hk0] at hk
      exact hT hk.symm
    · have hmem : ((k : Int) + 1) ∈ X := (isRows_mem hX).2 ⟨k, sG_lt hk0, hk0, hk, rfl⟩
      obtain ⟨i, hi, ei⟩ := List.getElem_of_mem hmem
      exact absurd ⟨i, hi, by unfold plX; rw [iG_eq hi, ei]; omega⟩ h
theorem swap_facts (hT : T ≠ 0) (hX40 : X.length ≤ 1000) (hL40 : L.length ≤ 1000) {j0 : Nat} (hj0 : j0 < X.length) :
    swR (reL L X T X.length) ((plX X j0 : Int) + 1) ((X.length : Int) - 1) = (puX (puX (reL L X T X.length) (plX X (X.length - 1)) (T, (j0 : Int))) (plX X j0) (0, 0), 0) := by
  obtain ⟨hmR, hlR⟩ := may_reL hm hX hX40 hL40 (j := X.length) (Nat.le_refl _)
  obtain ⟨h1, h2⟩ := sG_reL hm hX (j := X.length) (Nat.le_refl _)
  have hF := full_reL hm hX hT
  obtain ⟨R, hR⟩ : ∃ R, R = reL L X T X.length := ⟨_, rfl⟩
  rw [← hR] at hmR hlR h1 h2 hF
  rw [← hR]
  have s0 : sG R (plX X j0) = (T, (j0 : Int)) := h1 j0 hj0
  have sn : sG R (plX X (X.length - 1)) = (T, ((X.length - 1 : Nat) : Int)) := h1 _ (by omega)
  have hn : ((X.length - 1 : Nat) : Int) = (X.length : Int) - 1 := by omega
  rw [hn] at sn
  have hk1 : ((plX X j0 : Int) + 1).toNat = plX X j0 + 1 := by omega
  have s0' : sG R (plX X j0) ≠ (0, 0) := by rw [s0]; intro e; exact hT (congrArg Prod.fst e)
  have sn' : sG R (plX X (X.length - 1)) ≠ (0, 0) := by rw [sn]; intro e; exact hT (congrArg Prod.fst e)
  unfold swR swA
  rw [hmR, if_pos rfl, fiB_nat, decide_eq_false s0', hk1, Nat.add_sub_cancel, s0]
  have hab : abB R T ((X.length : Int) - 1) = false := by
    unfold abB
    rw [decide_eq_false]
    rintro ⟨k, _, a, b⟩
    obtain ⟨j, hj, e⟩ := hF.2 k a
    have : k = plX X j := by unfold plX; omega
    rw [this, h1 j hj] at b
    simp only at b
    omega
  have hwh : whF R (plN R R.length) (T, (X.length : Int) - 1) = (plX X (X.length - 1) : Int) + 1 := by
    rw [← sn]; exact whF_at (may_iff.1 hmR).2.2 sn'
  have hk2 : ((plX X (X.length - 1) : Int) + 1).toNat - 1 = plX X (X.length - 1) := by omega
  simp only [Bool.not_false, if_true, hab, hwh, hk2]
  rw [if_neg (by simp), if_neg (by omega)]
  have hlt := sG_lt s0'
  have hlt2 := sG_lt sn'
  congr 1
  refine norm_eq (norm_cut _) (norm_puX _ _ _) fun k => ?_
  rw [sG_cut, sG_set (by rw [List.length_set, extS_len]; omega), sG_puX]
  by_cases e : k = plX X j0
  · rw [if_pos e, if_pos e]
  · rw [if_neg e, if_neg e, sG_set (by rw [extS_len]; omega), sG_puX, sG_ext]
/-- The indexes behind Swap. -/
def swX (X : List Int) (j0 : Nat) : List Int := (X.set j0 (iG X (X.length - 1))).take (X.length - 1)
theorem swap_full (hT : T ≠ 0) {j0 : Nat} (hj0 : j0 < X.length) :
    FullT (puX (puX (reL L X T X.length) (plX X (X.length - 1)) (T, (j0 : Int))) (plX X j0) (0, 0)) T (swX X j0) := by
  obtain ⟨h1, h2⟩ := sG_reL hm hX (j := X.length) (Nat.le_refl _)
  have hF := full_reL hm hX hT
  obtain ⟨R, hR⟩ : ∃ R, R = reL L X T X.length := ⟨_, rfl⟩
  rw [← hR] at h1 h2 hF
  rw [← hR]
  have hS : ∀ k, sG (puX (puX R (plX X (X.length - 1)) (T, (j0 : Int))) (plX X j0) (0, 0)) k = if k = plX X j0 then (0, 0) else if k = plX X (X.length - 1) then (T, (j0 : Int)) else sG R k := fun k => by rw [sG_puX, sG_puX]
  have hlen : (swX X j0).length = X.length - 1 := by unfold swX; rw [List.length_take, List.length_set]; omega
  have hat : ∀ j, j < X.length - 1 → iG (swX X j0) j = if j = j0 then iG X (X.length - 1) else iG X j := fun j hj => by
    unfold swX
    rw [iG_take hj]
    unfold iG
    rw [List.getD_eq_getElem?_getD, List.getElem?_set]
    by_cases e : j0 = j
    · rw [if_pos e, if_pos e.symm, if_pos (by omega)]; rfl
    · rw [if_neg e, if_neg (fun h => e h.symm), List.getD_eq_getElem?_getD]
  refine ⟨fun j hj => ?_, fun k hk => ?_⟩
  · rw [hlen] at hj
    rw [hat j hj]
    by_cases e : j = j0
    · refine ⟨plX X (X.length - 1), by rw [if_pos e]; exact (plX_at hX (by omega)).1, ?_⟩
      rw [hS, if_neg (fun h => by have := plX_inj hm hX (by omega) hj0 h; omega), if_pos rfl, e]
    · refine ⟨plX X j, by rw [if_neg e]; exact (plX_at hX (by omega)).1, ?_⟩
      rw [hS, if_neg (fun h => e (plX_inj hm hX (by omega) hj0 h)), if_neg (fun h => by have := plX_inj hm hX (by omega) (by omega) h; omega)]
      exact h1 j (by omega)
  · rw [hS] at hk
    rw [hlen]
    by_cases e : k = plX X j0
    · rw [if_pos e] at hk; exact absurd hk.symm hT
    · rw [if_neg e] at hk
      by_cases e2 : k = plX X (X.length - 1)
      · have hne : j0 ≠ X.length - 1 := fun h => e (by rw [e2, h])
        exact ⟨j0, by omega, by rw [hat j0 (by omega), if_pos rfl, e2]; exact (plX_at hX (by omega)).1⟩
      · rw [if_neg e2] at hk
        obtain ⟨j, hj, ej⟩ := hF.2 k hk
        have hkj : k = plX X j := by unfold plX; omega
        have hj2 : j ≠ X.length - 1 := fun h => e2 (by rw [hkj, h])
        have hj3 : j ≠ j0 := fun h => e (by rw [hkj, h])
        exact ⟨j, by omega, by rw [hat j (by omega), if_neg hj3]; exact ej⟩
theorem swap_may (hT : T ≠ 0) (hX40 : X.length ≤ 1000) (hL40 : L.length ≤ 1000) {j0 : Nat} (hj0 : j0 < X.length) :
    mayS (puX (puX (reL L X T X.length) (plX X (X.length - 1)) (T, (j0 : Int))) (plX X j0) (0, 0)) = true := by
  obtain ⟨hmR, hlR⟩ := may_reL hm hX hX40 hL40 (j := X.length) (Nat.le_refl _)
  obtain ⟨h1, h2⟩ := sG_reL hm hX (j := X.length) (Nat.le_refl _)
  have hp0 := (plX_at hX hj0).2.1
  have hpn := (plX_at hX (j := X.length - 1) (by omega)).2.1
  by_cases hne : plX X j0 = plX X (X.length - 1)
  · -- it stands at last itself
    have hd := may_drop hmR (k := plX X j0) (by omega)
    have e : puX (puX (reL L X T X.length) (plX X (X.length - 1)) (T, (j0 : Int))) (plX X j0) (0, 0) = puX (reL L X T X.length) (plX X j0) (0, 0) := norm_eq (norm_puX _ _ _) (norm_puX _ _ _) fun k => by
      rw [sG_puX, sG_puX, sG_puX, hne]
      by_cases e : k = plX X (X.length - 1)
      · rw [if_pos e, if_pos e]
      · rw [if_neg e, if_neg e, if_neg e]
    rw [e]; exact hd
  · have hd := may_drop hmR (k := plX X j0) (by omega)
    have e : puX (puX (reL L X T X.length) (plX X (X.length - 1)) (T, (j0 : Int))) (plX X j0) (0, 0) = puX (puX (reL L X T X.length) (plX X j0) (0, 0)) (plX X (X.length - 1)) (T, (j0 : Int)) := norm_eq (norm_puX _ _ _) (norm_puX _ _ _) fun k => by
      rw [sG_puX, sG_puX, sG_puX, sG_puX]
      by_cases e : k = plX X j0
      · rw [if_pos e, if_neg (fun h => hne (e.symm.trans h)), if_pos e]
      · rw [if_neg e, if_neg e]
    rw [e]
    refine may_put hd (by omega) (plB_T hm hX hj0 j0 (by omega)) fun k hk => ?_
    rw [sG_puX]
    by_cases e : k = plX X j0
    · rw [if_pos e]; intro h; exact hT (congrArg Prod.fst h).symm
    · rw [if_neg e]
      intro h
      have := (may_iff.1 hmR).2.2.2 k (plX X j0) (by rw [h]; intro e; exact hT (congrArg Prod.fst e)) (by rw [h, h1 j0 hj0])
      exact e this
end
end Go.Proofs.Ytijlkdppjmfbhaa
