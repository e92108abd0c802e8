/- What seek comes to, as plain mathematics. -/
import Derived.Test.YtjnhalomkmdcgaaLuA
namespace Go.Proofs.Ytjnhalomkmdcgaa

/-- No type of the slots is too long. -/
def LB (L : List En) : Prop := ∀ k, k < L.length → (gE L k).2.1.length ≤ 1000
/-- The states of slots. -/
def ST (L : List En) : Prop := ∀ k, k < L.length → (gE L k).1 = 0 ∨ (gE L k).1 = 1 ∨ (gE L k).1 = 2
/-- The search goes on behind such a slot. -/
def GoX (L : List En) (t : List Int) (x : Nat) : Prop := (gE L x).1 ≠ 0 ∧ ¬ ((gE L x).1 = 1 ∧ (gE L x).2.1 = t)
def nuB {m : Nat} (L : List En) (x : Fin m) : Bool := !decide ((gE L x.1).1 = 1)
/-- The first slot that is not used, of those that were come to. -/
def fvI {m : Nat} (L : List En) (pre : List (Fin m)) : Int := match pre.find? (nuB L) with | some x => (x.1 : Int) | none => -1
theorem fvI_used {m : Nat} {L : List En} {pre : List (Fin m)} {x : Fin m} (h : (gE L x.1).1 = 1) : fvI L (pre ++ [x]) = fvI L pre := by
  unfold fvI; rw [List.find?_append]
  have : [x].find? (nuB L) = none := by simp [nuB, h]
  rw [this, Option.or_none]
theorem fvI_old {m : Nat} {L : List En} {pre : List (Fin m)} {x : Fin m} (h : fvI L pre ≠ -1) : fvI L (pre ++ [x]) = fvI L pre := by
  unfold fvI at *; rw [List.find?_append]
  cases hp : pre.find? (nuB L) with
  | none => rw [hp] at h; exact (h rfl).elim
  | some y => rfl
theorem fvI_new {m : Nat} {L : List En} {pre : List (Fin m)} {x : Fin m} (hx : (gE L x.1).1 ≠ 1) (h : fvI L pre = -1) : fvI L (pre ++ [x]) = (x.1 : Int) := by
  unfold fvI at *; rw [List.find?_append]
  cases hp : pre.find? (nuB L) with
  | none => simp [nuB, hx]
  | some y => rw [hp] at h; simp at h
def ebF {m : Nat} (L : List En) (pre : List (Fin m)) : Bool := match pre.getLast? with | some x => decide ((gE L x.1).1 = 1) | none => false
def eiF {m : Nat} (L : List En) (pre : List (Fin m)) : Int := match pre.getLast? with | some x => if (gE L x.1).1 = 1 then (x.1 : Int) else fvI L pre | none => 0
theorem ebF_snoc {m : Nat} (L : List En) (pre : List (Fin m)) (x : Fin m) : ebF L (pre ++ [x]) = decide ((gE L x.1).1 = 1) := by simp [ebF]
theorem eiF_snoc {m : Nat} (L : List En) (pre : List (Fin m)) (x : Fin m) : eiF L (pre ++ [x]) = if (gE L x.1).1 = 1 then (x.1 : Int) else fvI L (pre ++ [x]) := by simp [eiF]
/-- How the search ends. -/
def EP {m : Nat} (L : List En) (t : List Int) (pre : List (Fin m)) : Prop := ∃ pre0 x, pre = pre0 ++ [x] ∧ (∀ y ∈ pre0, GoX L t y.1) ∧ ((gE L x.1).1 = 1 ∧ (gE L x.1).2.1 = t ∨ (gE L x.1).1 = 0)
/-- Where seek ends. -/
def SkR (L : List En) (t : List Int) (i : Nat) (b : Bool) : Prop :=
  i < L.length ∧ ∃ j, j < L.length ∧ (∀ k, k < j → GoX L t (tuK (hsT t) L.length k)) ∧
    ((b = true ∧ i = tuK (hsT t) L.length j ∧ (gE L i).1 = 1 ∧ (gE L i).2.1 = t) ∨
     (b = false ∧ (gE L (tuK (hsT t) L.length j)).1 = 0 ∧ ∃ f, f ≤ j ∧ i = tuK (hsT t) L.length f ∧ (gE L i).1 ≠ 1))
theorem find_tsF {m h : Nat} (hm : 0 < m) (L : List En) : ∀ k, (∃ j, j < k ∧ (gE L (tuK h m j)).1 ≠ 1) → ∃ f, f < k ∧ fvI L (tsF h m hm k) = ((tuK h m f : Nat) : Int) ∧ (gE L (tuK h m f)).1 ≠ 1
  | 0, ⟨j, hj, _⟩ => by omega
  | k + 1, ⟨j, hj, hu⟩ => by
    rw [tsF_succ]
    by_cases hp : fvI L (tsF h m hm k) = -1
    · by_cases hk : (gE L (tuK h m k)).1 = 1
      · have hjk : j ≠ k := fun e => hu (e ▸ hk)
        obtain ⟨f, hf, e, hn⟩ := find_tsF hm L k ⟨j, by omega, hu⟩
        rw [hp] at e; omega
      · exact ⟨k, by omega, fvI_new (x := ⟨tuK h m k, tuK_lt hm k⟩) hk hp, hk⟩
    · rw [fvI_old hp]
      have : ∃ j, j < k ∧ (gE L (tuK h m j)).1 ≠ 1 := by
        refine Classical.byContradiction fun hn => hp ?_
        unfold fvI
        have : (tsF h m hm k).find? (nuB L) = none := by
          rw [List.find?_eq_none]
          intro x hx
          obtain ⟨j, hj, rfl⟩ := List.mem_map.1 hx
          have hj' : j < k := by simpa using hj
          have : (gE L (tuK h m j)).1 = 1 := Classical.byContradiction fun h => hn ⟨j, hj', h⟩
          simp [nuB, this]
        rw [this]
      obtain ⟨f, hf, e, hn⟩ := find_tsF hm L k this
      exact ⟨f, by omega, e, hn⟩
theorem tsF_snoc_inj {h m : Nat} {hm : 0 < m} {k : Nat} {pre : List (Fin m)} {x : Fin m} (e : pre ++ [x] = tsF h m hm k) : ∃ j, k = j + 1 ∧ pre = tsF h m hm j ∧ x.1 = tuK h m j := by
  cases k with
  | zero => simp [tsF] at e
  | succ j =>
    rw [tsF_succ] at e
    have := List.append_inj' e rfl
    refine ⟨j, rfl, this.1, ?_⟩
    have h2 := this.2
    simp at h2
    rw [h2]
theorem mem_tsF {h m : Nat} {hm : 0 < m} {k j : Nat} (hj : j < k) : (⟨tuK h m j, tuK_lt hm j⟩ : Fin m) ∈ tsF h m hm k := List.mem_map.2 ⟨j, by simpa using hj, rfl⟩
/-- What a search that has ended came to. -/
theorem skr_of {L : List En} {t : List Int} {hm : 0 < L.length} {k : Nat} {pre : List (Fin L.length)} (hk : k ≤ L.length) (e : pre = tsF (hsT t) L.length hm k) (h : EP L t pre) :
    ∃ i : Nat, eiF L pre = (i : Int) ∧ SkR L t i (ebF L pre) := by
  obtain ⟨pre0, x, rfl, hg, hx⟩ := h
  obtain ⟨j, rfl, rfl, ex⟩ := tsF_snoc_inj e
  have hgo : ∀ k, k < j → GoX L t (tuK (hsT t) L.length k) := fun k hk => hg _ (mem_tsF (hm := hm) hk)
  rw [ebF_snoc, eiF_snoc]
  by_cases h1 : (gE L x.1).1 = 1
  · rw [if_pos h1, decide_eq_true h1]
    have h2 : (gE L x.1).2.1 = t := by
      rcases hx with hx | hx
      · exact hx.2
      · rw [h1] at hx; exact absurd hx (by decide)
    exact ⟨x.1, rfl, x.2, j, by omega, hgo, .inl ⟨rfl, ex, h1, h2⟩⟩
  · rw [if_neg h1, decide_eq_false h1]
    have h0 : (gE L x.1).1 = 0 := by
      rcases hx with hx | hx
      · exact absurd hx.1 h1
      · exact hx
    rw [ex] at h0 h1
    obtain ⟨f, hf, ef, hn⟩ := find_tsF (h := hsT t) hm L (j + 1) ⟨j, by omega, h1⟩
    rw [e]
    exact ⟨tuK (hsT t) L.length f, ef, tuK_lt hm f, j, by omega, hgo, .inr ⟨rfl, h0, f, by omega, rfl, hn⟩⟩
/-- Where a slot is free the search ends. -/
theorem all_go_not {L : List En} {t : List Int} {hm : 0 < L.length} (hf : ∃ k, k < L.length ∧ (gE L k).1 = 0) (h : ∀ x ∈ tsF (hsT t) L.length hm L.length, GoX L t x.1) : False := by
  obtain ⟨k, hk, hz⟩ := hf
  obtain ⟨j, hj, e⟩ := tuK_surj (h := hsT t) hk
  have := (h _ (mem_tsF (h := hsT t) (hm := hm) hj)).1
  rw [show ((⟨tuK (hsT t) L.length j, tuK_lt hm j⟩ : Fin L.length)).1 = k from e] at this
  exact this hz
end Go.Proofs.Ytjnhalomkmdcgaa
