/- Plain mathematics of lookups (stage 7), 3: what the document's loops find; slots laid anew. -/
import Derived.Test.YtjnhalomkmdcgaaLkB
namespace Go.Proofs.Ytjnhalomkmdcgaa

variable {hs : List Int → Nat} {may : List Int → Bool}
/-- Which number of slots may be: the first of 8, 16, .. that is not below. -/
theorem pw_iff {len k : Nat} (h1 : len ≤ 8 * 2 ^ k) (h2 : ∀ j, j < k → 8 * 2 ^ j < len) : (∃ e, len = 8 * 2 ^ e) ↔ len = 8 * 2 ^ k := by
  constructor
  · rintro ⟨e, he⟩
    rcases Nat.lt_trichotomy e k with h | rfl | h
    · have := h2 e h; omega
    · exact he
    · have : 2 ^ k < 2 ^ e := Nat.pow_lt_pow_right (by omega) h
      omega
  · exact fun h => ⟨k, h⟩
/-- The document's Found, turn by turn. -/
theorem met_at {L : List En} {t : List Int} {i j : Nat} (hj : j < L.length) (ej : tuK (hs t) L.length j = i) (hf : ∀ k, k < j → (gE L (tuK (hs t) L.length k)).1 ≠ 0) : Met hs L t i := ⟨j, hj, ej, hf⟩
theorem met_not {L : List En} {t : List Int} {i j : Nat} (hz : (gE L (tuK (hs t) L.length j)).1 = 0) (hn : ∀ k, k ≤ j → tuK (hs t) L.length k ≠ i) : ¬ Met hs L t i := by
  rintro ⟨u, hu, eu, hf⟩
  by_cases h : u ≤ j
  · exact hn u h eu
  · exact hf j (by omega) hz
theorem met_some {L : List En} {t : List Int} {i : Nat} (hi : i < L.length) : ∃ j, j < L.length ∧ tuK (hs t) L.length j = i := tuK_surj hi
/-- From a type's first slot on there is a first free one, and it is come to. -/
theorem first_free {L : List En} (t : List Int) (h : ∃ k, k < L.length ∧ (gE L k).1 = 0) : ∃ j, j < L.length ∧ (gE L (tuK (hs t) L.length j)).1 = 0 ∧ ∀ k, k < j → (gE L (tuK (hs t) L.length k)).1 ≠ 0 := by
  obtain ⟨k0, hk0, hz⟩ := h
  obtain ⟨j0, hj0, e0⟩ := tuK_surj (h := hs t) hk0
  have key : ∀ n, (∃ j, j < L.length ∧ j ≤ n ∧ (gE L (tuK (hs t) L.length j)).1 = 0) → ∃ j, j < L.length ∧ (gE L (tuK (hs t) L.length j)).1 = 0 ∧ ∀ k, k < j → (gE L (tuK (hs t) L.length k)).1 ≠ 0 := by
    intro n
    induction n with
    | zero => rintro ⟨j, hj, hle, hz⟩; exact ⟨j, hj, hz, fun k hk => by omega⟩
    | succ n ih =>
      rintro ⟨j, hj, hle, hz⟩
      by_cases h' : ∃ j, j < L.length ∧ j ≤ n ∧ (gE L (tuK (hs t) L.length j)).1 = 0
      · exact ih h'
      · exact ⟨j, hj, hz, fun k hk e => h' ⟨k, by omega, by omega, e⟩⟩
  exact key j0 ⟨j0, hj0, Nat.le_refl _, by rw [e0]; exact hz⟩
/-- A type that no used slot has. -/
def NotIn (L : List En) (t : List Int) : Prop := ∀ y ∈ L, y.1 = 1 → y.2.1 ≠ t
theorem notIn_iff (L : List En) (t : List Int) : NotIn L t ↔ ∀ i, i < L.length → (gE L i).1 = 1 → (gE L i).2.1 ≠ t := by
  constructor
  · exact fun h i hi => h _ (gE_mem hi)
  · intro h y hy
    obtain ⟨k, hk, rfl⟩ := mem_gE hy
    exact h k hk
theorem in_or (L : List En) (t : List Int) : NotIn L t ∨ ∃ i, i < L.length ∧ (gE L i).1 = 1 ∧ (gE L i).2.1 = t := by
  by_cases h : ∃ i, i < L.length ∧ (gE L i).1 = 1 ∧ (gE L i).2.1 = t
  · exact .inr h
  · exact .inl ((notIn_iff L t).2 fun i hi u e => h ⟨i, hi, u, e⟩)
/-- The number of a type, by its slot. -/
theorem fi_some {cmp : List Int → List Int → Int} (hc : IsCmp cmp) {L : List En} (hd : DT L) {i : Nat} (hi : i < L.length) (hu : (gE L i).1 = 1) : fiL (alL cmp L) (gE L i).2.1 = (gE L i).2.2 :=
  fiL_of hc (alL_se hc hd) ((alL_mem L _).2 ⟨gE_mem hi, hu⟩)
theorem fi_none {cmp : List Int → List Int → Int} {L : List En} {t : List Int} (h : NotIn L t) : fiL (alL cmp L) t = -1 :=
  fiL_none (fun y hy => by obtain ⟨h1, h2⟩ := (alL_mem L y).1 hy; exact h y h1 h2)
/-- Slots laid anew: the used ones of the first k are laid into T. -/
structure LayI (hs : List Int → Nat) (may : List Int → Bool) (L : List En) (m k : Nat) (T : List En) : Prop where
  len : T.length = m
  ri : RiL hs may T
  ta : taK T = ((L.take k).filter usB).length
  mem : ∀ y, (y ∈ T ∧ y.1 = 1) ↔ (y ∈ L.take k ∧ y.1 = 1)
  st : ∀ i, i < T.length → (gE T i).1 = 0 ∨ (gE T i).1 = 1
theorem lay_new {L : List En} {m : Nat} (h : ∃ e, m = 8 * 2 ^ e) : LayI hs may L m 0 (frL m) := by
  refine ⟨by unfold frL; simp, ri_new h, by rw [taK_fr]; simp, fun y => ?_, fun i _ => by rw [gE_fr]; exact .inl rfl⟩
  simp only [List.take_zero, List.not_mem_nil, false_and, iff_false]
  rintro ⟨hy, u⟩
  obtain ⟨k, _, rfl⟩ := mem_gE hy
  rw [gE_fr] at u; simp at u
theorem take_succ_gE {L : List En} {k : Nat} (hk : k < L.length) : L.take (k + 1) = L.take k ++ [gE L k] := by
  rw [List.take_succ_eq_append_getElem hk, gE_eq hk]
theorem LayI.skip {L T : List En} {m k : Nat} (h : LayI hs may L m k T) (hk : k < L.length) (hu : (gE L k).1 ≠ 1) : LayI hs may L m (k + 1) T := by
  refine ⟨h.len, h.ri, ?_, fun y => ?_, h.st⟩
  · rw [h.ta, take_succ_gE hk, List.filter_append]; simp [usB, hu]
  · rw [h.mem, take_succ_gE hk]
    constructor
    · exact fun ⟨a, b⟩ => ⟨List.mem_append_left _ a, b⟩
    · rintro ⟨a, b⟩
      rcases List.mem_append.1 a with a | a
      · exact ⟨a, b⟩
      · rw [List.mem_singleton] at a; subst a; exact absurd b hu
theorem us_take (L : List En) (k : Nat) : ((L.take k).filter usB).length ≤ (L.filter usB).length := ((List.take_sublist k L).filter usB).length_le
theorem LayI.put {L T : List En} {m k i : Nat} (h : LayI hs may L m k T) (hr : RiL hs may L) (hk : k < L.length) (hu : (gE L k).1 = 1) (hm : L.length ≤ m) (hi : i < T.length) (hz : (gE T i).1 = 0) (hmet : Met hs T (gE L k).2.1 i) : LayI hs may L m (k + 1) (T.set i (gE L k)) := by
  obtain ⟨⟨s, t, n⟩, hg⟩ : ∃ x, gE L k = x := ⟨_, rfl⟩
  rw [hg] at hu hmet ⊢
  have hs1 : s = 1 := hu
  subst hs1
  have ht : may t = true ∧ 0 ≤ n := by
    rcases hr.ok k hk with ⟨h1, _⟩ | ⟨_, h2, h3⟩
    · rw [hg] at h1; simp at h1
    · rw [hg] at h2 h3; exact ⟨h2, h3⟩
  have hcnt : ((L.take (k + 1)).filter usB).length = ((L.take k).filter usB).length + 1 := by
    rw [take_succ_gE hk, List.filter_append, hg]; simp [usB]
  have hle := us_take L (k + 1)
  have hle2 := taK_us L
  have h3 := hr.q3
  have h4 := hr.mx
  have hn : ∀ y ∈ T, y.1 = 1 → y.2.1 ≠ t := by
    intro y hy u e
    obtain ⟨a, b⟩ := (h.mem y).1 ⟨hy, u⟩
    obtain ⟨j, hj, ej⟩ := List.getElem_of_mem a
    have hjk : j < k := by simp at hj; omega
    have hjL : j < L.length := by omega
    have e1 : gE L j = y := by rw [gE_eq hjL, ← ej]; simp
    have := (dt_iff L).1 hr.dt j k hjL hk (by rw [e1]; exact b) (by rw [hg]) (by rw [e1, hg]; exact e)
    omega
  have hne : (gE T i).1 ≠ 1 := by rw [hz]; omega
  have htk := h.ta
  have htaS : taK (T.set i (1, t, n)) = taK T + 1 := by
    have := taK_set (1, t, n) hi
    rw [hz] at this; simp at this; omega
  refine ⟨by rw [List.length_set]; exact h.len, h.ri.put hi hne hmet hn ht.1 ht.2 ?_ ?_, ?_, fun y => ?_, fun j hj => ?_⟩
  · rw [hz, if_pos rfl, h.len]; omega
  · rw [hz, if_pos rfl]; omega
  · rw [htaS, hcnt, htk]
  · rw [put_mem hi hne, h.mem, take_succ_gE hk, hg]
    constructor
    · rintro (rfl | ⟨a, b⟩)
      · exact ⟨by simp, rfl⟩
      · exact ⟨List.mem_append_left _ a, b⟩
    · rintro ⟨a, b⟩
      rcases List.mem_append.1 a with a | a
      · exact .inr ⟨a, b⟩
      · rw [List.mem_singleton] at a; exact .inl a
  · rw [List.length_set] at hj
    by_cases h' : j = i
    · subst h'; rw [gE_set_same _ hi]; exact .inr rfl
    · rw [gE_set_ne _ h']; exact h.st j hj
theorem LayI.done {cmp : List Int → List Int → Int} (hc : IsCmp cmp) {L T : List En} {m : Nat} (h : LayI hs may L m L.length T) (hr : RiL hs may L) : alL cmp T = alL cmp L ∧ taK T = (L.filter usB).length := by
  have hm := h.mem
  have ht := h.ta
  rw [List.take_length] at hm ht
  exact ⟨alL_same hc hr.dt h.ri.dt hm, ht⟩
end Go.Proofs.Ytjnhalomkmdcgaa
