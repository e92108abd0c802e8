/- Plain mathematics of lookups (stage 7), 2: slots, turns, what is found; one more, one less. -/
import Derived.Test.YtjnhalomkmdcgaaLkA
import Derived.Test.YtjnhalomkmdcgaaHm
namespace Go.Proofs.Ytjnhalomkmdcgaa

/-- The k-th slot. -/
def gE (L : List En) (k : Nat) : En := L.getD k (0, [], 0)
theorem gE_eq {L : List En} {k : Nat} (h : k < L.length) : gE L k = L[k] := by simp [gE, h]
theorem gE_mem {L : List En} {k : Nat} (h : k < L.length) : gE L k ∈ L := by rw [gE_eq h]; exact List.getElem_mem h
theorem mem_gE {L : List En} {y : En} (h : y ∈ L) : ∃ k, k < L.length ∧ y = gE L k := by
  obtain ⟨k, hk, rfl⟩ := List.getElem_of_mem h
  exact ⟨k, hk, (gE_eq hk).symm⟩
theorem gE_set_same {L : List En} {i : Nat} (e : En) (h : i < L.length) : gE (L.set i e) i = e := by
  rw [gE_eq (by simpa using h)]; simp
theorem gE_set_ne {L : List En} {i k : Nat} (e : En) (h : k ≠ i) : gE (L.set i e) k = gE L k := by
  unfold gE; simp [List.getD_eq_getElem?_getD, Ne.symm h]
/-- No two used slots have one type, by their places. -/
theorem dt_iff (L : List En) : DT L ↔ ∀ i k, i < L.length → k < L.length → (gE L i).1 = 1 → (gE L k).1 = 1 → (gE L i).2.1 = (gE L k).2.1 → i = k := by
  have key : DT L ↔ L.Pairwise fun a b => a.1 = 1 → b.1 = 1 → a.2.1 ≠ b.2.1 := by
    unfold DT
    rw [List.pairwise_filter]
    simp [usB]
  rw [key, List.pairwise_iff_getElem]
  constructor
  · intro h i k hi hk ui uk e
    rcases Nat.lt_trichotomy i k with hlt | rfl | hlt
    · rw [gE_eq hi] at ui e; rw [gE_eq hk] at uk e
      exact absurd e (h i k hi hk hlt ui uk)
    · rfl
    · rw [gE_eq hi] at ui e; rw [gE_eq hk] at uk e
      exact absurd e.symm (h k i hk hi hlt uk ui)
  · intro h i k hi hk hlt ui uk e
    have := h i k hi hk (by rw [gE_eq hi]; exact ui) (by rw [gE_eq hk]; exact uk) (by rw [gE_eq hi, gE_eq hk]; exact e)
    omega
/-- The slot of the j-th turn from h. -/
def tuK (h m j : Nat) : Nat := (h % m + j) % m
theorem tuK_lt {h m : Nat} (hm : 0 < m) (j : Nat) : tuK h m j < m := Nat.mod_lt _ hm
theorem tuK_inj {h m i j : Nat} (hi : i < m) (hj : j < m) (e : tuK h m i = tuK h m j) : i = j := by
  rcases Nat.lt_trichotomy i j with hlt | h' | hlt
  · exact absurd e (turns_inj hlt hj)
  · exact h'
  · exact absurd e.symm (turns_inj hlt hi)
theorem tuK_surj {h m k : Nat} (hk : k < m) : ∃ j, j < m ∧ tuK h m j = k := by
  have ha : h % m < m := Nat.mod_lt _ (by omega)
  by_cases hle : h % m ≤ k
  · refine ⟨k - h % m, by omega, ?_⟩
    unfold tuK
    rw [show h % m + (k - h % m) = k by omega, Nat.mod_eq_of_lt hk]
  · refine ⟨k + m - h % m, by omega, ?_⟩
    unfold tuK
    rw [show h % m + (k + m - h % m) = k + m by omega, Nat.add_mod_right, Nat.mod_eq_of_lt hk]
section
variable (hs : List Int → Nat)
/-- Slot i is come to from the type's first slot on, no free one being ahead. -/
def Met (L : List En) (t : List Int) (i : Nat) : Prop := ∃ j, j < L.length ∧ tuK (hs t) L.length j = i ∧ ∀ k, k < j → (gE L (tuK (hs t) L.length k)).1 ≠ 0
/-- Each used slot is come to. -/
def Laid (L : List En) : Prop := ∀ i, i < L.length → (gE L i).1 = 1 → Met hs L (gE L i).2.1 i
variable {hs : List Int → Nat}
/-- Whatever slot is filled, all stays come to. -/
theorem met_set {L : List En} {i : Nat} {e : En} (hi : i < L.length) (he : e.1 ≠ 0) {t : List Int} {k : Nat} (h : Met hs L t k) : Met hs (L.set i e) t k := by
  obtain ⟨j, hj, ej, hf⟩ := h
  rw [← List.length_set (as := L) (i := i) (a := e)] at hj ej hf
  refine ⟨j, hj, ej, fun u hu => ?_⟩
  have := hf u hu
  by_cases h' : tuK (hs t) (L.set i e).length u = i
  · rw [h', gE_set_same e hi]; exact he
  · rw [gE_set_ne e h']; exact this
/-- One more is put into a slot that is not used, to which it comes. -/
theorem put_laid {L : List En} {i : Nat} {t : List Int} {n : Int} (hi : i < L.length) (hl : Laid hs L) (hm : Met hs L t i) : Laid hs (L.set i (1, t, n)) := by
  intro k hk uk
  rw [List.length_set] at hk
  by_cases h' : k = i
  · subst h'
    rw [gE_set_same _ hi]
    exact met_set hi (by simp) hm
  · rw [gE_set_ne _ h'] at uk ⊢
    exact met_set hi (by simp) (hl k hk uk)
theorem put_dt {L : List En} {i : Nat} {t : List Int} {n : Int} (hi : i < L.length) (hd : DT L) (hn : ∀ y ∈ L, y.1 = 1 → y.2.1 ≠ t) : DT (L.set i (1, t, n)) := by
  rw [dt_iff] at hd ⊢
  intro a b ha hb ua ub e
  rw [List.length_set] at ha hb
  by_cases h1 : a = i
  · by_cases h2 : b = i
    · omega
    · subst h1
      rw [gE_set_same _ hi, gE_set_ne _ h2] at e
      rw [gE_set_ne _ h2] at ub
      exact absurd e.symm (hn _ (gE_mem hb) ub)
  · by_cases h2 : b = i
    · subst h2
      rw [gE_set_same _ hi, gE_set_ne _ h1] at e
      rw [gE_set_ne _ h1] at ua
      exact absurd e (hn _ (gE_mem ha) ua)
    · rw [gE_set_ne _ h1] at ua e
      rw [gE_set_ne _ h2] at ub e
      exact hd a b ha hb ua ub e
theorem put_mem {L : List En} {i : Nat} {t : List Int} {n : Int} (hi : i < L.length) (hu : (gE L i).1 ≠ 1) (y : En) : (y ∈ L.set i (1, t, n) ∧ y.1 = 1) ↔ y = (1, t, n) ∨ (y ∈ L ∧ y.1 = 1) := by
  constructor
  · rintro ⟨hy, u⟩
    obtain ⟨k, hk, rfl⟩ := mem_gE hy
    rw [List.length_set] at hk
    by_cases h' : k = i
    · subst h'; left; exact gE_set_same _ hi
    · rw [gE_set_ne _ h'] at u ⊢; exact .inr ⟨gE_mem hk, u⟩
  · rintro (rfl | ⟨hy, u⟩)
    · refine ⟨?_, rfl⟩
      have := gE_mem (L := L.set i (1, t, n)) (k := i) (by simpa using hi)
      rwa [gE_set_same _ hi] at this
    · obtain ⟨k, hk, rfl⟩ := mem_gE hy
      have h' : k ≠ i := by rintro rfl; exact hu u
      have := gE_mem (L := L.set i (1, t, n)) (k := k) (by simpa using hk)
      rw [gE_set_ne _ h'] at this
      exact ⟨this, u⟩
/-- One less: its slot is left. -/
theorem drop_laid {L : List En} {i : Nat} (hi : i < L.length) (hl : Laid hs L) : Laid hs (L.set i (2, [], 0)) := by
  intro k hk uk
  rw [List.length_set] at hk
  by_cases h' : k = i
  · subst h'; rw [gE_set_same _ hi] at uk; simp at uk
  · rw [gE_set_ne _ h'] at uk ⊢
    exact met_set hi (by simp) (hl k hk uk)
theorem drop_dt {L : List En} {i : Nat} (hi : i < L.length) (hd : DT L) : DT (L.set i (2, [], 0)) := by
  rw [dt_iff] at hd ⊢
  intro a b ha hb ua ub e
  rw [List.length_set] at ha hb
  by_cases h1 : a = i
  · subst h1; rw [gE_set_same _ hi] at ua; simp at ua
  · by_cases h2 : b = i
    · subst h2; rw [gE_set_same _ hi] at ub; simp at ub
    · rw [gE_set_ne _ h1] at ua e
      rw [gE_set_ne _ h2] at ub e
      exact hd a b ha hb ua ub e
theorem drop_mem {L : List En} {i : Nat} (hi : i < L.length) (hd : DT L) (hu : (gE L i).1 = 1) (y : En) : (y ∈ L.set i (2, [], 0) ∧ y.1 = 1) ↔ (y ∈ L ∧ y.1 = 1) ∧ y.2.1 ≠ (gE L i).2.1 := by
  constructor
  · rintro ⟨hy, u⟩
    obtain ⟨k, hk, rfl⟩ := mem_gE hy
    rw [List.length_set] at hk
    by_cases h' : k = i
    · subst h'; rw [gE_set_same _ hi] at u; simp at u
    · rw [gE_set_ne _ h'] at u ⊢
      exact ⟨⟨gE_mem hk, u⟩, fun e => h' ((dt_iff L).1 hd k i hk hi u hu e)⟩
  · rintro ⟨⟨hy, u⟩, hne⟩
    obtain ⟨k, hk, rfl⟩ := mem_gE hy
    have h' : k ≠ i := by rintro rfl; exact hne rfl
    have := gE_mem (L := L.set i (2, [], 0)) (k := k) (by simpa using hk)
    rw [gE_set_ne _ h'] at this
    exact ⟨this, u⟩
/-- A type that stands in a used slot is met there first of all, and nothing ahead is free or has it. -/
theorem look_some {L : List En} (hd : DT L) (hl : Laid hs L) {i : Nat} (hi : i < L.length) (hu : (gE L i).1 = 1) :
    ∃ j, j < L.length ∧ tuK (hs (gE L i).2.1) L.length j = i ∧ ∀ k, k < j → (gE L (tuK (hs (gE L i).2.1) L.length k)).1 ≠ 0 ∧ ¬ ((gE L (tuK (hs (gE L i).2.1) L.length k)).1 = 1 ∧ (gE L (tuK (hs (gE L i).2.1) L.length k)).2.1 = (gE L i).2.1) := by
  obtain ⟨j, hj, ej, hf⟩ := hl i hi hu
  refine ⟨j, hj, ej, fun k hk => ⟨hf k hk, fun ⟨u, e⟩ => ?_⟩⟩
  have := (dt_iff L).1 hd _ i (tuK_lt (by omega) k) hi u hu e
  have := tuK_inj (show k < L.length by omega) hj (this.trans ej.symm)
  omega
end
/-- How many slots are not free. -/
def taK (L : List En) : Nat := (L.filter fun x => !decide (x.1 = 0)).length
theorem taK_free {L : List En} (h : taK L < L.length) : ∃ k, k < L.length ∧ (gE L k).1 = 0 := by
  refine Classical.byContradiction fun hn => ?_
  have : taK L = L.length := by
    unfold taK
    rw [List.filter_eq_self.2]
    intro y hy
    obtain ⟨k, hk, rfl⟩ := mem_gE hy
    have : (gE L k).1 ≠ 0 := fun e => hn ⟨k, hk, e⟩
    simp [this]
  omega
theorem taK_set {L : List En} {i : Nat} (e : En) (hi : i < L.length) : taK (L.set i e) + (if (gE L i).1 = 0 then 0 else 1) = taK L + (if e.1 = 0 then 0 else 1) := by
  unfold taK
  induction L generalizing i with
  | nil => simp at hi
  | cons x L ih =>
    cases i with
    | zero =>
      have e0 : gE (x :: L) 0 = x := rfl
      rw [e0, List.set_cons_zero, List.filter_cons, List.filter_cons]
      by_cases h1 : x.1 = 0 <;> by_cases h2 : e.1 = 0 <;> simp [h1, h2]
    | succ i =>
      have e0 : gE (x :: L) (i + 1) = gE L i := rfl
      have := ih (i := i) (by simpa using hi)
      rw [e0, List.set_cons_succ, List.filter_cons, List.filter_cons]
      by_cases h1 : x.1 = 0
      · simp only [h1, decide_true, Bool.not_true, Bool.false_eq_true, if_false]; exact this
      · simp only [h1, decide_false, Bool.not_false, if_true, List.length_cons]; omega
theorem taK_us (L : List En) : (L.filter usB).length ≤ taK L := by
  unfold taK
  have : L.filter usB = (L.filter fun x => !decide (x.1 = 0)).filter usB := by
    rw [List.filter_filter]
    congr 1
    funext x
    unfold usB
    by_cases h : x.1 = 1
    · simp [h]
    · simp [h]
  rw [this]
  exact List.length_filter_le _ _
/-- A lookup may be. -/
structure RiL (hs : List Int → Nat) (may : List Int → Bool) (L : List En) : Prop where
  pw : ∃ e, L.length = 8 * 2 ^ e
  ok : ∀ i, i < L.length → ((gE L i).1 = 0 ∨ (gE L i).1 = 2) ∧ (gE L i).2.1 = [] ∧ (gE L i).2.2 = 0 ∨ (gE L i).1 = 1 ∧ may (gE L i).2.1 = true ∧ 0 ≤ (gE L i).2.2
  la : Laid hs L
  dt : DT L
  q3 : 4 * taK L ≤ 3 * L.length
  mx : taK L ≤ 4000
theorem RiL.pos {hs : List Int → Nat} {may : List Int → Bool} {L : List En} (h : RiL hs may L) : 8 ≤ L.length := by
  obtain ⟨e, he⟩ := h.pw
  have := Nat.two_pow_pos e
  omega
theorem RiL.free {hs : List Int → Nat} {may : List Int → Bool} {L : List En} (h : RiL hs may L) : ∃ k, k < L.length ∧ (gE L k).1 = 0 :=
  taK_free (by have := h.q3; have := h.pos; omega)
/-- One more, in a slot that is not used and that its type comes to. -/
theorem RiL.put {hs : List Int → Nat} {may : List Int → Bool} {L : List En} (h : RiL hs may L) {i : Nat} {t : List Int} {n : Int} (hi : i < L.length) (hu : (gE L i).1 ≠ 1) (hm : Met hs L t i) (hn : ∀ y ∈ L, y.1 = 1 → y.2.1 ≠ t) (ht : may t = true) (h0 : 0 ≤ n)
    (hq : 4 * (taK L + if (gE L i).1 = 0 then 1 else 0) ≤ 3 * L.length) (hx : taK L + (if (gE L i).1 = 0 then 1 else 0) ≤ 4000) : RiL hs may (L.set i (1, t, n)) := by
  have hk := taK_set (1, t, n) hi
  have hk' : taK (L.set i (1, t, n)) = taK L + if (gE L i).1 = 0 then 1 else 0 := by
    simp only [show ((1 : Int) = 0) = False by simp, if_false] at hk
    split at hk <;> simp_all <;> omega
  refine ⟨by rw [List.length_set]; exact h.pw, fun k hk2 => ?_, put_laid hi h.la hm, put_dt hi h.dt hn, by rw [hk', List.length_set]; exact hq, by rw [hk']; exact hx⟩
  rw [List.length_set] at hk2
  by_cases h' : k = i
  · subst h'; rw [gE_set_same _ hi]; exact .inr ⟨rfl, ht, h0⟩
  · rw [gE_set_ne _ h']; exact h.ok k hk2
theorem RiL.drop {hs : List Int → Nat} {may : List Int → Bool} {L : List En} (h : RiL hs may L) {i : Nat} (hi : i < L.length) (hu : (gE L i).1 = 1) : RiL hs may (L.set i (2, [], 0)) := by
  have hk := taK_set (2, [], 0) hi
  have hk' : taK (L.set i (2, [], 0)) = taK L := by
    rw [hu] at hk; simp at hk; omega
  refine ⟨by rw [List.length_set]; exact h.pw, fun k hk2 => ?_, drop_laid hi h.la, drop_dt hi h.dt, by rw [hk', List.length_set]; exact h.q3, by rw [hk']; exact h.mx⟩
  rw [List.length_set] at hk2
  by_cases h' : k = i
  · subst h'; rw [gE_set_same _ hi]; exact .inl ⟨.inr rfl, rfl, rfl⟩
  · rw [gE_set_ne _ h']; exact h.ok k hk2
/-- Slots that are all free. -/
def frL (m : Nat) : List En := List.replicate m (0, [], 0)
theorem gE_fr (m k : Nat) : gE (frL m) k = (0, [], 0) := by
  unfold gE frL; rw [List.getD_eq_getElem?_getD, List.getElem?_replicate]; split <;> rfl
theorem taK_fr (m : Nat) : taK (frL m) = 0 := by unfold taK frL; simp
theorem ri_new {hs : List Int → Nat} {may : List Int → Bool} {m : Nat} (h : ∃ e, m = 8 * 2 ^ e) : RiL hs may (frL m) := by
  have hl : (frL m).length = m := by unfold frL; simp
  refine ⟨by rw [hl]; exact h, fun i _ => .inl ?_, fun i _ u => ?_, ?_, by rw [taK_fr]; omega, by rw [taK_fr]; omega⟩
  · rw [gE_fr]; exact ⟨.inl rfl, rfl, rfl⟩
  · rw [gE_fr] at u; simp at u
  · rw [dt_iff]; intro i k _ _ u; rw [gE_fr] at u; simp at u
end Go.Proofs.Ytjnhalomkmdcgaa
