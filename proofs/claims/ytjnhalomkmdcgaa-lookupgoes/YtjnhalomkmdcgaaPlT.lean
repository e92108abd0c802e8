/- Plain mathematics of types: rows that rise, putting in, taking out. -/
import Derived.Test.YtjnhalomkmdcgaaTyD
namespace Go.Proofs.Ytjnhalomkmdcgaa
open Go.RowKit

/-- A row rises, each number once. -/
def SS (l : List Int) : Prop := l.Pairwise (· < ·)
def insL (l : List Int) (x : Int) : List Int := l.filter (fun y => decide (y < x)) ++ x :: l.filter (fun y => decide (x < y))
def delL (l : List Int) (x : Int) : List Int := l.filter (fun y => !(y == x))

theorem iG_eq {l : List Int} {k : Nat} (h : k < l.length) : iG l k = l[k] := by simp [iG, h]
theorem mayT_iff (l : List Int) : mayT l = true ↔ l.length ≤ 12 ∧ (∀ x ∈ l, canB x = true) ∧ SS l := by
  constructor
  · intro h
    have hat := mayT_at h
    have h12 : l.length ≤ 12 := by
      refine Nat.le_of_not_lt fun hl => ?_
      have := hat 12 hl
      simp [okAt] at this
    refine ⟨h12, ?_, ?_⟩
    · intro x hx
      obtain ⟨k, hk, rfl⟩ := List.getElem_of_mem hx
      have := hat k hk
      rw [← iG_eq hk]
      simp [okAt] at this
      exact this.1.2
    · unfold SS
      rw [List.pairwise_iff_getElem]
      have step : ∀ j, (hj : j + 1 < l.length) → l[j] < l[j + 1] := by
        intro j hj
        have := hat (j + 1) hj
        simp [okAt] at this
        rw [iG_eq hj, iG_eq (by omega)] at this
        exact this.2
      intro i j hi hj hij
      induction j with
      | zero => omega
      | succ j ih =>
        by_cases e : i = j
        · subst e; exact step i hj
        · exact Int.lt_trans (ih (by omega) (by omega)) (step j hj)
  · rintro ⟨h12, hc, hs⟩
    refine mayT_true fun j hj => ?_
    unfold SS at hs
    rw [List.pairwise_iff_getElem] at hs
    have h1 : canB (iG l j) = true := hc _ (iG_mem hj)
    by_cases e : j = 0
    · subst e; simp [okAt, h1]
    · have h2 := hs (j - 1) j (by omega) hj (by omega)
      rw [← iG_eq (show j - 1 < l.length by omega), ← iG_eq hj] at h2
      simp [okAt, h1, e, h2]; omega
theorem SS.ris {l : List Int} (h : SS l) : Ris l := by
  intro i j hij hj
  unfold SS at h
  rw [List.pairwise_iff_getElem] at h
  rw [iG_eq hj, iG_eq (by omega)]
  by_cases e : i = j
  · subst e; exact Int.le_refl _
  · exact Int.le_of_lt (h i j (by omega) hj (by omega))

theorem filter_front {α : Type} (p : α → Bool) (l : List α) (i : Nat) (h1 : ∀ y ∈ l.take i, p y = true) (h2 : ∀ y ∈ l.drop i, p y = false) : l.filter p = l.take i := by
  conv => lhs; rw [← List.take_append_drop i l]
  rw [List.filter_append, List.filter_eq_self.2 h1, List.filter_eq_nil_iff.2 (fun a ha => by simp [h2 a ha]), List.append_nil]
theorem filter_back {α : Type} (p : α → Bool) (l : List α) (i : Nat) (h1 : ∀ y ∈ l.take i, p y = false) (h2 : ∀ y ∈ l.drop i, p y = true) : l.filter p = l.drop i := by
  conv => lhs; rw [← List.take_append_drop i l]
  rw [List.filter_append, List.filter_eq_self.2 h2, List.filter_eq_nil_iff.2 (fun a ha => by simp [h1 a ha]), List.nil_append]
theorem mem_take_iG {l : List Int} {i : Nat} {y : Int} (h : y ∈ l.take i) : ∃ j, j < i ∧ j < l.length ∧ y = iG l j := by
  obtain ⟨j, hj, rfl⟩ := List.getElem_of_mem h
  simp at hj
  exact ⟨j, by omega, by omega, by rw [iG_eq (by omega)]; simp⟩
theorem mem_drop_iG {l : List Int} {i : Nat} {y : Int} (h : y ∈ l.drop i) : ∃ j, i ≤ j ∧ j < l.length ∧ y = iG l j := by
  obtain ⟨j, hj, rfl⟩ := List.getElem_of_mem h
  simp at hj
  exact ⟨i + j, by omega, by omega, by rw [iG_eq (by omega)]; simp⟩
theorem pos_take {l : List Int} {x : Int} {i : Nat} (h : Pos l x i) : l.filter (fun y => decide (y < x)) = l.take i :=
  filter_front _ l i (fun y hy => by obtain ⟨j, h1, _, rfl⟩ := mem_take_iG hy; simpa using h.2.1 j h1) (fun y hy => by obtain ⟨j, h1, h2, rfl⟩ := mem_drop_iG hy; have := h.2.2 j h1 h2; simp; omega)
theorem pos_drop {l : List Int} {x : Int} {i : Nat} (h : Pos l x i) : l.filter (fun y => decide (x ≤ y)) = l.drop i :=
  filter_back _ l i (fun y hy => by obtain ⟨j, h1, _, rfl⟩ := mem_take_iG hy; have := h.2.1 j h1; simp; omega) (fun y hy => by obtain ⟨j, h1, h2, rfl⟩ := mem_drop_iG hy; simpa using h.2.2 j h1 h2)
theorem fnd_iff {l : List Int} {x : Int} {i : Nat} (hs : SS l) (h : Pos l x i) : fndB l x i = decide (x ∈ l) := by
  rw [Bool.eq_iff_iff]
  simp only [fndB, Bool.and_eq_true, decide_eq_true_eq]
  constructor
  · rintro ⟨h1, rfl⟩; exact iG_mem h1
  · intro hx
    have hd : x ∈ l.drop i := by rw [← pos_drop h]; simp [hx]
    obtain ⟨j, h1, h2, e⟩ := mem_drop_iG hd
    refine ⟨by omega, ?_⟩
    have a := h.2.2 i (Nat.le_refl _) (by omega)
    have b := hs.ris i j h1 h2
    omega
theorem put_none (l : List Int) (i : Nat) : putL l i [] = l := by simp [putL]
theorem put_new {l : List Int} {x : Int} {i : Nat} (h : Pos l x i) (hx : x ∉ l) : putL l i [x] = insL l x := by
  have e : l.filter (fun y => decide (x < y)) = l.filter (fun y => decide (x ≤ y)) := by
    refine List.filter_congr fun y hy => ?_
    have : y ≠ x := fun e => hx (e ▸ hy)
    rw [Bool.eq_iff_iff]; simp; omega
  unfold putL insL
  rw [e, pos_take h, pos_drop h]; simp
theorem drop_old {l : List Int} {x : Int} {i : Nat} (hs : SS l) (h : Pos l x i) (hx : x ∈ l) : dropL l i = delL l x := by
  have hf := fnd_iff hs h
  rw [decide_eq_true hx] at hf
  simp only [fndB, Bool.and_eq_true, decide_eq_true_eq] at hf
  obtain ⟨h1, h2⟩ := hf
  have hd : l.drop i = x :: l.drop (i + 1) := by rw [List.drop_eq_getElem_cons h1, ← iG_eq h1, h2]
  have e : l = l.take i ++ x :: l.drop (i + 1) := by rw [← hd, List.take_append_drop]
  unfold delL dropL
  conv => rhs; rw [e]
  rw [List.filter_append, List.filter_cons]
  have a : (l.take i).filter (fun y => !(y == x)) = l.take i := List.filter_eq_self.2 fun y hy => by
    obtain ⟨j, g1, _, rfl⟩ := mem_take_iG hy; have := h.2.1 j g1; simp; omega
  have b : (l.drop (i + 1)).filter (fun y => !(y == x)) = l.drop (i + 1) := List.filter_eq_self.2 fun y hy => by
    obtain ⟨j, g1, g2, rfl⟩ := mem_drop_iG hy
    have : iG l i < iG l j := by
      unfold SS at hs
      rw [List.pairwise_iff_getElem] at hs
      rw [iG_eq h1, iG_eq g2]
      exact hs i j h1 g2 (by omega)
    simp; omega
  rw [a, b]; simp

theorem insL_mem {l : List Int} {x y : Int} : y ∈ insL l x ↔ y ∈ l ∨ y = x := by
  unfold insL
  simp only [List.mem_append, List.mem_cons, List.mem_filter, decide_eq_true_eq]
  constructor
  · rintro (⟨h, _⟩ | rfl | ⟨h, _⟩)
    · exact .inl h
    · exact .inr rfl
    · exact .inl h
  · rintro (h | rfl)
    · rcases Int.lt_trichotomy y x with g | g | g
      · exact .inl ⟨h, g⟩
      · exact .inr (.inl g)
      · exact .inr (.inr ⟨h, g⟩)
    · exact .inr (.inl rfl)
theorem insL_ss {l : List Int} (x : Int) (h : SS l) : SS (insL l x) := by
  unfold SS insL at *
  rw [List.pairwise_append, List.pairwise_cons]
  refine ⟨h.filter _, ⟨?_, h.filter _⟩, ?_⟩
  · intro y hy; simp at hy; exact hy.2
  · intro a ha b hb
    simp at ha hb
    rcases hb with rfl | hb <;> omega
theorem len_split (l : List Int) (x : Int) (hx : x ∉ l) : (l.filter fun y => decide (y < x)).length + (l.filter fun y => decide (x < y)).length = l.length := by
  induction l with
  | nil => rfl
  | cons a t ih =>
    have h1 : x ≠ a := fun e => hx (by simp [e])
    have h2 : x ∉ t := fun e => hx (by simp [e])
    have := ih h2
    by_cases c : a < x
    · have : ¬ x < a := by omega
      simp [c, this]; omega
    · have : x < a := by omega
      simp [c, this]; omega
theorem insL_len {l : List Int} {x : Int} (hx : x ∉ l) : (insL l x).length = l.length + 1 := by
  have := len_split l x hx
  unfold insL; simp; omega
theorem insL_old {l : List Int} {x : Int} (hs : SS l) (hx : x ∈ l) : insL l x = l := by
  induction l with
  | nil => simp at hx
  | cons a t ih =>
    have ht : SS t := hs.of_cons
    have ha : ∀ y ∈ t, a < y := fun y hy => List.rel_of_pairwise_cons hs hy
    by_cases e : x = a
    · subst e
      have e1 : (x :: t).filter (fun y => decide (y < x)) = [] := List.filter_eq_nil_iff.2 fun y hy => by
        rcases List.mem_cons.1 hy with rfl | hy
        · simp
        · have := ha y hy; simp; omega
      have e2 : (x :: t).filter (fun y => decide (x < y)) = t := by
        rw [List.filter_cons]
        simp
        intro y hy; exact ha y hy
      unfold insL; rw [e1, e2]; rfl
    · have hx' : x ∈ t := by rcases List.mem_cons.1 hx with h | h; { exact absurd h e }; { exact h }
      have hax := ha x hx'
      have := ih ht hx'
      unfold insL at *
      have e3 : ¬ x < a := by omega
      rw [List.filter_cons, List.filter_cons]
      simp [hax, e3]
      exact this
theorem delL_ss {l : List Int} (x : Int) (h : SS l) : SS (delL l x) := h.filter _
theorem delL_mem {l : List Int} {x y : Int} : y ∈ delL l x ↔ y ∈ l ∧ y ≠ x := by unfold delL; simp
theorem ss_ext : ∀ {a b : List Int}, SS a → SS b → (∀ y, y ∈ a ↔ y ∈ b) → a = b
  | [], [], _, _, _ => rfl
  | [], y :: b, _, _, h => absurd ((h y).2 (by simp)) (by simp)
  | x :: a, [], _, _, h => absurd ((h x).1 (by simp)) (by simp)
  | x :: a, y :: b, ha, hb, h => by
    have a1 : ∀ z ∈ a, x < z := fun z hz => List.rel_of_pairwise_cons ha hz
    have b1 : ∀ z ∈ b, y < z := fun z hz => List.rel_of_pairwise_cons hb hz
    have e : x = y := by
      rcases List.mem_cons.1 ((h x).1 (by simp)) with g | g
      · exact g
      · rcases List.mem_cons.1 ((h y).2 (by simp)) with g' | g'
        · exact g'.symm
        · have := a1 y g'; have := b1 x g; omega
    subst e
    have t : a = b := ss_ext ha.of_cons hb.of_cons fun z => by
      have := h z
      simp only [List.mem_cons] at this
      constructor
      · intro hz
        rcases this.1 (.inr hz) with g | g
        · have := a1 z hz; omega
        · exact g
      · intro hz
        rcases this.2 (.inr hz) with g | g
        · have := b1 z hz; omega
        · exact g
    rw [t]
theorem delL_ins {l : List Int} {x : Int} (hx : x ∉ l) (hs : SS l) : delL (insL l x) x = l :=
  ss_ext (delL_ss x (insL_ss x hs)) hs fun y => by
    rw [delL_mem, insL_mem]
    constructor
    · rintro ⟨h | h, h'⟩
      · exact h
      · exact absurd h h'
    · intro h; exact ⟨.inl h, fun e => hx (e ▸ h)⟩
theorem delL_len {l : List Int} {x : Int} (hx : x ∈ l) (hs : SS l) : (delL l x).length + 1 = l.length := by
  have e : insL (delL l x) x = l := ss_ext (insL_ss x (delL_ss x hs)) hs fun y => by
    rw [insL_mem, delL_mem]
    constructor
    · rintro (h | rfl)
      · exact h.1
      · exact hx
    · intro h
      by_cases c : y = x
      · exact .inr c
      · exact .inl ⟨h, c⟩
  have := insL_len (l := delL l x) (x := x) (fun h => (delL_mem.1 h).2 rfl)
  rw [e] at this; omega
/-- What comes of a row of ids: each put in. -/
def ofN (l : List Int) : Nat → List Int
  | 0 => []
  | k + 1 => insL (ofN l k) (iG l k)
theorem ofN_ss (l : List Int) (k : Nat) : SS (ofN l k) := by
  induction k with
  | zero => exact List.Pairwise.nil
  | succ k ih => exact insL_ss _ ih
theorem ofN_le (l : List Int) (k : Nat) : (ofN l k).length ≤ (ofN l (k + 1)).length := by
  by_cases h : iG l k ∈ ofN l k
  · show _ ≤ (insL (ofN l k) (iG l k)).length; rw [insL_old (ofN_ss l k) h]; exact Nat.le_refl _
  · show _ ≤ (insL (ofN l k) (iG l k)).length; rw [insL_len h]; omega
theorem ofN_mono (l : List Int) {k m : Nat} (h : k ≤ m) : (ofN l k).length ≤ (ofN l m).length := by
  induction m with
  | zero => obtain rfl : k = 0 := by omega
            exact Nat.le_refl _
  | succ m ih =>
    by_cases e : k = m + 1
    · rw [e]; exact Nat.le_refl _
    · exact Nat.le_trans (ih (by omega)) (ofN_le l m)
theorem ofN_mem (l : List Int) (k : Nat) (y : Int) (hk : k ≤ l.length) : y ∈ ofN l k ↔ y ∈ l.take k := by
  induction k with
  | zero => simp [ofN]
  | succ k ih =>
    have e : l.take (k + 1) = l.take k ++ [iG l k] := by
      rw [List.take_succ_eq_append_getElem (by omega), iG_eq (by omega)]
    show y ∈ insL (ofN l k) (iG l k) ↔ _
    rw [insL_mem, ih (by omega), e]; simp
theorem ofN_len (l : List Int) (k : Nat) : (ofN l k).length ≤ k := by
  induction k with
  | zero => simp [ofN]
  | succ k ih =>
    by_cases h : iG l k ∈ ofN l k
    · show (insL (ofN l k) (iG l k)).length ≤ _; rw [insL_old (ofN_ss l k) h]; omega
    · show (insL (ofN l k) (iG l k)).length ≤ _; rw [insL_len h]; omega
def ofL (l : List Int) : List Int := ofN l l.length
end Go.Proofs.Ytjnhalomkmdcgaa
