/- Plain mathematics of lookups (stage 7), 1: entries in order of their types. Imports nothing of a program. -/
/- Plain mathematics of lookups (stage 7), 2: slots, turns, what is found; one more, one less. -/
/- Plain mathematics of lookups (stage 7), 3: what the document's loops find; slots laid anew. -/
import Derived.WalkKit
import Derived.Test.YtjnhalomkmdcgaaHm
namespace Go.Proofs.Ytjnhalomkmdcgaa

/-- A slot: its state, its type, its number. -/
abbrev En := Int × List Int × Int
/-- How types stand. -/
structure IsCmp (cmp : List Int → List Int → Int) : Prop where
  eq : ∀ a b, cmp a b = 0 ↔ a = b
  as : ∀ a b, cmp a b < 0 ↔ 0 < cmp b a
  tr : ∀ a b c, cmp a b < 0 → cmp b c < 0 → cmp a c < 0
variable {cmp : List Int → List Int → Int}
theorem IsCmp.ge (h : IsCmp cmp) {a b : List Int} (hne : a ≠ b) (hn : ¬ cmp a b < 0) : cmp b a < 0 := by
  have h1 : cmp a b ≠ 0 := fun e => hne ((h.eq a b).1 e)
  exact (h.as b a).2 (by omega)
theorem IsCmp.irr (h : IsCmp cmp) (a : List Int) : ¬ cmp a a < 0 := by have := (h.eq a a).2 rfl; omega
theorem IsCmp.ne (h : IsCmp cmp) {a b : List Int} (hl : cmp a b < 0) : a ≠ b := by rintro rfl; exact h.irr a hl
/-- One more, in order. -/
def wiL (cmp : List Int → List Int → Int) : List En → En → List En
  | [], x => [x]
  | y :: l, x => if cmp x.2.1 y.2.1 < 0 then x :: y :: l else y :: wiL cmp l x
theorem wiL_mem (l : List En) (x y : En) : y ∈ wiL cmp l x ↔ y = x ∨ y ∈ l := by
  induction l with
  | nil => simp [wiL]
  | cons z l ih =>
    unfold wiL
    split
    · simp
    · rw [List.mem_cons, ih, List.mem_cons]
      constructor
      · rintro (h | h | h) <;> simp [h]
      · rintro (h | h | h) <;> simp [h]
theorem wiL_len (l : List En) (x : En) : (wiL cmp l x).length = l.length + 1 := by
  induction l with
  | nil => rfl
  | cons z l ih =>
    unfold wiL
    split
    · rfl
    · rw [List.length_cons, ih]; rfl
/-- In order of their types, no two of which are one. -/
def SE (cmp : List Int → List Int → Int) (l : List En) : Prop := l.Pairwise fun a b => cmp a.2.1 b.2.1 < 0
theorem wiL_se (h : IsCmp cmp) {l : List En} (x : En) (hs : SE cmp l) (hx : ∀ y ∈ l, y.2.1 ≠ x.2.1) : SE cmp (wiL cmp l x) := by
  induction l with
  | nil => simp [wiL, SE]
  | cons z l ih =>
    obtain ⟨h1, h2⟩ := List.pairwise_cons.1 hs
    unfold wiL
    split
    · rename_i hlt
      refine List.pairwise_cons.2 ⟨fun y hy => ?_, hs⟩
      rcases List.mem_cons.1 hy with rfl | hy
      · exact hlt
      · exact h.tr _ _ _ hlt (h1 y hy)
    · rename_i hge
      refine List.pairwise_cons.2 ⟨fun y hy => ?_, ih h2 (fun y hy => hx y (List.mem_cons_of_mem _ hy))⟩
      rcases (wiL_mem l x y).1 hy with rfl | hy
      · exact h.ge (fun e => hx z (by simp) e.symm) hge
      · exact h1 y hy
theorem se_ext (h : IsCmp cmp) : ∀ {a b : List En}, SE cmp a → SE cmp b → (∀ y, y ∈ a ↔ y ∈ b) → a = b
  | [], [], _, _, _ => rfl
  | [], y :: b, _, _, hm => by have := (hm y).2 (by simp); simp at this
  | x :: a, [], _, _, hm => by have := (hm x).1 (by simp); simp at this
  | x :: a, y :: b, ha, hb, hm => by
    obtain ⟨a1, a2⟩ := List.pairwise_cons.1 ha
    obtain ⟨b1, b2⟩ := List.pairwise_cons.1 hb
    have e : x = y := by
      rcases List.mem_cons.1 ((hm x).1 (by simp)) with e | hx
      · exact e
      · rcases List.mem_cons.1 ((hm y).2 (by simp)) with e | hy
        · exact e.symm
        · exact absurd (h.tr _ _ _ (a1 y hy) (b1 x hx)) (h.irr _)
    subst e
    have : a = b := se_ext h a2 b2 (fun z => by
      constructor
      · intro hz
        rcases List.mem_cons.1 ((hm z).1 (List.mem_cons_of_mem _ hz)) with rfl | h'
        · exact absurd (a1 z hz) (h.irr _)
        · exact h'
      · intro hz
        rcases List.mem_cons.1 ((hm z).2 (List.mem_cons_of_mem _ hz)) with rfl | h'
        · exact absurd (b1 z hz) (h.irr _)
        · exact h')
    rw [this]
/-- Of two entries of such a row whose types are one, they are one. -/
theorem se_one (h : IsCmp cmp) {l : List En} (hs : SE cmp l) {x y : En} (hx : x ∈ l) (hy : y ∈ l) (e : x.2.1 = y.2.1) : x = y := by
  induction l with
  | nil => simp at hx
  | cons z l ih =>
    obtain ⟨h1, h2⟩ := List.pairwise_cons.1 hs
    rcases List.mem_cons.1 hx with rfl | hx'
    · rcases List.mem_cons.1 hy with hy' | hy'
      · exact hy'.symm
      · exact absurd e (h.ne (h1 y hy'))
    · rcases List.mem_cons.1 hy with rfl | hy'
      · exact absurd e.symm (h.ne (h1 x hx'))
      · exact ih h2 hx' hy'
/-- Without a type. -/
def woL (l : List En) (t : List Int) : List En := l.filter fun x => !decide (x.2.1 = t)
theorem woL_mem (l : List En) (t : List Int) (y : En) : y ∈ woL l t ↔ y ∈ l ∧ y.2.1 ≠ t := by unfold woL; simp
theorem woL_se {l : List En} (t : List Int) (hs : SE cmp l) : SE cmp (woL l t) := hs.filter _
/-- Put, and dropped. -/
theorem woL_wiL (h : IsCmp cmp) {l : List En} (x : En) (hs : SE cmp l) (hx : ∀ y ∈ l, y.2.1 ≠ x.2.1) : woL (wiL cmp l x) x.2.1 = l := by
  refine se_ext h (woL_se _ (wiL_se h x hs hx)) hs (fun y => ?_)
  rw [woL_mem, wiL_mem]
  constructor
  · rintro ⟨rfl | hy, hne⟩
    · exact absurd rfl hne
    · exact hy
  · exact fun hy => ⟨.inr hy, hx y hy⟩
/-- In whatever order two are put. -/
theorem wiL_comm (h : IsCmp cmp) {l : List En} (x z : En) (hs : SE cmp l) (hx : ∀ y ∈ l, y.2.1 ≠ x.2.1) (hz : ∀ y ∈ l, y.2.1 ≠ z.2.1) (hxz : x.2.1 ≠ z.2.1) : wiL cmp (wiL cmp l x) z = wiL cmp (wiL cmp l z) x := by
  refine se_ext h (wiL_se h z (wiL_se h x hs hx) (fun y hy => ?_)) (wiL_se h x (wiL_se h z hs hz) (fun y hy => ?_)) (fun y => ?_)
  · rcases (wiL_mem l x y).1 hy with rfl | hy
    · exact hxz
    · exact hz y hy
  · rcases (wiL_mem l z y).1 hy with rfl | hy
    · exact fun e => hxz e.symm
    · exact hx y hy
  · simp only [wiL_mem]
    constructor
    · rintro (h | h | h) <;> simp [h]
    · rintro (h | h | h) <;> simp [h]
/-- The number of a type; -1: none. -/
def fiL : List En → List Int → Int
  | [], _ => -1
  | x :: l, t => if x.2.1 = t then x.2.2 else fiL l t
theorem fiL_of (h : IsCmp cmp) {l : List En} (hs : SE cmp l) {x : En} (hx : x ∈ l) : fiL l x.2.1 = x.2.2 := by
  induction l with
  | nil => simp at hx
  | cons z l ih =>
    obtain ⟨h1, h2⟩ := List.pairwise_cons.1 hs
    unfold fiL
    rcases List.mem_cons.1 hx with rfl | hx
    · rw [if_pos rfl]
    · rw [if_neg (h.ne (h1 x hx))]; exact ih h2 hx
theorem fiL_none {l : List En} {t : List Int} (hx : ∀ y ∈ l, y.2.1 ≠ t) : fiL l t = -1 := by
  induction l with
  | nil => rfl
  | cons z l ih => unfold fiL; rw [if_neg (hx z (by simp))]; exact ih (fun y hy => hx y (List.mem_cons_of_mem _ hy))
/-- The used entries of a lookup, in order. -/
def usB (x : En) : Bool := decide (x.1 = 1)
def alL (cmp : List Int → List Int → Int) (L : List En) : List En := (L.filter usB).foldl (wiL cmp) []
theorem fold_mem (l acc : List En) (y : En) : y ∈ l.foldl (wiL cmp) acc ↔ y ∈ l ∨ y ∈ acc := by
  induction l generalizing acc with
  | nil => simp
  | cons z l ih =>
    rw [List.foldl_cons, ih, wiL_mem, List.mem_cons]
    constructor
    · rintro (h | h | h) <;> simp [h]
    · rintro ((h | h) | h) <;> simp [h]
theorem fold_len (l acc : List En) : (l.foldl (wiL cmp) acc).length = l.length + acc.length := by
  induction l generalizing acc with
  | nil => simp
  | cons z l ih => rw [List.foldl_cons, ih, wiL_len, List.length_cons]; omega
theorem fold_se (h : IsCmp cmp) {l acc : List En} (hs : SE cmp acc) (hd : l.Pairwise fun a b => a.2.1 ≠ b.2.1) (hx : ∀ y ∈ acc, ∀ z ∈ l, y.2.1 ≠ z.2.1) : SE cmp (l.foldl (wiL cmp) acc) := by
  induction l generalizing acc with
  | nil => exact hs
  | cons z l ih =>
    obtain ⟨h1, h2⟩ := List.pairwise_cons.1 hd
    rw [List.foldl_cons]
    refine ih (wiL_se h z hs (fun y hy => hx y hy z (by simp))) h2 (fun y hy u hu => ?_)
    rcases (wiL_mem acc z y).1 hy with rfl | hy
    · exact h1 u hu
    · exact hx y hy u (List.mem_cons_of_mem _ hu)
/-- No two used slots have one type. -/
def DT (L : List En) : Prop := (L.filter usB).Pairwise fun a b => a.2.1 ≠ b.2.1
theorem alL_mem (L : List En) (y : En) : y ∈ alL cmp L ↔ y ∈ L ∧ y.1 = 1 := by unfold alL; rw [fold_mem]; simp [usB]
theorem alL_len (L : List En) : (alL cmp L).length = (L.filter usB).length := by unfold alL; rw [fold_len]; simp
theorem alL_se (h : IsCmp cmp) {L : List En} (hd : DT L) : SE cmp (alL cmp L) := fold_se h List.Pairwise.nil hd (by simp)
/-- What a lookup says, one more being used; one being used no more. -/
theorem alL_put (h : IsCmp cmp) {L L' : List En} {e : En} (hd : DT L) (hd' : DT L') (he : ∀ y ∈ L, y.1 = 1 → y.2.1 ≠ e.2.1) (hm : ∀ y, (y ∈ L' ∧ y.1 = 1) ↔ y = e ∨ (y ∈ L ∧ y.1 = 1)) : alL cmp L' = wiL cmp (alL cmp L) e := by
  refine se_ext h (alL_se h hd') (wiL_se h e (alL_se h hd) (fun y hy => ?_)) (fun y => ?_)
  · obtain ⟨h1, h2⟩ := (alL_mem L y).1 hy; exact he y h1 h2
  · rw [alL_mem, wiL_mem, alL_mem, hm]
theorem alL_drop (h : IsCmp cmp) {L L' : List En} {t : List Int} (hd : DT L) (hd' : DT L') (hm : ∀ y, (y ∈ L' ∧ y.1 = 1) ↔ (y ∈ L ∧ y.1 = 1) ∧ y.2.1 ≠ t) : alL cmp L' = woL (alL cmp L) t := by
  refine se_ext h (alL_se h hd') (woL_se t (alL_se h hd)) (fun y => ?_)
  rw [alL_mem, woL_mem, alL_mem, hm]
theorem alL_same (h : IsCmp cmp) {L L' : List En} (hd : DT L) (hd' : DT L') (hm : ∀ y, (y ∈ L' ∧ y.1 = 1) ↔ (y ∈ L ∧ y.1 = 1)) : alL cmp L' = alL cmp L := by
  refine se_ext h (alL_se h hd') (alL_se h hd) (fun y => ?_)
  rw [alL_mem, alL_mem, hm]
end Go.Proofs.Ytjnhalomkmdcgaa
namespace Go.Proofs.Ytjnhalomkmdcgaa

/-- The k-th slot. -/
def gE (L : List En) (k : Nat) : En := L.getD k (0, [], 0)
theorem gE_eq {L : List En} {k : Nat} (h : k < L.length) : gE L k = L[k] := by simp [gE, h]
theorem gE_mem {L : List En} {k : Nat} (h : k < L.length) : gE L k ∈ L := by rw [gE_eq h]; exact List.getElem_mem h
theorem mem_gE {L : List En} {y : En} (h : y ∈ L) : ∃ k, k < L.length ∧ y = gE L k := by
  obtain ⟨k, hk, rfl⟩ := List.getElem_of_mem h
  exact ⟨k, hk, (gE_eq hk).symm⟩
theorem gE_set_same {L : List En} {i : Nat} (e : En) (h : i < L.length) : gE (L.set i e) i = e := by
  rw [gE_eq (by simpa using h)]; simp
theorem gE_set_ne {L : List En} {i k : Nat} (e : En) (h : k ≠ i) : gE (L.set i e) k = gE L k := by
  unfold gE; simp [List.getD_eq_getElem?_getD, Ne.symm h]
/-- No two used slots have one type, by their places. -/
theorem dt_iff (L : List En) : DT L ↔ ∀ i k, i < L.length → k < L.length → (gE L i).1 = 1 → (gE L k).1 = 1 → (gE L i).2.1 = (gE L k).2.1 → i = k := by
  have key : DT L ↔ L.Pairwise fun a b => a.1 = 1 → b.1 = 1 → a.2.1 ≠ b.2.1 := by
    unfold DT
    rw [List.pairwise_filter]
    simp [usB]
  rw [key, List.pairwise_iff_getElem]
  constructor
  · intro h i k hi hk ui uk e
    rcases Nat.lt_trichotomy i k with hlt | rfl | hlt
    · rw [gE_eq hi] at ui e; rw [gE_eq hk] at uk e
      exact absurd e (h i k hi hk hlt ui uk)
    · rfl
    · rw [gE_eq hi] at ui e; rw [gE_eq hk] at uk e
      exact absurd e.symm (h k i hk hi hlt uk ui)
  · intro h i k hi hk hlt ui uk e
    have := h i k hi hk (by rw [gE_eq hi]; exact ui) (by rw [gE_eq hk]; exact uk) (by rw [gE_eq hi, gE_eq hk]; exact e)
    omega
/-- The slot of the j-th turn from h. -/
def tuK (h m j : Nat) : Nat := (h % m + j) % m
theorem tuK_lt {h m : Nat} (hm : 0 < m) (j : Nat) : tuK h m j < m := Nat.mod_lt _ hm
theorem tuK_inj {h m i j : Nat} (hi : i < m) (hj : j < m) (e : tuK h m i = tuK h m j) : i = j := by
  rcases Nat.lt_trichotomy i j with hlt | h' | hlt
  · exact absurd e (turns_inj hlt hj)
  · exact h'
  · exact absurd e.symm (turns_inj hlt hi)
theorem tuK_surj {h m k : Nat} (hk : k < m) : ∃ j, j < m ∧ tuK h m j = k := by
  have ha : h % m < m := Nat.mod_lt _ (by omega)
  by_cases hle : h % m ≤ k
  · refine ⟨k - h % m, by omega, ?_⟩
    unfold tuK
    rw [show h % m + (k - h % m) = k by omega, Nat.mod_eq_of_lt hk]
  · refine ⟨k + m - h % m, by omega, ?_⟩
    unfold tuK
    rw [show h % m + (k + m - h % m) = k + m by omega, Nat.add_mod_right, Nat.mod_eq_of_lt hk]
section
variable (hs : List Int → Nat)
/-- Slot i is come to from the type's first slot on, no free one being ahead. -/
def Met (L : List En) (t : List Int) (i : Nat) : Prop := ∃ j, j < L.length ∧ tuK (hs t) L.length j = i ∧ ∀ k, k < j → (gE L (tuK (hs t) L.length k)).1 ≠ 0
/-- Each used slot is come to. -/
def Laid (L : List En) : Prop := ∀ i, i < L.length → (gE L i).1 = 1 → Met hs L (gE L i).2.1 i
variable {hs : List Int → Nat}
/-- Whatever slot is filled, all stays come to. -/
theorem met_set {L : List En} {i : Nat} {e : En} (hi : i < L.length) (he : e.1 ≠ 0) {t : List Int} {k : Nat} (h : Met hs L t k) : Met hs (L.set i e) t k := by
  obtain ⟨j, hj, ej, hf⟩ := h
  rw [← List.length_set (as := L) (i := i) (a := e)] at hj ej hf
  refine ⟨j, hj, ej, fun u hu => ?_⟩
  have := hf u hu
  by_cases h' : tuK (hs t) (L.set i e).length u = i
  · rw [h', gE_set_same e hi]; exact he
  · rw [gE_set_ne e h']; exact this
/-- One more is put into a slot that is not used, to which it comes. -/
theorem put_laid {L : List En} {i : Nat} {t : List Int} {n : Int} (hi : i < L.length) (hl : Laid hs L) (hm : Met hs L t i) : Laid hs (L.set i (1, t, n)) := by
  intro k hk uk
  rw [List.length_set] at hk
  by_cases h' : k = i
  · subst h'
    rw [gE_set_same _ hi]
    exact met_set hi (by simp) hm
  · rw [gE_set_ne _ h'] at uk ⊢
    exact met_set hi (by simp) (hl k hk uk)
theorem put_dt {L : List En} {i : Nat} {t : List Int} {n : Int} (hi : i < L.length) (hd : DT L) (hn : ∀ y ∈ L, y.1 = 1 → y.2.1 ≠ t) : DT (L.set i (1, t, n)) := by
  rw [dt_iff] at hd ⊢
  intro a b ha hb ua ub e
  rw [List.length_set] at ha hb
  by_cases h1 : a = i
  · by_cases h2 : b = i
    · omega
    · subst h1
      rw [gE_set_same _ hi, gE_set_ne _ h2] at e
      rw [gE_set_ne _ h2] at ub
      exact absurd e.symm (hn _ (gE_mem hb) ub)
  · by_cases h2 : b = i
    · subst h2
      rw [gE_set_same _ hi, gE_set_ne _ h1] at e
      rw [gE_set_ne _ h1] at ua
      exact absurd e (hn _ (gE_mem ha) ua)
    · rw [gE_set_ne _ h1] at ua e
      rw [gE_set_ne _ h2] at ub e
      exact hd a b ha hb ua ub e
theorem put_mem {L : List En} {i : Nat} {t : List Int} {n : Int} (hi : i < L.length) (hu : (gE L i).1 ≠ 1) (y : En) : (y ∈ L.set i (1, t, n) ∧ y.1 = 1) ↔ y = (1, t, n) ∨ (y ∈ L ∧ y.1 = 1) := by
  constructor
  · rintro ⟨hy, u⟩
    obtain ⟨k, hk, rfl⟩ := mem_gE hy
    rw [List.length_set] at hk
    by_cases h' : k = i
    · subst h'; left; exact gE_set_same _ hi
    · rw [gE_set_ne _ h'] at u ⊢; exact .inr ⟨gE_mem hk, u⟩
  · rintro (rfl | ⟨hy, u⟩)
    · refine ⟨?_, rfl⟩
      have := gE_mem (L := L.set i (1, t, n)) (k := i) (by simpa using hi)
      rwa [gE_set_same _ hi] at this
    · obtain ⟨k, hk, rfl⟩ := mem_gE hy
      have h' : k ≠ i := by rintro rfl; exact hu u
      have := gE_mem (L := L.set i (1, t, n)) (k := k) (by simpa using hk)
      rw [gE_set_ne _ h'] at this
      exact ⟨this, u⟩
/-- One less: its slot is left. -/
theorem drop_laid {L : List En} {i : Nat} (hi : i < L.length) (hl : Laid hs L) : Laid hs (L.set i (2, [], 0)) := by
  intro k hk uk
  rw [List.length_set] at hk
  by_cases h' : k = i
  · subst h'; rw [gE_set_same _ hi] at uk; simp at uk
  · rw [gE_set_ne _ h'] at uk ⊢
    exact met_set hi (by simp) (hl k hk uk)
theorem drop_dt {L : List En} {i : Nat} (hi : i < L.length) (hd : DT L) : DT (L.set i (2, [], 0)) := by
  rw [dt_iff] at hd ⊢
  intro a b ha hb ua ub e
  rw [List.length_set] at ha hb
  by_cases h1 : a = i
  · subst h1; rw [gE_set_same _ hi] at ua; simp at ua
  · by_cases h2 : b = i
    · subst h2; rw [gE_set_same _ hi] at ub; simp at ub
    · rw [gE_set_ne _ h1] at ua e
      rw [gE_set_ne _ h2] at ub e
      exact hd a b ha hb ua ub e
theorem drop_mem {L : List En} {i : Nat} (hi : i < L.length) (hd : DT L) (hu : (gE L i).1 = 1) (y : En) : (y ∈ L.set i (2, [], 0) ∧ y.1 = 1) ↔ (y ∈ L ∧ y.1 = 1) ∧ y.2.1 ≠ (gE L i).2.1 := by
  constructor
  · rintro ⟨hy, u⟩
    obtain ⟨k, hk, rfl⟩ := mem_gE hy
    rw [List.length_set] at hk
    by_cases h' : k = i
    · subst h'; rw [gE_set_same _ hi] at u; simp at u
    · rw [gE_set_ne _ h'] at u ⊢
      exact ⟨⟨gE_mem hk, u⟩, fun e => h' ((dt_iff L).1 hd k i hk hi u hu e)⟩
  · rintro ⟨⟨hy, u⟩, hne⟩
    obtain ⟨k, hk, rfl⟩ := mem_gE hy
    have h' : k ≠ i := by rintro rfl; exact hne rfl
    have := gE_mem (L := L.set i (2, [], 0)) (k := k) (by simpa using hk)
    rw [gE_set_ne _ h'] at this
    exact ⟨this, u⟩
/-- A type that stands in a used slot is met there first of all, and nothing ahead is free or has it. -/
theorem look_some {L : List En} (hd : DT L) (hl : Laid hs L) {i : Nat} (hi : i < L.length) (hu : (gE L i).1 = 1) :
    ∃ j, j < L.length ∧ tuK (hs (gE L i).2.1) L.length j = i ∧ ∀ k, k < j → (gE L (tuK (hs (gE L i).2.1) L.length k)).1 ≠ 0 ∧ ¬ ((gE L (tuK (hs (gE L i).2.1) L.length k)).1 = 1 ∧ (gE L (tuK (hs (gE L i).2.1) L.length k)).2.1 = (gE L i).2.1) := by
  obtain ⟨j, hj, ej, hf⟩ := hl i hi hu
  refine ⟨j, hj, ej, fun k hk => ⟨hf k hk, fun ⟨u, e⟩ => ?_⟩⟩
  have := (dt_iff L).1 hd _ i (tuK_lt (by omega) k) hi u hu e
  have := tuK_inj (show k < L.length by omega) hj (this.trans ej.symm)
  omega
end
/-- How many slots are not free. -/
def taK (L : List En) : Nat := (L.filter fun x => !decide (x.1 = 0)).length
theorem taK_free {L : List En} (h : taK L < L.length) : ∃ k, k < L.length ∧ (gE L k).1 = 0 := by
  refine Classical.byContradiction fun hn => ?_
  have : taK L = L.length := by
    unfold taK
    rw [List.filter_eq_self.2]
    intro y hy
    obtain ⟨k, hk, rfl⟩ := mem_gE hy
    have : (gE L k).1 ≠ 0 := fun e => hn ⟨k, hk, e⟩
    simp [this]
  omega
theorem taK_set {L : List En} {i : Nat} (e : En) (hi : i < L.length) : taK (L.set i e) + (if (gE L i).1 = 0 then 0 else 1) = taK L + (if e.1 = 0 then 0 else 1) := by
  unfold taK
  induction L generalizing i with
  | nil => simp at hi
  | cons x L ih =>
    cases i with
    | zero =>
      have e0 : gE (x :: L) 0 = x := rfl
      rw [e0, List.set_cons_zero, List.filter_cons, List.filter_cons]
      by_cases h1 : x.1 = 0 <;> by_cases h2 : e.1 = 0 <;> simp [h1, h2]
    | succ i =>
      have e0 : gE (x :: L) (i + 1) = gE L i := rfl
      have := ih (i := i) (by simpa using hi)
      rw [e0, List.set_cons_succ, List.filter_cons, List.filter_cons]
      by_cases h1 : x.1 = 0
      · simp only [h1, decide_true, Bool.not_true, Bool.false_eq_true, if_false]; exact this
      · simp only [h1, decide_false, Bool.not_false, if_true, List.length_cons]; omega
theorem taK_us (L : List En) : (L.filter usB).length ≤ taK L := by
  unfold taK
  have : L.filter usB = (L.filter fun x => !decide (x.1 = 0)).filter usB := by
    rw [List.filter_filter]
    congr 1
    funext x
    unfold usB
    by_cases h : x.1 = 1
    · simp [h]
    · simp [h]
  rw [this]
  exact List.length_filter_le _ _
/-- A lookup may be. -/
structure RiL (hs : List Int → Nat) (may : List Int → Bool) (L : List En) : Prop where
  pw : ∃ e, L.length = 8 * 2 ^ e
  ok : ∀ i, i < L.length → ((gE L i).1 = 0 ∨ (gE L i).1 = 2) ∧ (gE L i).2.1 = [] ∧ (gE L i).2.2 = 0 ∨ (gE L i).1 = 1 ∧ may (gE L i).2.1 = true ∧ 0 ≤ (gE L i).2.2
  la : Laid hs L
  dt : DT L
  q3 : 4 * taK L ≤ 3 * L.length
  mx : taK L ≤ 4000
theorem RiL.pos {hs : List Int → Nat} {may : List Int → Bool} {L : List En} (h : RiL hs may L) : 8 ≤ L.length := by
  obtain ⟨e, he⟩ := h.pw
  have := Nat.two_pow_pos e
  omega
theorem RiL.free {hs : List Int → Nat} {may : List Int → Bool} {L : List En} (h : RiL hs may L) : ∃ k, k < L.length ∧ (gE L k).1 = 0 :=
  taK_free (by have := h.q3; have := h.pos; omega)
/-- One more, in a slot that is not used and that its type comes to. -/
theorem RiL.put {hs : List Int → Nat} {may : List Int → Bool} {L : List En} (h : RiL hs may L) {i : Nat} {t : List Int} {n : Int} (hi : i < L.length) (hu : (gE L i).1 ≠ 1) (hm : Met hs L t i) (hn : ∀ y ∈ L, y.1 = 1 → y.2.1 ≠ t) (ht : may t = true) (h0 : 0 ≤ n)
    (hq : 4 * (taK L + if (gE L i).1 = 0 then 1 else 0) ≤ 3 * L.length) (hx : taK L + (if (gE L i).1 = 0 then 1 else 0) ≤ 4000) : RiL hs may (L.set i (1, t, n)) := by
  have hk := taK_set (1, t, n) hi
  have hk' : taK (L.set i (1, t, n)) = taK L + if (gE L i).1 = 0 then 1 else 0 := by
    simp only [show ((1 : Int) = 0) = False by simp, if_false] at hk
    split at hk <;> simp_all <;> omega
  refine ⟨by rw [List.length_set]; exact h.pw, fun k hk2 => ?_, put_laid hi h.la hm, put_dt hi h.dt hn, by rw [hk', List.length_set]; exact hq, by rw [hk']; exact hx⟩
  rw [List.length_set] at hk2
  by_cases h' : k = i
  · subst h'; rw [gE_set_same _ hi]; exact .inr ⟨rfl, ht, h0⟩
  · rw [gE_set_ne _ h']; exact h.ok k hk2
theorem RiL.drop {hs : List Int → Nat} {may : List Int → Bool} {L : List En} (h : RiL hs may L) {i : Nat} (hi : i < L.length) (hu : (gE L i).1 = 1) : RiL hs may (L.set i (2, [], 0)) := by
  have hk := taK_set (2, [], 0) hi
  have hk' : taK (L.set i (2, [], 0)) = taK L := by
    rw [hu] at hk; simp at hk; omega
  refine ⟨by rw [List.length_set]; exact h.pw, fun k hk2 => ?_, drop_laid hi h.la, drop_dt hi h.dt, by rw [hk', List.length_set]; exact h.q3, by rw [hk']; exact h.mx⟩
  rw [List.length_set] at hk2
  by_cases h' : k = i
  · subst h'; rw [gE_set_same _ hi]; exact .inl ⟨.inr rfl, rfl, rfl⟩
  · rw [gE_set_ne _ h']; exact h.ok k hk2
/-- Slots that are all free. -/
def frL (m : Nat) : List En := List.replicate m (0, [], 0)
theorem gE_fr (m k : Nat) : gE (frL m) k = (0, [], 0) := by
  unfold gE frL; rw [List.getD_eq_getElem?_getD, List.getElem?_replicate]; split <;> rfl
theorem taK_fr (m : Nat) : taK (frL m) = 0 := by unfold taK frL; simp
theorem ri_new {hs : List Int → Nat} {may : List Int → Bool} {m : Nat} (h : ∃ e, m = 8 * 2 ^ e) : RiL hs may (frL m) := by
  have hl : (frL m).length = m := by unfold frL; simp
  refine ⟨by rw [hl]; exact h, fun i _ => .inl ?_, fun i _ u => ?_, ?_, by rw [taK_fr]; omega, by rw [taK_fr]; omega⟩
  · rw [gE_fr]; exact ⟨.inl rfl, rfl, rfl⟩
  · rw [gE_fr] at u; simp at u
  · rw [dt_iff]; intro i k _ _ u; rw [gE_fr] at u; simp at u
end Go.Proofs.Ytjnhalomkmdcgaa
namespace Go.Proofs.Ytjnhalomkmdcgaa

variable {hs : List Int → Nat} {may : List Int → Bool}
/-- Which number of slots may be: the first of 8, 16, .. that is not below. -/
theorem pw_iff {len k : Nat} (h1 : len ≤ 8 * 2 ^ k) (h2 : ∀ j, j < k → 8 * 2 ^ j < len) : (∃ e, len = 8 * 2 ^ e) ↔ len = 8 * 2 ^ k := by
  constructor
  · rintro ⟨e, he⟩
    rcases Nat.lt_trichotomy e k with h | rfl | h
    · have := h2 e h; omega
    · exact he
    · have : 2 ^ k < 2 ^ e := Nat.pow_lt_pow_right (by omega) h
      omega
  · exact fun h => ⟨k, h⟩
/-- The document's Found, turn by turn. -/
theorem met_at {L : List En} {t : List Int} {i j : Nat} (hj : j < L.length) (ej : tuK (hs t) L.length j = i) (hf : ∀ k, k < j → (gE L (tuK (hs t) L.length k)).1 ≠ 0) : Met hs L t i := ⟨j, hj, ej, hf⟩
theorem met_not {L : List En} {t : List Int} {i j : Nat} (hz : (gE L (tuK (hs t) L.length j)).1 = 0) (hn : ∀ k, k ≤ j → tuK (hs t) L.length k ≠ i) : ¬ Met hs L t i := by
  rintro ⟨u, hu, eu, hf⟩
  by_cases h : u ≤ j
  · exact hn u h eu
  · exact hf j (by omega) hz
theorem met_some {L : List En} {t : List Int} {i : Nat} (hi : i < L.length) : ∃ j, j < L.length ∧ tuK (hs t) L.length j = i := tuK_surj hi
/-- From a type's first slot on there is a first free one, and it is come to. -/
theorem first_free {L : List En} (t : List Int) (h : ∃ k, k < L.length ∧ (gE L k).1 = 0) : ∃ j, j < L.length ∧ (gE L (tuK (hs t) L.length j)).1 = 0 ∧ ∀ k, k < j → (gE L (tuK (hs t) L.length k)).1 ≠ 0 := by
  obtain ⟨k0, hk0, hz⟩ := h
  obtain ⟨j0, hj0, e0⟩ := tuK_surj (h := hs t) hk0
  have key : ∀ n, (∃ j, j < L.length ∧ j ≤ n ∧ (gE L (tuK (hs t) L.length j)).1 = 0) → ∃ j, j < L.length ∧ (gE L (tuK (hs t) L.length j)).1 = 0 ∧ ∀ k, k < j → (gE L (tuK (hs t) L.length k)).1 ≠ 0 := by
    intro n
    induction n with
    | zero => rintro ⟨j, hj, hle, hz⟩; exact ⟨j, hj, hz, fun k hk => by omega⟩
    | succ n ih =>
      rintro ⟨j, hj, hle, hz⟩
      by_cases h' : ∃ j, j < L.length ∧ j ≤ n ∧ (gE L (tuK (hs t) L.length j)).1 = 0
      · exact ih h'
      · exact ⟨j, hj, hz, fun k hk e => h' ⟨k, by omega, by omega, e⟩⟩
  exact key j0 ⟨j0, hj0, Nat.le_refl _, by rw [e0]; exact hz⟩
/-- A type that no used slot has. -/
def NotIn (L : List En) (t : List Int) : Prop := ∀ y ∈ L, y.1 = 1 → y.2.1 ≠ t
theorem notIn_iff (L : List En) (t : List Int) : NotIn L t ↔ ∀ i, i < L.length → (gE L i).1 = 1 → (gE L i).2.1 ≠ t := by
  constructor
  · exact fun h i hi => h _ (gE_mem hi)
  · intro h y hy
    obtain ⟨k, hk, rfl⟩ := mem_gE hy
    exact h k hk
theorem in_or (L : List En) (t : List Int) : NotIn L t ∨ ∃ i, i < L.length ∧ (gE L i).1 = 1 ∧ (gE L i).2.1 = t := by
  by_cases h : ∃ i, i < L.length ∧ (gE L i).1 = 1 ∧ (gE L i).2.1 = t
  · exact .inr h
  · exact .inl ((notIn_iff L t).2 fun i hi u e => h ⟨i, hi, u, e⟩)
/-- The number of a type, by its slot. -/
theorem fi_some {cmp : List Int → List Int → Int} (hc : IsCmp cmp) {L : List En} (hd : DT L) {i : Nat} (hi : i < L.length) (hu : (gE L i).1 = 1) : fiL (alL cmp L) (gE L i).2.1 = (gE L i).2.2 :=
  fiL_of hc (alL_se hc hd) ((alL_mem L _).2 ⟨gE_mem hi, hu⟩)
theorem fi_none {cmp : List Int → List Int → Int} {L : List En} {t : List Int} (h : NotIn L t) : fiL (alL cmp L) t = -1 :=
  fiL_none (fun y hy => by obtain ⟨h1, h2⟩ := (alL_mem L y).1 hy; exact h y h1 h2)
/-- Slots laid anew: the used ones of the first k are laid into T. -/
structure LayI (hs : List Int → Nat) (may : List Int → Bool) (L : List En) (m k : Nat) (T : List En) : Prop where
  len : T.length = m
  ri : RiL hs may T
  ta : taK T = ((L.take k).filter usB).length
  mem : ∀ y, (y ∈ T ∧ y.1 = 1) ↔ (y ∈ L.take k ∧ y.1 = 1)
  st : ∀ i, i < T.length → (gE T i).1 = 0 ∨ (gE T i).1 = 1
theorem lay_new {L : List En} {m : Nat} (h : ∃ e, m = 8 * 2 ^ e) : LayI hs may L m 0 (frL m) := by
  refine ⟨by unfold frL; simp, ri_new h, by rw [taK_fr]; simp, fun y => ?_, fun i _ => by rw [gE_fr]; exact .inl rfl⟩
  simp only [List.take_zero, List.not_mem_nil, false_and, iff_false]
  rintro ⟨hy, u⟩
  obtain ⟨k, _, rfl⟩ := mem_gE hy
  rw [gE_fr] at u; simp at u
theorem take_succ_gE {L : List En} {k : Nat} (hk : k < L.length) : L.take (k + 1) = L.take k ++ [gE L k] := by
  rw [List.take_succ_eq_append_getElem hk, gE_eq hk]
theorem LayI.skip {L T : List En} {m k : Nat} (h : LayI hs may L m k T) (hk : k < L.length) (hu : (gE L k).1 ≠ 1) : LayI hs may L m (k + 1) T := by
  refine ⟨h.len, h.ri, ?_, fun y => ?_, h.st⟩
  · rw [h.ta, take_succ_gE hk, List.filter_append]; simp [usB, hu]
  · rw [h.mem, take_succ_gE hk]
    constructor
    · exact fun ⟨a, b⟩ => ⟨List.mem_append_left _ a, b⟩
    · rintro ⟨a, b⟩
      rcases List.mem_append.1 a with a | a
      · exact ⟨a, b⟩
      · rw [List.mem_singleton] at a; subst a; exact absurd b hu
theorem us_take (L : List En) (k : Nat) : ((L.take k).filter usB).length ≤ (L.filter usB).length := ((List.take_sublist k L).filter usB).length_le
theorem LayI.put {L T : List En} {m k i : Nat} (h : LayI hs may L m k T) (hr : RiL hs may L) (hk : k < L.length) (hu : (gE L k).1 = 1) (hm : L.length ≤ m) (hi : i < T.length) (hz : (gE T i).1 = 0) (hmet : Met hs T (gE L k).2.1 i) : LayI hs may L m (k + 1) (T.set i (gE L k)) := by
  obtain ⟨⟨s, t, n⟩, hg⟩ : ∃ x, gE L k = x := ⟨_, rfl⟩
  rw [hg] at hu hmet ⊢
  have hs1 : s = 1 := hu
  subst hs1
  have ht : may t = true ∧ 0 ≤ n := by
    rcases hr.ok k hk with ⟨h1, _⟩ | ⟨_, h2, h3⟩
    · rw [hg] at h1; simp at h1
    · rw [hg] at h2 h3; exact ⟨h2, h3⟩
  have hcnt : ((L.take (k + 1)).filter usB).length = ((L.take k).filter usB).length + 1 := by
    rw [take_succ_gE hk, List.filter_append, hg]; simp [usB]
  have hle := us_take L (k + 1)
  have hle2 := taK_us L
  have h3 := hr.q3
  have h4 := hr.mx
  have hn : ∀ y ∈ T, y.1 = 1 → y.2.1 ≠ t := by
    intro y hy u e
    obtain ⟨a, b⟩ := (h.mem y).1 ⟨hy, u⟩
    obtain ⟨j, hj, ej⟩ := List.getElem_of_mem a
    have hjk : j < k := by simp at hj; omega
    have hjL : j < L.length := by omega
    have e1 : gE L j = y := by rw [gE_eq hjL, ← ej]; simp
    have := (dt_iff L).1 hr.dt j k hjL hk (by rw [e1]; exact b) (by rw [hg]) (by rw [e1, hg]; exact e)
    omega
  have hne : (gE T i).1 ≠ 1 := by rw [hz]; omega
  have htk := h.ta
  have htaS : taK (T.set i (1, t, n)) = taK T + 1 := by
    have := taK_set (1, t, n) hi
    rw [hz] at this; simp at this; omega
  refine ⟨by rw [List.length_set]; exact h.len, h.ri.put hi hne hmet hn ht.1 ht.2 ?_ ?_, ?_, fun y => ?_, fun j hj => ?_⟩
  · rw [hz, if_pos rfl, h.len]; omega
  · rw [hz, if_pos rfl]; omega
  · rw [htaS, hcnt, htk]
  · rw [put_mem hi hne, h.mem, take_succ_gE hk, hg]
    constructor
    · rintro (rfl | ⟨a, b⟩)
      · exact ⟨by simp, rfl⟩
      · exact ⟨List.mem_append_left _ a, b⟩
    · rintro ⟨a, b⟩
      rcases List.mem_append.1 a with a | a
      · exact .inr ⟨a, b⟩
      · rw [List.mem_singleton] at a; exact .inl a
  · rw [List.length_set] at hj
    by_cases h' : j = i
    · subst h'; rw [gE_set_same _ hi]; exact .inr rfl
    · rw [gE_set_ne _ h']; exact h.st j hj
theorem LayI.done {cmp : List Int → List Int → Int} (hc : IsCmp cmp) {L T : List En} {m : Nat} (h : LayI hs may L m L.length T) (hr : RiL hs may L) : alL cmp T = alL cmp L ∧ taK T = (L.filter usB).length := by
  have hm := h.mem
  have ht := h.ta
  rw [List.take_length] at hm ht
  exact ⟨alL_same hc hr.dt h.ri.dt hm, ht⟩
end Go.Proofs.Ytjnhalomkmdcgaa
