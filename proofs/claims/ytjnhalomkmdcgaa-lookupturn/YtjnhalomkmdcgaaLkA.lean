/- Plain mathematics of lookups (stage 7), 1: entries in order of their types. Imports nothing of a program. -/
import Derived.WalkKit
namespace Go.Proofs.Ytjnhalomkmdcgaa

/-- A slot: its state, its type, its number. -/
abbrev En := Int × List Int × Int
/-- How types stand. -/
structure IsCmp (cmp : List Int → List Int → Int) : Prop where
  eq : ∀ a b, cmp a b = 0 ↔ a = b
  as : ∀ a b, cmp a b < 0 ↔ 0 < cmp b a
  tr : ∀ a b c, cmp a b < 0 → cmp b c < 0 → cmp a c < 0
variable {cmp : List Int → List Int → Int}
theorem IsCmp.ge (h : IsCmp cmp) {a b : List Int} (hne : a ≠ b) (hn : ¬ cmp a b < 0) : cmp b a < 0 := by
  have h1 : cmp a b ≠ 0 := fun e => hne ((h.eq a b).1 e)
  exact (h.as b a).2 (by omega)
theorem IsCmp.irr (h : IsCmp cmp) (a : List Int) : ¬ cmp a a < 0 := by have := (h.eq a a).2 rfl; omega
theorem IsCmp.ne (h : IsCmp cmp) {a b : List Int} (hl : cmp a b < 0) : a ≠ b := by rintro rfl; exact h.irr a hl
/-- One more, in order. -/
def wiL (cmp : List Int → List Int → Int) : List En → En → List En
  | [], x => [x]
  | y :: l, x => if cmp x.2.1 y.2.1 < 0 then x :: y :: l else y :: wiL cmp l x
theorem wiL_mem (l : List En) (x y : En) : y ∈ wiL cmp l x ↔ y = x ∨ y ∈ l := by
  induction l with
  | nil => simp [wiL]
  | cons z l ih =>
    unfold wiL
    split
    · simp
    · rw [List.mem_cons, ih, List.mem_cons]
      constructor
      · rintro (h | h | h) <;> simp [h]
      · rintro (h | h | h) <;> simp [h]
theorem wiL_len (l : List En) (x : En) : (wiL cmp l x).length = l.length + 1 := by
  induction l with
  | nil => rfl
  | cons z l ih =>
    unfold wiL
    split
    · rfl
    · rw [List.length_cons, ih]; rfl
/-- In order of their types, no two of which are one. -/
def SE (cmp : List Int → List Int → Int) (l : List En) : Prop := l.Pairwise fun a b => cmp a.2.1 b.2.1 < 0
theorem wiL_se (h : IsCmp cmp) {l : List En} (x : En) (hs : SE cmp l) (hx : ∀ y ∈ l, y.2.1 ≠ x.2.1) : SE cmp (wiL cmp l x) := by
  induction l with
  | nil => simp [wiL, SE]
  | cons z l ih =>
    obtain ⟨h1, h2⟩ := List.pairwise_cons.1 hs
    unfold wiL
    split
    · rename_i hlt
      refine List.pairwise_cons.2 ⟨fun y hy => ?_, hs⟩
      rcases List.mem_cons.1 hy with rfl | hy
      · exact hlt
      · exact h.tr _ _ _ hlt (h1 y hy)
    · rename_i hge
      refine List.pairwise_cons.2 ⟨fun y hy => ?_, ih h2 (fun y hy => hx y (List.mem_cons_of_mem _ hy))⟩
      rcases (wiL_mem l x y).1 hy with rfl | hy
      · exact h.ge (fun e => hx z (by simp) e.symm) hge
      · exact h1 y hy
theorem se_ext (h : IsCmp cmp) : ∀ {a b : List En}, SE cmp a → SE cmp b → (∀ y, y ∈ a ↔ y ∈ b) → a = b
  | [], [], _, _, _ => rfl
  | [], y :: b, _, _, hm => by have := (hm y).2 (by simp); simp at this
  | x :: a, [], _, _, hm => by have := (hm x).1 (by simp); simp at this
  | x :: a, y :: b, ha, hb, hm => by
    obtain ⟨a1, a2⟩ := List.pairwise_cons.1 ha
    obtain ⟨b1, b2⟩ := List.pairwise_cons.1 hb
    have e : x = y := by
      rcases List.mem_cons.1 ((hm x).1 (by simp)) with e | hx
      · exact e
      · rcases List.mem_cons.1 ((hm y).2 (by simp)) with e | hy
        · exact e.symm
        · exact absurd (h.tr _ _ _ (a1 y hy) (b1 x hx)) (h.irr _)
    subst e
    have : a = b := se_ext h a2 b2 (fun z => by
      constructor
      · intro hz
        rcases List.mem_cons.1 ((hm z).1 (List.mem_cons_of_mem _ hz)) with rfl | h'
        · exact absurd (a1 z hz) (h.irr _)
        · exact h'
      · intro hz
        rcases List.mem_cons.1 ((hm z).2 (List.mem_cons_of_mem _ hz)) with rfl | h'
        · exact absurd (b1 z hz) (h.irr _)
        · exact h')
    rw [this]
/-- Of two entries of such a row whose types are one, they are one. -/
theorem se_one (h : IsCmp cmp) {l : List En} (hs : SE cmp l) {x y : En} (hx : x ∈ l) (hy : y ∈ l) (e : x.2.1 = y.2.1) : x = y := by
  induction l with
  | nil => simp at hx
  | cons z l ih =>
    obtain ⟨h1, h2⟩ := List.pairwise_cons.1 hs
    rcases List.mem_cons.1 hx with rfl | hx'
    · rcases List.mem_cons.1 hy with hy' | hy'
      · exact hy'.symm
      · exact absurd e (h.ne (h1 y hy'))
    · rcases List.mem_cons.1 hy with rfl | hy'
      · exact absurd e.symm (h.ne (h1 x hx'))
      · exact ih h2 hx' hy'
/-- Without a type. -/
def woL (l : List En) (t : List Int) : List En := l.filter fun x => !decide (x.2.1 = t)
theorem woL_mem (l : List En) (t : List Int) (y : En) : y ∈ woL l t ↔ y ∈ l ∧ y.2.1 ≠ t := by unfold woL; simp
theorem woL_se {l : List En} (t : List Int) (hs : SE cmp l) : SE cmp (woL l t) := hs.filter _
/-- Put, and dropped. -/
theorem woL_wiL (h : IsCmp cmp) {l : List En} (x : En) (hs : SE cmp l) (hx : ∀ y ∈ l, y.2.1 ≠ x.2.1) : woL (wiL cmp l x) x.2.1 = l := by
  refine se_ext h (woL_se _ (wiL_se h x hs hx)) hs (fun y => ?_)
  rw [woL_mem, wiL_mem]
  constructor
  · rintro ⟨rfl | hy, hne⟩
    · exact absurd rfl hne
    · exact hy
  · exact fun hy => ⟨.inr hy, hx y hy⟩
/-- In whatever order two are put. -/
theorem wiL_comm (h : IsCmp cmp) {l : List En} (x z : En) (hs : SE cmp l) (hx : ∀ y ∈ l, y.2.1 ≠ x.2.1) (hz : ∀ y ∈ l, y.2.1 ≠ z.2.1) (hxz : x.2.1 ≠ z.2.1) : wiL cmp (wiL cmp l x) z = wiL cmp (wiL cmp l z) x := by
  refine se_ext h (wiL_se h z (wiL_se h x hs hx) (fun y hy => ?_)) (wiL_se h x (wiL_se h z hs hz) (fun y hy => ?_)) (fun y => ?_)
  · rcases (wiL_mem l x y).1 hy with rfl | hy
    · exact hxz
    · exact hz y hy
  · rcases (wiL_mem l z y).1 hy with rfl | hy
    · exact fun e => hxz e.symm
    · exact hx y hy
  · simp only [wiL_mem]
    constructor
    · rintro (h | h | h) <;> simp [h]
    · rintro (h | h | h) <;> simp [h]
/-- The number of a type; -1: none. -/
def fiL : List En → List Int → Int
  | [], _ => -1
  | x :: l, t => if x.2.1 = t then x.2.2 else fiL l t
theorem fiL_of (h : IsCmp cmp) {l : List En} (hs : SE cmp l) {x : En} (hx : x ∈ l) : fiL l x.2.1 = x.2.2 := by
  induction l with
  | nil => simp at hx
  | cons z l ih =>
    obtain ⟨h1, h2⟩ := List.pairwise_cons.1 hs
    unfold fiL
    rcases List.mem_cons.1 hx with rfl | hx
    · rw [if_pos rfl]
    · rw [if_neg (h.ne (h1 x hx))]; exact ih h2 hx
theorem fiL_none {l : List En} {t : List Int} (hx : ∀ y ∈ l, y.2.1 ≠ t) : fiL l t = -1 := by
  induction l with
  | nil => rfl
  | cons z l ih => unfold fiL; rw [if_neg (hx z (by simp))]; exact ih (fun y hy => hx y (List.mem_cons_of_mem _ hy))
/-- The used entries of a lookup, in order. -/
def usB (x : En) : Bool := decide (x.1 = 1)
def alL (cmp : List Int → List Int → Int) (L : List En) : List En := (L.filter usB).foldl (wiL cmp) []
theorem fold_mem (l acc : List En) (y : En) : y ∈ l.foldl (wiL cmp) acc ↔ y ∈ l ∨ y ∈ acc := by
  induction l generalizing acc with
  | nil => simp
  | cons z l ih =>
    rw [List.foldl_cons, ih, wiL_mem, List.mem_cons]
    constructor
    · rintro (h | h | h) <;> simp [h]
    · rintro ((h | h) | h) <;> simp [h]
theorem fold_len (l acc : List En) : (l.foldl (wiL cmp) acc).length = l.length + acc.length := by
  induction l generalizing acc with
  | nil => simp
  | cons z l ih => rw [List.foldl_cons, ih, wiL_len, List.length_cons]; omega
theorem fold_se (h : IsCmp cmp) {l acc : List En} (hs : SE cmp acc) (hd : l.Pairwise fun a b => a.2.1 ≠ b.2.1) (hx : ∀ y ∈ acc, ∀ z ∈ l, y.2.1 ≠ z.2.1) : SE cmp (l.foldl (wiL cmp) acc) := by
  induction l generalizing acc with
  | nil => exact hs
  | cons z l ih =>
    obtain ⟨h1, h2⟩ := List.pairwise_cons.1 hd
    rw [List.foldl_cons]
    refine ih (wiL_se h z hs (fun y hy => hx y hy z (by simp))) h2 (fun y hy u hu => ?_)
    rcases (wiL_mem acc z y).1 hy with rfl | hy
    · exact h1 u hu
    · exact hx y hy u (List.mem_cons_of_mem _ hu)
/-- No two used slots have one type. -/
def DT (L : List En) : Prop := (L.filter usB).Pairwise fun a b => a.2.1 ≠ b.2.1
theorem alL_mem (L : List En) (y : En) : y ∈ alL cmp L ↔ y ∈ L ∧ y.1 = 1 := by unfold alL; rw [fold_mem]; simp [usB]
theorem alL_len (L : List En) : (alL cmp L).length = (L.filter usB).length := by unfold alL; rw [fold_len]; simp
theorem alL_se (h : IsCmp cmp) {L : List En} (hd : DT L) : SE cmp (alL cmp L) := fold_se h List.Pairwise.nil hd (by simp)
/-- What a lookup says, one more being used; one being used no more. -/
theorem alL_put (h : IsCmp cmp) {L L' : List En} {e : En} (hd : DT L) (hd' : DT L') (he : ∀ y ∈ L, y.1 = 1 → y.2.1 ≠ e.2.1) (hm : ∀ y, (y ∈ L' ∧ y.1 = 1) ↔ y = e ∨ (y ∈ L ∧ y.1 = 1)) : alL cmp L' = wiL cmp (alL cmp L) e := by
  refine se_ext h (alL_se h hd') (wiL_se h e (alL_se h hd) (fun y hy => ?_)) (fun y => ?_)
  · obtain ⟨h1, h2⟩ := (alL_mem L y).1 hy; exact he y h1 h2
  · rw [alL_mem, wiL_mem, alL_mem, hm]
theorem alL_drop (h : IsCmp cmp) {L L' : List En} {t : List Int} (hd : DT L) (hd' : DT L') (hm : ∀ y, (y ∈ L' ∧ y.1 = 1) ↔ (y ∈ L ∧ y.1 = 1) ∧ y.2.1 ≠ t) : alL cmp L' = woL (alL cmp L) t := by
  refine se_ext h (alL_se h hd') (woL_se t (alL_se h hd)) (fun y => ?_)
  rw [alL_mem, woL_mem, alL_mem, hm]
theorem alL_same (h : IsCmp cmp) {L L' : List En} (hd : DT L) (hd' : DT L') (hm : ∀ y, (y ∈ L' ∧ y.1 = 1) ↔ (y ∈ L ∧ y.1 = 1)) : alL cmp L' = alL cmp L := by
  refine se_ext h (alL_se h hd') (alL_se h hd) (fun y => ?_)
  rw [alL_mem, alL_mem, hm]
end Go.Proofs.Ytjnhalomkmdcgaa
