/- Plain mathematics of columns: a row of words as rows of one width; one row more, less, set, swapped out; rows in order. -/
import Derived.WalkKit


namespace Go.Proofs.Ytkbikngkhaeakaa

section
variable {α : Type}
/-- The rows of so many words, each of width W. -/
def chK (W R : Nat) (l : List α) : List (List α) := (List.range R).map fun i => (l.drop (i * W)).take W
theorem chK_len (W R : Nat) (l : List α) : (chK W R l).length = R := by simp [chK]
theorem chK_at (W : Nat) {R k : Nat} (l : List α) (h : k < R) : (chK W R l)[k]'(by simp [chK]; exact h) = (l.drop (k * W)).take W := by simp [chK]
theorem chK_succ (W R : Nat) (l : List α) : chK W (R + 1) l = chK W R l ++ [(l.drop (R * W)).take W] := by
  unfold chK; rw [List.range_succ, List.map_append]; rfl
theorem chK_row {W R k : Nat} {l : List α} (hl : l.length = W * R) (h : k < R) : ((l.drop (k * W)).take W).length = W := by
  have h1 : k * W + W ≤ R * W := by
    have := Nat.mul_le_mul_right W (show k + 1 ≤ R by omega)
    rw [Nat.succ_mul] at this; exact this
  rw [List.length_take, List.length_drop, hl, Nat.mul_comm W R]
  omega
theorem chK_mem {W R : Nat} {l : List α} (hl : l.length = W * R) {r : List α} (h : r ∈ chK W R l) : r.length = W := by
  obtain ⟨k, hk, rfl⟩ := List.mem_map.1 h
  exact chK_row hl (by simpa using hk)
theorem flat_len {W : Nat} {rows : List (List α)} (h : ∀ r ∈ rows, r.length = W) : rows.flatten.length = W * rows.length := by
  induction rows with
  | nil => simp
  | cons r rows ih =>
    rw [List.flatten_cons, List.length_append, ih (fun x hx => h x (by simp [hx])), h r (by simp), List.length_cons, Nat.mul_succ]; omega
theorem flat_chK {W : Nat} : ∀ {R : Nat} {l : List α}, l.length = W * R → (chK W R l).flatten = l
  | 0, l, h => by
    have : l = [] := List.eq_nil_of_length_eq_zero (by omega)
    subst this; rfl
  | R + 1, l, h => by
    have hl : (l.take (R * W)).length = W * R := by
      rw [List.length_take, h, Nat.mul_comm R W, Nat.mul_succ]; omega
    have e : chK W R l = chK W R (l.take (R * W)) := by
      unfold chK
      apply List.map_congr_left
      intro i hi
      have hi' : i < R := by simpa using hi
      have h1 : i * W + W ≤ R * W := by
        have := Nat.mul_le_mul_right W (show i + 1 ≤ R by omega)
        rw [Nat.succ_mul] at this; exact this
      rw [List.drop_take, List.take_take, Nat.min_eq_left (by omega)]
    rw [chK_succ, List.flatten_append, e, flat_chK hl]
    simp only [List.flatten_cons, List.flatten_nil, List.append_nil]
    rw [List.take_of_length_le (l := l.drop (R * W)) (by rw [List.length_drop, h, Nat.mul_succ, Nat.mul_comm R W]; omega), List.take_append_drop]
theorem flat_inj {W : Nat} : ∀ {a b : List (List α)}, (∀ r ∈ a, r.length = W) → (∀ r ∈ b, r.length = W) → a.length = b.length → a.flatten = b.flatten → a = b
  | [], [], _, _, _, _ => rfl
  | [], y :: b, _, _, h, _ => by simp at h
  | x :: a, [], _, _, h, _ => by simp at h
  | x :: a, y :: b, ha, hb, h, e => by
    rw [List.flatten_cons, List.flatten_cons] at e
    have h1 : x.length = y.length := by rw [ha x (by simp), hb y (by simp)]
    obtain ⟨e1, e2⟩ := List.append_inj e h1
    rw [e1, flat_inj (fun r hr => ha r (by simp [hr])) (fun r hr => hb r (by simp [hr])) (by simpa using h) e2]
/-- Rows, as words and back. -/
theorem chK_flat {W : Nat} {rows : List (List α)} (h : ∀ r ∈ rows, r.length = W) : chK W rows.length rows.flatten = rows := by
  have hl := flat_len h
  exact flat_inj (fun r hr => chK_mem hl hr) h (chK_len _ _ _) (flat_chK hl)
/-- Rows pushed. -/
theorem chK_push {W R : Nat} {l : List α} (hl : l.length = W * R) {vs : List (List α)} (hv : ∀ r ∈ vs, r.length = W) : chK W (R + vs.length) (l ++ vs.flatten) = chK W R l ++ vs := by
  have h1 := chK_flat (W := W) (rows := chK W R l ++ vs) (fun r hr => by
    rcases List.mem_append.1 hr with hr | hr
    · exact chK_mem hl hr
    · exact hv r hr)
  rw [List.length_append, chK_len, List.flatten_append, flat_chK hl] at h1
  exact h1
theorem flat_take {W : Nat} {rows : List (List α)} (h : ∀ r ∈ rows, r.length = W) {k : Nat} (hk : k ≤ rows.length) : (rows.take k).flatten = rows.flatten.take (k * W) := by
  have h1 : (rows.take k).flatten.length = k * W := by
    rw [flat_len (fun r hr => h r (List.mem_of_mem_take hr)), List.length_take, Nat.min_eq_left hk, Nat.mul_comm]
  have h2 : rows.flatten = (rows.take k).flatten ++ (rows.drop k).flatten := by rw [← List.flatten_append, List.take_append_drop]
  rw [h2, List.take_left' h1]
theorem flat_drop {W : Nat} {rows : List (List α)} (h : ∀ r ∈ rows, r.length = W) {k : Nat} (hk : k ≤ rows.length) : (rows.drop k).flatten = rows.flatten.drop (k * W) := by
  have h1 : (rows.take k).flatten.length = k * W := by
    rw [flat_len (fun r hr => h r (List.mem_of_mem_take hr)), List.length_take, Nat.min_eq_left hk, Nat.mul_comm]
  have h2 : rows.flatten = (rows.take k).flatten ++ (rows.drop k).flatten := by rw [← List.flatten_append, List.take_append_drop]
  rw [h2, List.drop_left' h1]
/-- A row set: its words. -/
theorem flat_set {W : Nat} {rows : List (List α)} (h : ∀ r ∈ rows, r.length = W) {k : Nat} (hk : k < rows.length) (v : List α) : (rows.set k v).flatten = rows.flatten.take (k * W) ++ v ++ rows.flatten.drop ((k + 1) * W) := by
  rw [List.set_eq_take_append_cons_drop, if_pos hk, List.flatten_append, List.flatten_cons, flat_take h (by omega), flat_drop h (by omega), List.append_assoc]
/-- A row swapped out: the last one stands in its place. -/
def swO (rows : List (List α)) (k : Nat) : List (List α) := (rows.set k (rows.getLast?.getD [])).dropLast
theorem swO_len (rows : List (List α)) (k : Nat) : (swO rows k).length = rows.length - 1 := by simp [swO]
theorem getLast_get {rows : List (List α)} (h : 0 < rows.length) : rows.getLast?.getD [] = rows[rows.length - 1]'(by omega) := by
  rw [List.getLast?_eq_getElem?, List.getElem?_eq_getElem (by omega)]; rfl
theorem swO_at {rows : List (List α)} {k i : Nat} (hi : i < rows.length - 1) : (swO rows k)[i]'(by rw [swO_len]; exact hi) = if i = k then rows[rows.length - 1]'(by omega) else rows[i]'(by omega) := by
  unfold swO
  rw [List.getElem_dropLast, List.getElem_set]
  by_cases e : k = i
  · subst e; rw [if_pos rfl, if_pos rfl, getLast_get (by omega)]
  · rw [if_neg e, if_neg (fun h => e h.symm)]
theorem swO_mem {W : Nat} {rows : List (List α)} (h : ∀ r ∈ rows, r.length = W) {k : Nat} (hk : k < rows.length) : ∀ r ∈ swO rows k, r.length = W := by
  intro r hr
  have h1 := (List.dropLast_sublist _).subset hr
  rcases List.mem_or_eq_of_mem_set h1 with h2 | h2
  · exact h r h2
  · rw [h2, getLast_get (by omega)]; exact h _ (List.getElem_mem _)
/-- Pushed, and swapped out at once. -/
theorem swO_push (rows : List (List α)) (v : List α) : swO (rows ++ [v]) rows.length = rows := by
  apply List.ext_getElem
  · rw [swO_len]; simp
  · intro i h1 h2
    rw [swO_at (by simpa using h2), if_neg (by omega), List.getElem_append_left (by omega)]
theorem swO_last {rows : List (List α)} : swO rows (rows.length - 1) = rows.dropLast := by
  apply List.ext_getElem
  · rw [swO_len, List.length_dropLast]
  · intro i h1 h2
    have h3 : i < rows.length - 1 := by simpa using h2
    rw [swO_at h3, if_neg (by omega), List.getElem_dropLast]
/-- What is left, and what went, are all of them. -/
theorem swO_perm {rows : List (List α)} {k : Nat} (hk : k < rows.length) : (swO rows k ++ [rows[k]]).Perm rows := by
  by_cases e : k = rows.length - 1
  · subst e
    rw [swO_last]
    have h0 : rows ≠ [] := fun h => by subst h; simp at hk
    have : rows[rows.length - 1] = rows.getLast h0 := (List.getLast_eq_getElem h0).symm
    rw [this, List.dropLast_concat_getLast h0]
  · -- rows = A ++ [x] ++ B ++ [z]; what is left: A ++ [z] ++ B
    have h0 : rows ≠ [] := fun h => by subst h; simp at hk
    have hz : rows.getLast?.getD [] = rows.getLast h0 := by rw [List.getLast?_eq_some_getLast h0]; rfl
    obtain ⟨D, z, rfl⟩ : ∃ D z, rows = D ++ [z] := ⟨_, _, (List.dropLast_concat_getLast h0).symm⟩
    have hkD : k < D.length := by simp at hk e; omega
    have e1 : swO (D ++ [z]) k = D.set k z := by
      unfold swO
      rw [hz, List.getLast_concat, List.set_append_left _ _ hkD, List.dropLast_concat]
    rw [e1, List.getElem_append_left hkD, List.set_eq_take_append_cons_drop, if_pos hkD]
    have e2 : D = D.take k ++ D[k] :: D.drop (k + 1) := by
      rw [← List.drop_eq_getElem_cons hkD, List.take_append_drop]
    have e3 : (D.take k ++ z :: D.drop (k + 1) ++ [D[k]]).Perm (D.take k ++ D[k] :: D.drop (k + 1) ++ [z]) := by
      rw [List.append_assoc, List.append_assoc]
      refine List.Perm.append_left _ ?_
      rw [List.cons_append, List.cons_append]
      refine ((List.perm_append_singleton D[k] (D.drop (k + 1))).cons z).trans ?_
      refine (List.Perm.swap D[k] z _).trans ?_
      exact ((List.perm_append_singleton z (D.drop (k + 1))).symm).cons D[k]
    exact e3.trans (by rw [← e2])
theorem set_back {rows : List (List α)} {k : Nat} (hk : k < rows.length) (v : List α) : (rows.set k v).set k rows[k] = rows := by
  rw [List.set_set]; simp
end

/-- Rows in order: none stands ahead of one that is less. -/
theorem sorted_perm_eq {α : Type} {lt : α → α → Prop} (tot : ∀ a b, ¬ lt a b → ¬ lt b a → a = b) (asy : ∀ a b, lt a b → ¬ lt b a) (tr : ∀ a b c, ¬ lt b a → ¬ lt c b → ¬ lt c a) : ∀ {a b : List α}, a.Pairwise (fun x y => ¬ lt y x) → b.Pairwise (fun x y => ¬ lt y x) → a.Perm b → a = b
  | [], b, _, _, h => by rw [List.nil_perm] at h; exact h.symm
  | x :: a, [], _, _, h => by have := h.length_eq; simp at this
  | x :: a, y :: b, ha, hb, h => by
    rw [List.pairwise_cons] at ha hb
    have hxy : x = y := by
      have h1 : x ∈ y :: b := h.mem_iff.1 (by simp)
      have h2 : y ∈ x :: a := h.mem_iff.2 (by simp)
      by_cases e : x = y
      · exact e
      · refine tot x y ?_ ?_
        · have h3 : x ∈ b := by
            rcases List.mem_cons.1 h1 with h3 | h3
            · exact absurd h3 e
            · exact h3
          exact hb.1 x h3
        · have h3 : y ∈ a := by
            rcases List.mem_cons.1 h2 with h3 | h3
            · exact absurd h3.symm e
            · exact h3
          exact ha.1 y h3
    subst hxy
    rw [sorted_perm_eq tot asy tr ha.2 hb.2 h.cons_inv]
end Go.Proofs.Ytkbikngkhaeakaa
