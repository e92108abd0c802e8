/- Plain mathematics of AllocLives: how many are alive behind Take and Give, which index is used how often, and who was met. -/
import Derived.Test.YtaglhajlgnjhcaaDoorGvM
import Derived.Test.YtaglhajlgnjhcaaDoorAlX
namespace Go.Proofs.YtaglhajlgnjhcaaDoor

theorem liv_same {l l' : List (Int × Bool)} {n : Nat} (h : ∀ k, k < n → sA l k = sA l' k) : (livN l n).length = (livN l' n).length := by
  induction n with
  | zero => rfl
  | succ n ih =>
    unfold livN
    rw [List.length_append, List.length_append, ih (fun k hk => h k (by omega)), h n (by omega)]
    cases sA l' n <;> rfl
/-- Where one more is alive, there is one more in the row of all. -/
theorem liv_one {l l' : List (Int × Bool)} {j n : Nat} (hj : j < n) (ho : ∀ k, k < n → k ≠ j → sA l k = sA l' k) (h1 : sA l j = false) (h2 : sA l' j = true) : (livN l' n).length = (livN l n).length + 1 := by
  induction n with
  | zero => omega
  | succ n ih =>
    unfold livN
    rw [List.length_append, List.length_append]
    by_cases e : j = n
    · subst e
      rw [liv_same (l := l') (l' := l) (fun k hk => (ho k (by omega) (by omega)).symm), h1, h2]; rfl
    · rw [ih (by omega) (fun k hk hne => ho k (by omega) hne), ho n (by omega) (fun h => e h.symm)]
      cases sA l' n <;> simp

/-- How often each index was used, and who was met. -/
structure LInv (l : List (Int × Bool)) (u : Int → Int) (t : Int → Bool) : Prop where
  hu : ∀ j : Nat, 2 ≤ j → j < l.length → u ((j : Int) + 1) = sG l j + 1
  hz : ∀ j : Nat, l.length ≤ j → u ((j : Int) + 1) = 0
  hm : ∀ x, t x = true → ∃ (j : Nat) (g : Int), x = g * 4294967296 + ((j : Int) + 1) ∧ j < l.length ∧ g ≤ sG l j
  hn : 2 ≤ l.length
  hb : (l.length : Int) ≤ 1048578
theorem linv_new : LInv L2 (fun _ => 0) (fun _ => false) := ⟨fun j h1 h2 => by simp [L2] at h2; omega, fun _ _ => rfl, fun x h => by simp at h, by simp [L2], by simp [L2]⟩
theorem LInv.like {l l' : List (Int × Bool)} {u : Int → Int} {t : Int → Bool} (h : LInv l u t) (hn : l'.length = l.length) (hg : ∀ k, k < l.length → sG l' k = sG l k) : LInv l' u t :=
  ⟨fun j h1 h2 => by rw [hg j (by omega)]; exact h.hu j h1 (by omega), fun j h1 => h.hz j (by omega), fun x hx => by
    obtain ⟨j, g, e, hj, h1⟩ := h.hm x hx
    exact ⟨j, g, e, by omega, by rw [hg j hj]; exact h1⟩, by have := h.hn; omega, by have := h.hb; omega⟩

/-- One more is used, and met. -/
def uPut (u : Int → Int) (i : Int) : Int → Int := fun y => if y = i then u i + 1 else u y
def tPut (t : Int → Bool) (x : Int) : Int → Bool := fun y => if y = x then true else t y
theorem LInv.step {l l' : List (Int × Bool)} {u : Int → Int} {t : Int → Bool} (h : LInv l u t) {j : Nat} {x : Int} (hj2 : 2 ≤ j) (hjl : j < l'.length) (hjb : (l'.length : Int) ≤ 1048578) (hl : l'.length = l.length ∨ l'.length = l.length + 1 ∧ j = l.length) (ho : ∀ k, k < l.length → k ≠ j → sG l' k = sG l k) (hg : sG l' j = u ((j : Int) + 1)) (hgl : j < l.length → sG l j < sG l' j) (hx : x = sG l' j * 4294967296 + ((j : Int) + 1)) :
    x % 4294967296 = (j : Int) + 1 ∧ t x = false ∧ LInv l' (uPut u ((j : Int) + 1)) (tPut t x) := by
  refine ⟨by omega, ?_, fun k k1 k2 => ?_, fun k k1 => ?_, fun y hy => ?_, by have := h.hn; omega, hjb⟩
  · rw [Bool.eq_false_iff]; intro ht
    obtain ⟨j', g, e, hj', hg'⟩ := h.hm x ht
    by_cases e1 : j' = j
    · subst e1
      have := hgl hj'
      omega
    · have := h.hb
      omega
  · unfold uPut
    by_cases e : k = j
    · subst e; rw [if_pos rfl, hg]
    · rw [if_neg (by omega), ho k (by omega) e]; exact h.hu k k1 (by omega)
  · unfold uPut
    rw [if_neg (by omega)]; exact h.hz k (by omega)
  · unfold tPut at hy
    by_cases e : y = x
    · exact ⟨j, sG l' j, by rw [e, hx], hjl, Int.le_refl _⟩
    · rw [if_neg e] at hy
      obtain ⟨j', g, e1, hj', hg'⟩ := h.hm y hy
      refine ⟨j', g, e1, by omega, ?_⟩
      by_cases e2 : j' = j
      · subst e2; have := hgl hj'; omega
      · rw [ho j' hj' e2]; exact hg'
theorem LInv.take {m : Int} {l l' : List (Int × Bool)} {f f' : List Int} {x : Int} {u : Int → Int} {t : Int → Bool} (h : LInv l u t) (hm : mayB m l f = true) (hN : Nxt m l f l' f' x) :
    (0 ≤ x % 4294967296 ∧ x % 4294967296 < 4294967296) ∧ t x = false ∧ (0 ≤ u (x % 4294967296) ∧ u (x % 4294967296) ≤ 7) ∧ LInv l' (uPut u (x % 4294967296)) (tPut t x) ∧ (livN l' l'.length).length = (livN l l.length).length + 1 := by
  have hm' := hN.may hm
  obtain ⟨m1, m2, m3, m4⟩ := mayB_most hm
  obtain ⟨n1, n2, n3, n4⟩ := mayB_most hm'
  rcases hN with ⟨k, j, hf, hi, hj, hu, rfl, rfl, rfl⟩ | ⟨hf, hl, rfl, rfl, rfl⟩
  · obtain ⟨t1, t2, t3⟩ := mayB_two hm hj hu
    have g0 := (mayB_slot hm j hj).1
    have he := (ent_parts (i := (j : Int) + 1) (g := sG l j + 1) (by omega) (by omega) (by omega) (by omega)).1
    have e1 : sG (l.set j (sG l j + 1, true)) j = sG l j + 1 := by rw [(sG_set l j j _ hj).1, if_pos rfl]
    have e2 := h.hu j t1 hj
    obtain ⟨a1, a2, a3⟩ := h.step (l' := l.set j (sG l j + 1, true)) (j := j) (x := entV ((j : Int) + 1) (sG l j + 1)) t1 (by simpa using hj) (by omega) (.inl (by simp)) (fun k hk hne => by rw [(sG_set l j k _ hj).1, if_neg hne]) (by rw [e1, e2]) (fun _ => by rw [e1]; omega) (by rw [he, e1])
    rw [a1]
    refine ⟨by omega, a2, by rw [e2]; omega, a3, ?_⟩
    have e3 : (l.set j (sG l j + 1, true)).length = l.length := by simp
    rw [e3]
    exact liv_one hj (fun k hk hne => by rw [(sG_set l j k _ hj).2, if_neg hne]) t2 (by rw [(sG_set l j j _ hj).2, if_pos rfl])
  · have he := (ent_parts (i := (l.length : Int) + 1) (g := 0) (by omega) (by omega) (by omega) (by omega)).1
    have e1 := (sG_last l (0, true)).1
    have e2 := h.hz l.length (Nat.le_refl _)
    obtain ⟨a1, a2, a3⟩ := h.step (l' := l ++ [(0, true)]) (j := l.length) (x := entV ((l.length : Int) + 1) 0) m3 (by simp) (by omega) (.inr ⟨by simp, rfl⟩) (fun k hk hne => (sG_app l _ k hk).1) (by rw [e1, e2]) (fun h => by omega) (by rw [he, e1])
    rw [a1]
    refine ⟨by omega, a2, by rw [e2]; omega, a3, ?_⟩
    have e3 : (l ++ [((0 : Int), true)]).length = l.length + 1 := by simp
    rw [e3]
    rw [livN_t (sG_last l (0, true)).2, List.length_append, liv_same (l := l ++ [(0, true)]) (l' := l) (fun k hk => (sG_app l _ k hk).2)]
    rfl

theorem liv_split (l : List (Int × Bool)) (n : Nat) : ∃ r, livN l (2 + n) = livN l 2 ++ r ∧ ∀ y ∈ r, ∃ j, 2 ≤ j ∧ j < 2 + n ∧ sA l j = true ∧ y = entV ((j : Int) + 1) (sG l j) := by
  induction n with
  | zero => exact ⟨[], by simp, fun y h => by simp at h⟩
  | succ n ih =>
    obtain ⟨r, e, hr⟩ := ih
    refine ⟨r ++ if sA l (2 + n) then [entV (((2 + n : Nat) : Int) + 1) (sG l (2 + n))] else [], ?_, fun y hy => ?_⟩
    · show livN l (2 + n) ++ _ = _
      rw [e, List.append_assoc]; rfl
    · rcases List.mem_append.1 hy with hy | hy
      · obtain ⟨j, h1, h2, h3⟩ := hr y hy
        exact ⟨j, h1, by omega, h3⟩
      · split at hy
        · rename_i ha
          exact ⟨2 + n, by omega, by omega, ha, by simpa using hy⟩
        · simp at hy
theorem may_first {m : Int} {l : List (Int × Bool)} {f : List Int} (h : mayB m l f = true) {j : Nat} (hj : j < 2) : j < l.length ∧ sG l j = 0 ∧ sA l j = true := by
  obtain ⟨h1, h2, _⟩ := (mayB_iff m l f).1 h
  have hl : j < l.length := by omega
  have hs := h2 j hl
  unfold slotOk at hs
  simp only [Bool.and_eq_true, Bool.or_eq_true, decide_eq_true_eq] at hs
  rcases hs.2 with h3 | h3
  · omega
  · exact ⟨hl, h3⟩
theorem liv_two {m : Int} {l : List (Int × Bool)} {f : List Int} (h : mayB m l f = true) : 2 ≤ (livN l l.length).length := by
  obtain ⟨h1, _⟩ := (mayB_iff m l f).1 h
  obtain ⟨r, e, _⟩ := liv_split l (l.length - 2)
  have e1 : 2 + (l.length - 2) = l.length := by omega
  rw [e1] at e
  have : (livN l 2).length = 2 := by
    show (([] ++ (if sA l 0 then [entV ((0 : Nat) + 1) (sG l 0)] else [])) ++ (if sA l 1 then [entV ((1 : Nat) + 1) (sG l 1)] else []) : List Int).length = 2
    rw [(may_first h (j := 0) (by omega)).2.2, (may_first h (j := 1) (by omega)).2.2]; rfl
  rw [e, List.length_append]; omega
/-- Behind the first two stand those of higher indexes. -/
theorem pick {m : Int} {l : List (Int × Bool)} {f : List Int} (h : mayB m l f = true) {k : Nat} (hk : 2 + k < (livN l l.length).length) : livesB l (iG (livN l l.length) (2 + k)) = true ∧ 2 < p1 (iG (livN l l.length) (2 + k)) ∧ 0 ≤ iG (livN l l.length) (2 + k) ∧ iG (livN l l.length) (2 + k) < 18446744073709551616 := by
  obtain ⟨h1, _⟩ := (mayB_iff m l f).1 h
  obtain ⟨r, e, hr⟩ := liv_split l (l.length - 2)
  have e1 : 2 + (l.length - 2) = l.length := by omega
  rw [e1] at e
  have e2 : (livN l 2).length = 2 := by
    show (([] ++ (if sA l 0 then [entV ((0 : Nat) + 1) (sG l 0)] else [])) ++ (if sA l 1 then [entV ((1 : Nat) + 1) (sG l 1)] else []) : List Int).length = 2
    rw [(may_first h (j := 0) (by omega)).2.2, (may_first h (j := 1) (by omega)).2.2]; rfl
  rw [e, List.length_append, e2] at hk
  have e3 : iG (livN l l.length) (2 + k) = iG r k := by
    rw [e, iG_app, if_neg (by omega)]; congr 1; omega
  obtain ⟨j, j2, jl, ja, jy⟩ := hr _ (iG_mem' (l := r) (k := k) (by omega))
  have hj : j < l.length := by omega
  obtain ⟨b1, b2, b3, b4⟩ := mayB_ent h hj
  obtain ⟨g0, g7⟩ := mayB_slot h j hj
  rw [e3, jy]
  refine ⟨?_, by rw [b3]; omega, by omega, by omega⟩
  rw [lives_ent (by omega) g0 g7, ja]; simp [hj]

theorem give_one {m : Int} {l : List (Int × Bool)} {f : List Int} (h : mayB m l f = true) {y : Int} (hy : livesB l y = true) (h2 : 2 < p1 y) :
    ∃ l' left, gRun l [y] 1 = some (l', left) ∧ allLive l [y] = true ∧ mayB m l' (f ++ srt left) = true ∧ livesB l' y = false ∧ (livN l' l'.length).length + 1 = (livN l l.length).length ∧ l'.length = l.length ∧ ∀ u t, LInv l u t → LInv l' u t := by
  obtain ⟨j, hp, hj, hg, hs, hk⟩ := live_parts hy
  have ej : (p1 y - 1).toNat = j := by omega
  have ha : allLive l [y] = true := allLive_true fun i hi => by
    obtain rfl : i = 0 := by simp at hi; omega
    exact hy
  obtain ⟨s, hsr⟩ : ∃ s, gRun l [y] 1 = some s := by
    refine ⟨(l.set j (sG l j, false), [] ++ if usB (sG l j) false then [p1 y] else []), ?_⟩
    show gStep (l, []) y = _
    unfold gStep
    rw [if_neg (by simp only [ej, hs]; simp; omega)]
    simp only [ej]
  obtain ⟨l', left⟩ := s
  have I := ginv_run ha (n := 1) (by simp) hsr
  refine ⟨l', left, hsr, ha, mayB_give h I, ?_, ?_, I.len, fun u t hl => hl.like I.len I.g⟩
  · exact give_not (ids := [y]) I (i := 0) (by simp)
  · rw [I.len]
    refine (liv_one (l := l') (l' := l) hj (fun k hk hne => ?_) ?_ hs).symm
    · have hng : ¬ gone [y] 1 k := by
        rintro ⟨i, hi, e⟩
        obtain rfl : i = 0 := by omega
        have e : p1 y = (k : Int) + 1 := e
        omega
      rw [Bool.eq_iff_iff, I.a k hk]
      exact ⟨fun h => h.1, fun h => ⟨h, hng⟩⟩
    · rw [Bool.eq_false_iff]; intro h3
      exact ((I.a j hj).1 h3).2 ⟨0, by omega, hp⟩
theorem lives_first {m : Int} {l : List (Int × Bool)} {f : List Int} (h : mayB m l f = true) : livesB l 1 = true ∧ livesB l 2 = true := by
  obtain ⟨a1, a2, a3⟩ := may_first h (j := 0) (by omega)
  obtain ⟨b1, b2, b3⟩ := may_first h (j := 1) (by omega)
  have h1 := lives_ent (l := l) (j := 0) (g := 0) (by decide) (by decide) (by decide)
  have h2 := lives_ent (l := l) (j := 1) (g := 0) (by decide) (by decide) (by decide)
  rw [a2, a3] at h1
  rw [b2, b3] at h2
  have e1 : entV (((0 : Nat) : Int) + 1) 0 = 1 := by decide
  have e2 : entV (((1 : Nat) : Int) + 1) 0 = 2 := by decide
  rw [e1] at h1
  rw [e2] at h2
  exact ⟨by rw [h1]; simp [a1], by rw [h2]; simp [b1]⟩
end Go.Proofs.YtaglhajlgnjhcaaDoor
