/- Plain mathematics of allocators: what Free is, what is taken, and how much room there is. -/
import Derived.Test.YtaglhajlgnjhcaaDoorAlR
namespace Go.Proofs.YtaglhajlgnjhcaaDoor

theorem metAt_iff (f : List Int) (k x : Nat) : metAt f k x = true ↔ ∃ i, i < k ∧ (iG f i - 1).toNat = x := by
  induction k with
  | zero => simp [metAt]
  | succ k ih =>
    unfold metAt metNow
    by_cases h : x = (iG f k - 1).toNat
    · simp only [h, if_true]
      exact ⟨fun _ => ⟨k, by omega, rfl⟩, fun _ => trivial⟩
    · simp only [h, if_false]
      rw [ih]
      constructor
      · rintro ⟨i, hi, e⟩; exact ⟨i, by omega, e⟩
      · rintro ⟨i, hi, e⟩
        by_cases hk : i = k
        · subst hk; exact absurd e.symm h
        · exact ⟨i, by omega, e⟩
/-- The index of Free at place k is j + 1: a slot that can be used again, and stands nowhere ahead. -/
theorem okF_iff (l : List (Int × Bool)) (f : List Int) : okF l f = true ↔ ∀ k, k < f.length → ∃ j : Nat, iG f k = (j : Int) + 1 ∧ j < l.length ∧ usB (sG l j) (sA l j) = true ∧ ∀ i, i < k → iG f i ≠ iG f k := by
  constructor
  · intro h
    have key : ∀ k, k < f.length → ∃ j : Nat, iG f k = (j : Int) + 1 ∧ j < l.length ∧ usB (sG l j) (sA l j) = true ∧ metAt f k j = false := fun k hk => by
      have h1 := okF_at h k hk
      unfold freeOk at h1
      simp only [Bool.and_eq_true] at h1
      obtain ⟨h1, h2, h3⟩ := h1
      have h12 : 1 ≤ iG f k ∧ iG f k ≤ (l.length : Int) := by simpa [hasB] using h1
      exact ⟨(iG f k - 1).toNat, by omega, by omega, h2, by simpa using h3⟩
    intro k hk
    obtain ⟨j, e, hj, hu, hm⟩ := key k hk
    refine ⟨j, e, hj, hu, fun i hi he => ?_⟩
    have : metAt f k j = true := (metAt_iff f k j).2 ⟨i, hi, by omega⟩
    rw [hm] at this; cases this
  · intro h
    refine okF_true fun k hk => ?_
    obtain ⟨j, e, hj, hu, hd⟩ := h k hk
    have ej : (iG f k - 1).toNat = j := by omega
    unfold freeOk
    rw [ej, hu]
    have hm : metAt f k j = false := by
      rw [Bool.eq_false_iff]
      intro hm
      obtain ⟨i, hi, e2⟩ := (metAt_iff f k j).1 hm
      obtain ⟨j', e', _⟩ := h i (by omega)
      exact hd i hi (by omega)
    rw [hm]
    have h1 : hasB l.length (iG f k) = true := by simp [hasB]; omega
    rw [h1]; rfl

theorem sG_set (l : List (Int × Bool)) (j k : Nat) (s : Int × Bool) (hj : j < l.length) : sG (l.set j s) k = (if k = j then s.1 else sG l k) ∧ sA (l.set j s) k = (if k = j then s.2 else sA l k) := by
  by_cases h : k = j
  · subst h; simp [sG, sA, hj]
  · have h' : ¬ j = k := fun e => h e.symm
    simp [sG, sA, h, h']
theorem sG_app (l r : List (Int × Bool)) (k : Nat) (h : k < l.length) : sG (l ++ r) k = sG l k ∧ sA (l ++ r) k = sA l k := by
  simp [sG, sA, List.getElem?_append_left h]
theorem sG_last (l : List (Int × Bool)) (s : Int × Bool) : sG (l ++ [s]) l.length = s.1 ∧ sA (l ++ [s]) l.length = s.2 := by simp [sG, sA]

theorem usN_congr {l l' : List (Int × Bool)} {n : Nat} (h : ∀ k, k < n → usB (sG l k) (sA l k) = usB (sG l' k) (sA l' k)) : usN l n = usN l' n := by
  induction n with
  | zero => rfl
  | succ n ih => unfold usN; rw [ih (fun k hk => h k (by omega)), h n (by omega)]
theorem usN_set {l : List (Int × Bool)} {j n : Nat} {s : Int × Bool} (hj : j < l.length) (hn : j < n) (h1 : usB (sG l j) (sA l j) = true) (h2 : usB s.1 s.2 = false) : usN (l.set j s) n + 1 = usN l n := by
  induction n with
  | zero => omega
  | succ n ih =>
    by_cases e : j = n
    · subst e
      have : usN (l.set j s) j = usN l j := usN_congr fun k hk => by rw [(sG_set l j k s hj).1, (sG_set l j k s hj).2, if_neg (by omega), if_neg (by omega)]
      unfold usN
      rw [this, (sG_set l j j s hj).1, (sG_set l j j s hj).2, if_pos rfl, if_pos rfl, h1, h2]
      simp
    · have h3 := ih (by omega)
      have h4 : usB (sG (l.set j s) n) (sA (l.set j s) n) = usB (sG l n) (sA l n) := by rw [(sG_set l j n s hj).1, (sG_set l j n s hj).2, if_neg (by omega), if_neg (by omega)]
      unfold usN
      rw [h4]; omega
theorem cnt_us (l : List (Int × Bool)) (k : Nat) : (livN l k).length + usN l k ≤ k := by
  induction k with
  | zero => simp [livN, usN]
  | succ k ih =>
    unfold livN usN
    rw [List.length_append]
    cases h : sA l k
    · simp; split <;> omega
    · have : usB (sG l k) true = false := by simp [usB]
      rw [this]; simp; omega

/-- The parts of an allocator that may be. -/
theorem mayB_iff (m : Int) (l : List (Int × Bool)) (f : List Int) : mayB m l f = true ↔ (1 ≤ m ∧ m ≤ 1048576 ∧ 2 ≤ l.length ∧ (l.length : Int) ≤ m + 2) ∧ (∀ j, j < l.length → slotOk (j : Int) (sG l j) (sA l j) = true) ∧ f.length = usN l l.length ∧ okF l f = true := by
  constructor
  · intro h
    have := mayB_parts h
    exact ⟨mayB_most h, okS_at this.2.1, this.2.2.1, this.2.2.2⟩
  · rintro ⟨⟨h1, h2, h3, h4⟩, hs, hu, hf⟩
    unfold mayB szB mostB
    rw [okS_true hs, hf, decide_eq_true hu, decide_eq_true h1, decide_eq_true h2, decide_eq_true h3, decide_eq_true h4]; rfl
/-- A slot that is not alive is none of the first two. -/
theorem mayB_two {m : Int} {l : List (Int × Bool)} {f : List Int} (h : mayB m l f = true) {j : Nat} (hj : j < l.length) (hu : usB (sG l j) (sA l j) = true) : 2 ≤ j ∧ sA l j = false ∧ sG l j < 7 := by
  have h1 := ((mayB_iff m l f).1 h).2.1 j hj
  unfold slotOk at h1
  unfold usB at hu
  cases ha : sA l j
  · rw [ha] at h1 hu
    simp at h1 hu
    exact ⟨by omega, rfl, by omega⟩
  · rw [ha] at hu; simp at hu

theorem iG_take' {f : List Int} {k i : Nat} (h : i < k) : iG (f.take k) i = iG f i := by simp [iG, h]
theorem mayB_again {m : Int} {l : List (Int × Bool)} {f : List Int} (h : mayB m l f = true) {k j : Nat} (hf : f.length = k + 1) (hi : iG f k = (j : Int) + 1) (hj : j < l.length) (hu : usB (sG l j) (sA l j) = true) : mayB m (l.set j (sG l j + 1, true)) (f.take k) = true := by
  obtain ⟨h1, h2, h3, h4⟩ := (mayB_iff m l f).1 h
  obtain ⟨t1, t2, t3⟩ := mayB_two h hj hu
  have g0 := (mayB_slot h j hj).1
  rw [mayB_iff]
  refine ⟨by simpa using h1, fun i hi' => ?_, ?_, ?_⟩
  · have hi2 : i < l.length := by simpa using hi'
    rw [(sG_set l j i _ hj).1, (sG_set l j i _ hj).2]
    by_cases e : i = j
    · subst e; simp only [if_true]; simp [slotOk]; omega
    · simp only [e, if_false]; exact h2 i hi2
  · have := usN_set (s := (sG l j + 1, true)) hj hj hu (by simp [usB])
    simp; omega
  · rw [okF_iff] at h4 ⊢
    intro i hi'
    have hik : i < k := by simp at hi'; omega
    obtain ⟨j', e, hj', hu', hd⟩ := h4 i (by omega)
    obtain ⟨_, _, _, _, hdk⟩ := h4 k (by omega)
    have hne : j' ≠ j := fun e2 => hdk i hik (by omega)
    refine ⟨j', by rw [iG_take' hik]; exact e, by simpa using hj', ?_, fun x hx => ?_⟩
    · rw [(sG_set l j j' _ hj).1, (sG_set l j j' _ hj).2, if_neg hne, if_neg hne]; exact hu'
    · rw [iG_take' hik, iG_take' (by omega)]; exact hd x hx
theorem mayB_further {m : Int} {l : List (Int × Bool)} {f : List Int} (h : mayB m l f = true) (hf : f.length = 0) (hl : (l.length : Int) < m + 2) : mayB m (l ++ [(0, true)]) f = true := by
  obtain ⟨h1, h2, h3, h4⟩ := (mayB_iff m l f).1 h
  obtain rfl : f = [] := List.eq_nil_of_length_eq_zero hf
  rw [mayB_iff]
  refine ⟨by simp; omega, fun i hi' => ?_, ?_, ?_⟩
  · by_cases e : i < l.length
    · rw [(sG_app l _ i e).1, (sG_app l _ i e).2]; exact h2 i e
    · obtain rfl : i = l.length := by simp at hi'; omega
      rw [(sG_last l _).1, (sG_last l _).2]; simp [slotOk]
  · have e1 : usN (l ++ [(0, true)]) l.length = usN l l.length := usN_congr fun k hk => by rw [(sG_app l _ k hk).1, (sG_app l _ k hk).2]
    have e2 : usN (l ++ [(0, true)]) (l.length + 1) = usN (l ++ [(0, true)]) l.length + 0 := by
      show usN (l ++ [(0, true)]) l.length + _ = _
      rw [(sG_last l _).1, (sG_last l _).2]; simp [usB]
    simp only [List.length_append, List.length_cons, List.length_nil, Nat.zero_add]
    simp at h3
    omega
  · rw [okF_iff]; intro k hk; simp at hk
end Go.Proofs.YtaglhajlgnjhcaaDoor
