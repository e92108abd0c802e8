/- Plain mathematics of Give: who is alive behind it, and that it may be. -/
import Derived.Test.YtaglhajlgnjhcaaDoorPlC
import Derived.Test.YtaglhajlgnjhcaaDoorAlU
namespace Go.Proofs.YtaglhajlgnjhcaaDoor

def gone (ids : List Int) (n : Nat) (k : Nat) : Prop := ∃ i, i < n ∧ p1 (iG ids i) = (k : Int) + 1
theorem live_parts {l : List (Int × Bool)} {x : Int} (h : livesB l x = true) : ∃ j : Nat, p1 x = (j : Int) + 1 ∧ j < l.length ∧ sG l j = p2 x ∧ sA l j = true ∧ kindOf x = 1 := by
  unfold livesB at h
  simp only [Bool.and_eq_true] at h
  obtain ⟨h1, h2, h3, h4⟩ := h
  have h12 : 1 ≤ p1 x ∧ p1 x ≤ (l.length : Int) := by simpa [hasB] using h2
  have e : p1 x = (((p1 x - 1).toNat : Nat) : Int) + 1 := by omega
  exact ⟨(p1 x - 1).toNat, e, by omega, by simpa using h3, h4, by simpa using h1⟩
theorem usN_kill {l : List (Int × Bool)} {j n : Nat} (hj : j < l.length) (hn : j < n) (ha : sA l j = true) : usN (l.set j (sG l j, false)) n = usN l n + if usB (sG l j) false then 1 else 0 := by
  induction n with
  | zero => omega
  | succ n ih =>
    by_cases e : j = n
    · subst e
      have : usN (l.set j (sG l j, false)) j = usN l j := usN_congr fun k hk => by rw [(sG_set l j k _ hj).1, (sG_set l j k _ hj).2, if_neg (by omega), if_neg (by omega)]
      unfold usN
      rw [this, (sG_set l j j _ hj).1, (sG_set l j j _ hj).2, if_pos rfl, if_pos rfl, ha]
      have : usB (sG l j) true = false := by simp [usB]
      rw [this]; simp
    · have h3 := ih (by omega)
      have h4 : usB (sG (l.set j (sG l j, false)) n) (sA (l.set j (sG l j, false)) n) = usB (sG l n) (sA l n) := by rw [(sG_set l j n _ hj).1, (sG_set l j n _ hj).2, if_neg (by omega), if_neg (by omega)]
      unfold usN
      rw [h4, h3]; omega

/-- What holds behind the first n that are given. -/
structure GInv (l : List (Int × Bool)) (ids : List Int) (n : Nat) (l' : List (Int × Bool)) (left : List Int) : Prop where
  len : l'.length = l.length
  g : ∀ k, k < l.length → sG l' k = sG l k
  a : ∀ k, k < l.length → (sA l' k = true ↔ sA l k = true ∧ ¬ gone ids n k)
  us : usN l' l.length = usN l l.length + left.length
  el : ∀ y ∈ left, ∃ j : Nat, y = (j : Int) + 1 ∧ j < l.length ∧ sA l j = true ∧ sA l' j = false ∧ usB (sG l j) false = true
  nd : left.Nodup
  hi : ∀ i, i < n → 2 < p1 (iG ids i)
theorem ginv_run {l : List (Int × Bool)} {ids : List Int} (ha : allLive l ids = true) : ∀ {n : Nat} {l' : List (Int × Bool)} {left : List Int}, n ≤ ids.length → gRun l ids n = some (l', left) → GInv l ids n l' left
  | 0, l', left, _, h => by
    cases h
    exact ⟨rfl, fun _ _ => rfl, fun k _ => ⟨fun h => ⟨h, fun ⟨i, hi, _⟩ => by omega⟩, fun h => h.1⟩, by simp, fun y hy => by simp at hy, List.nodup_nil, fun i hi => by omega⟩
  | n + 1, l', left, hn, h => by
    unfold gRun at h
    cases hk : gRun l ids n with
    | none => rw [hk] at h; cases h
    | some s =>
      rw [hk] at h
      have IH := ginv_run ha (n := n) (l' := s.1) (left := s.2) (by omega) hk
      obtain ⟨j, hp, hj, hg, hs, _⟩ := live_parts (allLive_at ha n (by omega))
      have ej : (p1 (iG ids n) - 1).toNat = j := by omega
      have h : gStep s (iG ids n) = some (l', left) := h
      unfold gStep at h
      rw [ej] at h
      have hj' : j < s.1.length := by rw [IH.len]; exact hj
      split at h
      · cases h
      · rename_i hc
        simp only [Bool.or_eq_true, decide_eq_true_eq, Bool.not_eq_true', not_or] at hc
        obtain ⟨h2, hal⟩ := hc
        have hal : sA s.1 j = true := by simpa using hal
        have e1 := (Option.some.inj h)
        have e2 : l' = s.1.set j (sG s.1 j, false) := (congrArg Prod.fst e1).symm
        have e3 : left = s.2 ++ if usB (sG s.1 j) false then [p1 (iG ids n)] else [] := (congrArg Prod.snd e1).symm
        have hgj := IH.g j hj
        refine ⟨by rw [e2]; simp [IH.len], fun k hk' => ?_, fun k hk' => ?_, ?_, fun y hy => ?_, ?_, fun i hi => ?_⟩
        · rw [e2, (sG_set s.1 j k _ hj').1]
          split
          · rename_i e; subst e; exact hgj
          · exact IH.g k hk'
        · rw [e2, (sG_set s.1 j k _ hj').2]
          by_cases e : k = j
          · subst e
            simp only [if_true]
            exact ⟨(fun h => by cases h), (fun h => absurd ⟨n, by omega, hp⟩ h.2)⟩
          · simp only [e, if_false]
            rw [IH.a k hk']
            constructor
            · rintro ⟨h1, h3⟩
              refine ⟨h1, ?_⟩
              rintro ⟨i, hi, e'⟩
              by_cases e4 : i = n
              · subst e4; rw [hp] at e'; exact e (by omega)
              · exact h3 ⟨i, by omega, e'⟩
            · rintro ⟨h1, h3⟩
              exact ⟨h1, fun ⟨i, hi, e'⟩ => h3 ⟨i, by omega, e'⟩⟩
        · rw [e2, usN_kill hj' (by omega) hal, e3, List.length_append, IH.us]
          split <;> simp <;> omega
        · have old : ∀ y ∈ s.2, ∃ j : Nat, y = (j : Int) + 1 ∧ j < l.length ∧ sA l j = true ∧ sA l' j = false ∧ usB (sG l j) false = true := fun y hy => by
            obtain ⟨i, a1, a2, a3, a4, a5⟩ := IH.el y hy
            refine ⟨i, a1, a2, a3, ?_, a5⟩
            rw [e2, (sG_set s.1 j i _ hj').2]
            split
            · rfl
            · exact a4
          rw [e3] at hy
          rcases List.mem_append.1 hy with hy | hy
          · exact old y hy
          · split at hy
            · rename_i hu
              have : y = p1 (iG ids n) := by simpa using hy
              refine ⟨j, by rw [this, hp], hj, hs, ?_, by rw [← hgj]; exact hu⟩
              rw [e2, (sG_set s.1 j j _ hj').2]; simp
            · simp at hy
        · rw [e3]
          split
          · rw [List.nodup_append]
            refine ⟨IH.nd, by simp, fun y hy z hz => ?_⟩
            have : z = p1 (iG ids n) := by simpa using hz
            intro e
            obtain ⟨i, a1, a2, a3, a4, a5⟩ := IH.el y hy
            have : i = j := by omega
            subst this
            rw [hal] at a4; cases a4
          · simpa using IH.nd
        · by_cases e : i = n
          · subst e; omega
          · exact IH.hi i (by omega)

theorem iG_app (a b : List Int) (k : Nat) : iG (a ++ b) k = if k < a.length then iG a k else iG b (k - a.length) := by
  unfold iG
  split
  · rename_i h; simp [List.getElem?_append_left h]
  · rename_i h; simp [List.getElem?_append_right (Nat.le_of_not_lt h)]
theorem srt_mem {l : List Int} {y : Int} : y ∈ srt l ↔ y ∈ l := (List.mergeSort_perm l _).mem_iff
theorem srt_nd {l : List Int} (h : l.Nodup) : (srt l).Nodup := (List.mergeSort_perm l _).nodup_iff.2 h
theorem iG_mem' {l : List Int} {k : Nat} (h : k < l.length) : iG l k ∈ l := by
  have e : iG l k = l[k] := by simp [iG, h]
  rw [e]; exact List.getElem_mem h
theorem nd_ne {l : List Int} (h : l.Nodup) {i k : Nat} (hi : i < l.length) (hk : k < l.length) (e : i ≠ k) : iG l i ≠ iG l k := by
  have e1 : iG l i = l[i] := by simp [iG, hi]
  have e2 : iG l k = l[k] := by simp [iG, hk]
  rw [e1, e2]
  have hp := List.pairwise_iff_getElem.1 h
  rcases Nat.lt_or_gt_of_ne e with g | g
  · exact hp i k hi hk g
  · exact fun h' => hp k i hk hi g h'.symm

theorem mayB_give {m : Int} {l : List (Int × Bool)} {f : List Int} {ids : List Int} {n : Nat} {l' : List (Int × Bool)} {left : List Int} (h : mayB m l f = true) (I : GInv l ids n l' left) : mayB m l' (f ++ srt left) = true := by
  obtain ⟨h1, h2, h3, h4⟩ := (mayB_iff m l f).1 h
  rw [mayB_iff]
  refine ⟨by rw [I.len]; exact h1, fun j hj => ?_, ?_, ?_⟩
  · rw [I.len] at hj
    have hs := h2 j hj
    rw [I.g j hj]
    unfold slotOk at hs ⊢
    simp only [Bool.and_eq_true, Bool.or_eq_true, decide_eq_true_eq] at hs ⊢
    refine ⟨hs.1, ?_⟩
    rcases hs.2 with h5 | ⟨h5, h6⟩
    · exact .inl h5
    · by_cases h7 : (2 : Int) ≤ (j : Int)
      · exact .inl h7
      · refine .inr ⟨h5, (I.a j hj).2 ⟨h6, ?_⟩⟩
        rintro ⟨i, hi, e⟩
        have := I.hi i hi
        omega
  · rw [List.length_append, srt_len, I.len, I.us, h3]
  · rw [okF_iff] at h4 ⊢
    intro k hk
    rw [List.length_append, srt_len] at hk
    have old : ∀ i, i < f.length → ∃ j : Nat, iG f i = (j : Int) + 1 ∧ j < l.length ∧ usB (sG l' j) (sA l' j) = true ∧ sA l j = false := fun i hi => by
      obtain ⟨j, e, hj, hu, _⟩ := h4 i hi
      have ha : sA l j = false := by
        unfold usB at hu
        cases h5 : sA l j
        · rfl
        · rw [h5] at hu; simp at hu
      have ha' : sA l' j = false := by
        rw [Bool.eq_false_iff]; intro h5
        have := ((I.a j hj).1 h5).1
        rw [ha] at this; cases this
      refine ⟨j, e, hj, ?_, ha⟩
      rw [I.g j hj, ha', ← ha]; exact hu
    have new : ∀ i, i < left.length → ∃ j : Nat, iG (srt left) i = (j : Int) + 1 ∧ j < l.length ∧ usB (sG l' j) (sA l' j) = true ∧ sA l j = true := fun i hi => by
      obtain ⟨j, e, hj, a1, a2, a3⟩ := I.el _ (srt_mem.1 (iG_mem' (l := srt left) (k := i) (by rw [srt_len]; exact hi)))
      refine ⟨j, e, hj, ?_, a1⟩
      rw [I.g j hj, a2]; exact a3
    rw [I.len]
    rw [iG_app]
    by_cases hkf : k < f.length
    · rw [if_pos hkf]
      obtain ⟨j, e, hj, hu, _⟩ := old k hkf
      refine ⟨j, e, hj, hu, fun i hi => ?_⟩
      rw [iG_app, if_pos (by omega)]
      obtain ⟨_, _, _, _, hd⟩ := h4 k hkf
      exact hd i hi
    · rw [if_neg hkf]
      obtain ⟨j, e, hj, hu, ha⟩ := new (k - f.length) (by omega)
      refine ⟨j, e, hj, hu, fun i hi => ?_⟩
      rw [iG_app]
      split
      · rename_i hif
        obtain ⟨j', e', _, _, ha'⟩ := old i hif
        intro h5
        have : j' = j := by omega
        subst this
        rw [ha] at ha'; cases ha'
      · exact nd_ne (srt_nd I.nd) (by rw [srt_len]; omega) (by rw [srt_len]; omega) (by omega)

theorem mayB_ent {m : Int} {l : List (Int × Bool)} {f : List Int} (h : mayB m l f = true) {j : Nat} (hj : j < l.length) : entV ((j : Int) + 1) (sG l j) = sG l j * 4294967296 + ((j : Int) + 1) ∧ kindOf (entV ((j : Int) + 1) (sG l j)) = 1 ∧ p1 (entV ((j : Int) + 1) (sG l j)) = (j : Int) + 1 ∧ p2 (entV ((j : Int) + 1) (sG l j)) = sG l j := by
  obtain ⟨m1, m2, m3, m4⟩ := mayB_most h
  obtain ⟨g0, g7⟩ := mayB_slot h j hj
  exact ent_parts (by omega) (by omega) g0 g7
theorem liv_mem (l : List (Int × Bool)) (k : Nat) (y : Int) : y ∈ livN l k ↔ ∃ j, j < k ∧ sA l j = true ∧ y = entV ((j : Int) + 1) (sG l j) := by
  induction k with
  | zero => simp [livN]
  | succ k ih =>
    unfold livN
    rw [List.mem_append, ih]
    constructor
    · rintro (⟨j, h1, h2⟩ | h)
      · exact ⟨j, by omega, h2⟩
      · split at h
        · rename_i ha; exact ⟨k, by omega, ha, by simpa using h⟩
        · simp at h
    · rintro ⟨j, h1, h2, h3⟩
      by_cases e : j = k
      · subst e; rw [h2]; exact .inr (by simpa using h3)
      · exact .inl ⟨j, by omega, h2, h3⟩
/-- An entity that is alive is that of its index. -/
theorem live_is {m : Int} {l : List (Int × Bool)} {f : List Int} (h : mayB m l f = true) {x : Int} {j : Nat} (hp : p1 x = (j : Int) + 1) (hx : livesB l x = true) : x = entV ((j : Int) + 1) (sG l j) := by
  obtain ⟨j', hp', hj, hg, _, hk⟩ := live_parts hx
  have : j' = j := by omega
  subst this
  obtain ⟨e, _⟩ := mayB_ent h hj
  obtain ⟨a1, a2, a3, a4, a5⟩ := ent_is hk
  rw [e]
  unfold mk at a5
  omega
theorem ids_gone {m : Int} {l : List (Int × Bool)} {f ids : List Int} (h : mayB m l f = true) (ha : allLive l ids = true) {j : Nat} (hj : j < l.length) : entV ((j : Int) + 1) (sG l j) ∈ ids ↔ gone ids ids.length j := by
  constructor
  · intro hm
    obtain ⟨i, hi, e⟩ := List.getElem_of_mem hm
    have e1 : iG ids i = ids[i] := by simp [iG, hi]
    refine ⟨i, hi, ?_⟩
    rw [e1, e]; exact (mayB_ent h hj).2.2.1
  · rintro ⟨i, hi, e⟩
    have := live_is h e (allLive_at ha i hi)
    rw [← this]; exact iG_mem' hi
theorem liv_give {m : Int} {l : List (Int × Bool)} {f ids : List Int} {l' : List (Int × Bool)} {left : List Int} (h : mayB m l f = true) (ha : allLive l ids = true) (I : GInv l ids ids.length l' left) (k : Nat) (hk : k ≤ l.length) : livN l' k = (livN l k).filter fun y => !decide (y ∈ ids) := by
  induction k with
  | zero => rfl
  | succ k ih =>
    have hkl : k < l.length := by omega
    unfold livN
    rw [List.filter_append, ← ih (by omega), I.g k hkl]
    congr 1
    have hi := ids_gone h ha hkl
    cases h1 : sA l k
    · have : sA l' k = false := by
        rw [Bool.eq_false_iff]; intro h2; have := ((I.a k hkl).1 h2).1; rw [h1] at this; cases this
      rw [this]; rfl
    · by_cases hg : gone ids ids.length k
      · have : sA l' k = false := by
          rw [Bool.eq_false_iff]; intro h2; exact ((I.a k hkl).1 h2).2 hg
        rw [this]
        simp [hi.2 hg]
      · have : sA l' k = true := (I.a k hkl).2 ⟨h1, hg⟩
        rw [this]
        have : ¬ entV ((k : Int) + 1) (sG l k) ∈ ids := fun h2 => hg (hi.1 h2)
        simp [this]
theorem give_not {l : List (Int × Bool)} {ids : List Int} {l' : List (Int × Bool)} {left : List Int} (I : GInv l ids ids.length l' left) {i : Nat} (hi : i < ids.length) : livesB l' (iG ids i) = false := by
  rw [Bool.eq_false_iff]; intro h
  obtain ⟨j, hp, hj, _, hs, _⟩ := live_parts h
  exact ((I.a j (by rw [← I.len]; exact hj)).1 hs).2 ⟨i, hi, hp⟩
theorem liv_pos {m : Int} {l : List (Int × Bool)} {f : List Int} (h : mayB m l f = true) : (0 : Int) ∉ livN l l.length := by
  intro hm
  obtain ⟨j, hj, _, e⟩ := (liv_mem l l.length 0).1 hm
  have := (mayB_ent h hj).1
  have := (mayB_slot h j hj).1
  omega
/-- What At tells is in the row of all, by its index. -/
theorem at_liv {m : Int} {l : List (Int × Bool)} {f : List Int} (h : mayB m l f = true) (i : Int) : atOk m l f i = decide (atV m l f i ∈ livN l l.length) ∧ (atOk m l f i = true → atV m l f i % 4294967296 = i ∧ 0 ≤ atV m l f i ∧ atV m l f i < 18446744073709551616) := by
  unfold atV
  cases hok : atOk m l f i
  · simp only [Bool.false_eq_true, if_false]
    exact ⟨by rw [decide_eq_false (liv_pos h)], fun h => by cases h⟩
  · simp only [if_true]
    have h2 := hok
    unfold atOk at h2
    simp only [Bool.and_eq_true] at h2
    have h12 : 1 ≤ i ∧ i ≤ (l.length : Int) := by simpa [hasB] using h2.2.1
    obtain ⟨j, rfl⟩ : ∃ j : Nat, i = (j : Int) + 1 := ⟨(i - 1).toNat, by omega⟩
    have ej : ((j : Int) + 1 - 1).toNat = j := by omega
    rw [ej] at h2 ⊢
    have hj : j < l.length := by omega
    obtain ⟨e, _⟩ := mayB_ent h hj
    obtain ⟨g0, g7⟩ := mayB_slot h j hj
    obtain ⟨m1, m2, m3, m4⟩ := mayB_most h
    refine ⟨?_, fun _ => ⟨by rw [e]; omega, by omega, by omega⟩⟩
    rw [decide_eq_true]
    exact (liv_mem l l.length _).2 ⟨j, hj, h2.2.2, rfl⟩
end Go.Proofs.YtaglhajlgnjhcaaDoor
