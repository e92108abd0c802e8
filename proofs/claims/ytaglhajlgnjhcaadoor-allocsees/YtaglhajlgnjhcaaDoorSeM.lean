/- AllocSees, plain mathematics: the one of an index, found by going through all. -/
import Derived.Test.YtaglhajlgnjhcaaDoorSeB
namespace Go.Proofs.YtaglhajlgnjhcaaDoor

/-- What is found, behind the first k of xs, of index t. -/
def scanN (xs : List Int) (t : Int) : Nat → Int × Bool
  | 0 => (0, false)
  | k + 1 => if iG xs k % 4294967296 = t then (iG xs k, true) else scanN xs t k
theorem scanN_app {xs ys : List Int} {t : Int} {k : Nat} (h : k ≤ xs.length) : scanN (xs ++ ys) t k = scanN xs t k := by
  induction k with
  | zero => rfl
  | succ k ih =>
    have e : iG (xs ++ ys) k = iG xs k := by simp [iG, List.getElem?_append_left (show k < xs.length by omega)]
    unfold scanN
    rw [e, ih (by omega)]
def scanV (l : List (Int × Bool)) (t : Int) (k : Nat) : Int × Bool := if 1 ≤ t ∧ t ≤ (k : Int) ∧ sA l (t - 1).toNat = true then (entV t (sG l (t - 1).toNat), true) else (0, false)
theorem scan_liv {l : List (Int × Bool)} {t : Int} (hn : l.length ≤ 1048578) (hg : ∀ k, k < l.length → 0 ≤ sG l k ∧ sG l k ≤ 7) {k : Nat} (hk : k ≤ l.length) : scanN (livN l k) t (livN l k).length = scanV l t k := by
  induction k with
  | zero =>
    unfold scanV
    rw [if_neg (by omega)]
    rfl
  | succ k ih =>
    have ih := ih (by omega)
    obtain ⟨g0, g1⟩ := hg k (by omega)
    cases ha : sA l k
    · rw [livN_f ha, ih]
      unfold scanV
      by_cases h : 1 ≤ t ∧ t ≤ (k : Int) ∧ sA l (t - 1).toNat = true
      · rw [if_pos h, if_pos ⟨h.1, by omega, h.2.2⟩]
      · rw [if_neg h, if_neg]
        rintro ⟨h1, h2, h3⟩
        by_cases e : t = (k : Int) + 1
        · rw [show (t - 1).toNat = k by omega, ha] at h3; cases h3
        · exact h ⟨h1, by omega, h3⟩
    · rw [livN_t ha, List.length_append]
      have ee := ent_eq (i := (k : Int) + 1) (by omega) (by omega) g0 g1
      have ei : iG (livN l k ++ [entV ((k : Int) + 1) (sG l k)]) (livN l k).length = entV ((k : Int) + 1) (sG l k) := by simp [iG]
      show (if iG (livN l k ++ [entV ((k : Int) + 1) (sG l k)]) (livN l k).length % 4294967296 = t then _ else _) = _
      rw [ei, scanN_app (Nat.le_refl _), ih]
      by_cases e : t = (k : Int) + 1
      · have hj : (t - 1).toNat = k := by omega
        rw [if_pos (by rw [ee]; omega)]
        unfold scanV
        rw [hj, if_pos ⟨by omega, by omega, ha⟩, e]
      · rw [if_neg (by rw [ee]; omega)]
        unfold scanV
        by_cases h : 1 ≤ t ∧ t ≤ (k : Int) ∧ sA l (t - 1).toNat = true
        · rw [if_pos h, if_pos ⟨h.1, by omega, h.2.2⟩]
        · rw [if_neg h, if_neg]
          rintro ⟨h1, h2, h3⟩
          exact h ⟨h1, by omega, h3⟩
/-- So At tells it. -/
theorem scan_at {m : Int} {l : List (Int × Bool)} {f : List Int} (hm : mayB m l f = true) (t : Int) : scanN (livN l l.length) t (livN l l.length).length = (atV m l f t, atOk m l f t) := by
  obtain ⟨⟨m1, m2, m3, m4⟩, hso, _, _⟩ := (mayB_iff m l f).1 hm
  have hg : ∀ k, k < l.length → 0 ≤ sG l k ∧ sG l k ≤ 7 := fun k hk => by
    have := hso k hk
    unfold slotOk at this
    simp at this
    omega
  rw [scan_liv (by omega) hg (Nat.le_refl _)]
  unfold scanV atV atOk hasB
  rw [hm]
  by_cases h : 1 ≤ t ∧ t ≤ (l.length : Int) ∧ sA l (t - 1).toNat = true
  · rw [if_pos h]
    rw [decide_eq_true h.1, decide_eq_true h.2.1, h.2.2]
    rfl
  · rw [if_neg h]
    have hf : (true && (decide (1 ≤ t) && decide (t ≤ (l.length : Int)) && sA l (t - 1).toNat)) = false := by
      rw [Bool.eq_false_iff]
      intro h'
      simp only [Bool.true_and, Bool.and_eq_true, decide_eq_true_eq] at h'
      exact h ⟨h'.1.1, h'.1.2, h'.2⟩
    rw [hf]
    rfl
end Go.Proofs.YtaglhajlgnjhcaaDoor
