/- Plain mathematics: what the document calls right is what may be. -/
import Derived.Test.YtaglhajlgnjhcaaDoorReC
namespace Go.Proofs.YtaglhajlgnjhcaaDoor

def sumN (g : Nat → Nat) : Nat → Nat
  | 0 => 0
  | n + 1 => sumN g n + g n
theorem sumN_add (a b : Nat → Nat) (n : Nat) : sumN (fun j => a j + b j) n = sumN a n + sumN b n := by
  induction n with
  | zero => rfl
  | succ n ih => unfold sumN; rw [ih]; omega
theorem sumN_congr {a b : Nat → Nat} {n : Nat} (h : ∀ j, j < n → a j = b j) : sumN a n = sumN b n := by
  induction n with
  | zero => rfl
  | succ n ih => unfold sumN; rw [ih (fun j hj => h j (by omega)), h n (by omega)]
theorem sumN_le {a b : Nat → Nat} {n : Nat} (h : ∀ j, j < n → a j ≤ b j) : sumN a n ≤ sumN b n := by
  induction n with
  | zero => exact Nat.le_refl _
  | succ n ih => unfold sumN; have := ih (fun j hj => h j (by omega)); have := h n (by omega); omega
theorem sumN_eq {a b : Nat → Nat} {n : Nat} (h : ∀ j, j < n → a j ≤ b j) (he : sumN a n = sumN b n) : ∀ j, j < n → a j = b j := by
  induction n with
  | zero => intro j hj; omega
  | succ n ih =>
    unfold sumN at he
    have h1 := sumN_le (n := n) (fun j hj => h j (by omega))
    have h2 := h n (by omega)
    intro j hj
    by_cases e : j = n
    · subst e; omega
    · exact ih (fun j hj => h j (by omega)) (by omega) j (by omega)
theorem sumN_ind (v : Int) (n : Nat) : sumN (fun j => if v = (j : Int) + 1 then 1 else 0) n = if 1 ≤ v ∧ v ≤ (n : Int) then 1 else 0 := by
  induction n with
  | zero => unfold sumN; rw [if_neg (by omega)]
  | succ n ih =>
    unfold sumN; rw [ih]
    by_cases h : v = (n : Int) + 1
    · rw [if_neg (by omega), if_pos h, if_pos (by omega)]
    · rw [if_neg h]
      by_cases h' : 1 ≤ v ∧ v ≤ (n : Int)
      · rw [if_pos h', if_pos (by omega)]
      · rw [if_neg h', if_neg (by omega)]
/-- How many of the first k numbers are from 1 to n. -/
def cntIn (f : List Int) (n : Nat) : Nat → Nat
  | 0 => 0
  | k + 1 => cntIn f n k + if 1 ≤ iG f k ∧ iG f k ≤ (n : Int) then 1 else 0
theorem cntIn_le (f : List Int) (n k : Nat) : cntIn f n k ≤ k := by
  induction k with
  | zero => exact Nat.le_refl _
  | succ k ih => unfold cntIn; split <;> omega
theorem cntIn_all {f : List Int} {n k : Nat} (h : ∀ i, i < k → 1 ≤ iG f i ∧ iG f i ≤ (n : Int)) : cntIn f n k = k := by
  induction k with
  | zero => rfl
  | succ k ih => unfold cntIn; rw [ih (fun i hi => h i (by omega)), if_pos (h k (by omega))]
theorem cntIn_full {f : List Int} {n k : Nat} (h : cntIn f n k = k) : ∀ i, i < k → 1 ≤ iG f i ∧ iG f i ≤ (n : Int) := by
  induction k with
  | zero => intro i hi; omega
  | succ k ih =>
    unfold cntIn at h
    have h1 := cntIn_le f n k
    by_cases hc : 1 ≤ iG f k ∧ iG f k ≤ (n : Int)
    · rw [if_pos hc] at h
      intro i hi
      by_cases e : i = k
      · subst e; exact hc
      · exact ih (by omega) i (by omega)
    · rw [if_neg hc] at h; omega
theorem sum_tm (f : List Int) (n k : Nat) : sumN (fun j => tmN f ((j : Int) + 1) k) n = cntIn f n k := by
  induction k with
  | zero =>
    show sumN (fun _ => 0) n = 0
    induction n with
    | zero => rfl
    | succ n ih => unfold sumN; rw [ih]
  | succ k ih =>
    show sumN (fun j => tmN f ((j : Int) + 1) k + if iG f k = (j : Int) + 1 then 1 else 0) n = cntIn f n k + _
    rw [sumN_add, ih, sumN_ind]
theorem us_sum (l : List (Int × Bool)) (n : Nat) : usN l n = sumN (fun j => if usB (sG l j) (sA l j) then 1 else 0) n := by
  induction n with
  | zero => rfl
  | succ n ih => unfold usN sumN; rw [ih]
theorem tm_zero {f : List Int} {x : Int} {k : Nat} (h : ∀ i, i < k → iG f i ≠ x) : tmN f x k = 0 := by
  induction k with
  | zero => rfl
  | succ k ih => rw [tmN_f (h k (by omega)), ih (fun i hi => h i (by omega))]
theorem tm_mono {f : List Int} {x : Int} {i k : Nat} (h : i ≤ k) : tmN f x i ≤ tmN f x k := by
  induction k with
  | zero => obtain rfl : i = 0 := by omega
            exact Nat.le_refl _
  | succ k ih =>
    by_cases e : i = k + 1
    · subst e; exact Nat.le_refl _
    · have := ih (by omega)
      by_cases hx : iG f k = x
      · rw [tmN_t hx]; omega
      · rw [tmN_f hx]; omega
theorem tm_pos {f : List Int} {x : Int} {i k : Nat} (h : i < k) (hx : iG f i = x) : 1 ≤ tmN f x k := by
  have h1 := tm_mono (f := f) (x := x) (show i + 1 ≤ k by omega)
  rw [tmN_t hx] at h1; omega
theorem tm_two {f : List Int} {x : Int} {i j k : Nat} (hij : i < j) (h : j < k) (hi : iG f i = x) (hj : iG f j = x) : 2 ≤ tmN f x k := by
  have h1 := tm_mono (f := f) (x := x) (show j + 1 ≤ k by omega)
  have h2 := tm_pos hij hi
  rw [tmN_t hj] at h1; omega
theorem tm_one {f : List Int} {x : Int} {k : Nat} (h : ∀ j, j < k → ∀ i, i < j → iG f i ≠ iG f j) : tmN f x k ≤ 1 := by
  induction k with
  | zero => simp [tmN]
  | succ k ih =>
    by_cases hx : iG f k = x
    · rw [tmN_t hx, tm_zero (fun i hi => by rw [← hx]; exact h k (by omega) i hi)]
      omega
    · rw [tmN_f hx]; exact ih (fun j hj => h j (by omega))

theorem right_may (m : Int) (l : List (Int × Bool)) (f : List Int) : rightB m l f = mayB m l f := by
  rw [Bool.eq_iff_iff]
  constructor
  · intro h
    unfold rightB at h
    simp only [Bool.and_eq_true, decide_eq_true_eq] at h
    obtain ⟨hz, _, hr, hf⟩ := h
    have hso : ∀ j, j < l.length → slotOk (j : Int) (sG l j) (sA l j) = true := fun j hj => by
      have := rAll_at hr j hj
      unfold rOk at this
      simp only [Bool.and_eq_true] at this
      exact this.1
    have htm : ∀ j, j < l.length → tmN f ((j : Int) + 1) f.length = if usB (sG l j) (sA l j) then 1 else 0 := fun j hj => by
      have := rAll_at hr j hj
      unfold rOk at this
      simp only [Bool.and_eq_true, decide_eq_true_eq] at this
      exact this.2
    have hc : cntIn f l.length f.length = f.length := by
      rw [← sum_tm, sumN_congr htm, ← us_sum, ← hf]
    have hin := cntIn_full hc
    refine (mayB_iff m l f).2 ⟨?_, hso, hf, ?_⟩
    · unfold szB mostB at hz
      simp at hz
      omega
    · rw [okF_iff]
      intro k hk
      obtain ⟨i1, i2⟩ := hin k hk
      have e : iG f k = ((iG f k - 1).toNat : Int) + 1 := by omega
      have hj : (iG f k - 1).toNat < l.length := by omega
      have ht := htm _ hj
      rw [← e] at ht
      refine ⟨(iG f k - 1).toNat, e, hj, ?_, fun i hi he => ?_⟩
      · cases hu : usB (sG l (iG f k - 1).toNat) (sA l (iG f k - 1).toNat)
        · rw [hu] at ht
          have := tm_pos hk (rfl : iG f k = iG f k)
          simp at ht; omega
        · rfl
      · have := tm_two hi hk he rfl
        split at ht <;> omega
  · intro h
    obtain ⟨hz, hso, hf, ho⟩ := (mayB_iff m l f).1 h
    rw [okF_iff] at ho
    have hd : ∀ j, j < f.length → ∀ i, i < j → iG f i ≠ iG f j := fun j hj i hi => by
      obtain ⟨_, _, _, _, hd⟩ := ho j hj
      exact hd i hi
    have hin : ∀ i, i < f.length → 1 ≤ iG f i ∧ iG f i ≤ (l.length : Int) := fun i hi => by
      obtain ⟨j, e, hj, _, _⟩ := ho i hi
      omega
    have hle : ∀ j, j < l.length → tmN f ((j : Int) + 1) f.length ≤ if usB (sG l j) (sA l j) then 1 else 0 := fun j _ => by
      cases hu : usB (sG l j) (sA l j)
      · rw [tm_zero (fun i hi he => ?_)]
        · exact Nat.zero_le _
        · obtain ⟨j', e, _, hu', _⟩ := ho i hi
          obtain rfl : j' = j := by omega
          rw [hu] at hu'; cases hu'
      · exact tm_one hd
    have heq := sumN_eq hle (by rw [sum_tm, cntIn_all hin, ← us_sum, ← hf])
    have hl := livN_len l l.length
    unfold rightB
    simp only [Bool.and_eq_true, decide_eq_true_eq]
    refine ⟨?_, by omega, rAll_true fun j hj => ?_, hf⟩
    · unfold szB mostB; simp; omega
    · unfold rOk; rw [hso j hj, heq j hj]; simp
end Go.Proofs.YtaglhajlgnjhcaaDoor
