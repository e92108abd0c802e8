/- Floats by their bits: when a word is none, what 0 and a word come to, what is beyond all. -/
import Derived.Test.YtglfhgedaknljaaPl
import Derived.Laws.FloatArith
namespace Go.Proofs.Ytglfhgedaknljaa
open Go.RowKit Ieee

/-- A word of 64 bits that is no number. -/
def NaNw (n : Nat) : Prop := n < 18446744073709551616 ∧ nuW (n : Int) = false

theorem rd (n : Nat) : double.read n = (if n % 9223372036854775808 < 4503599627370496 then .number (n / 9223372036854775808 % 2 == 1) (n % 9223372036854775808) (-1074) else if n % 9223372036854775808 < 9218868437227405312 then .number (n / 9223372036854775808 % 2 == 1) (4503599627370496 + n % 9223372036854775808 % 4503599627370496) (-1074 + ((n % 9223372036854775808 / 4503599627370496 - 1 : Nat) : Int)) else if n % 9223372036854775808 = 9218868437227405312 then .infinity (n / 9223372036854775808 % 2 == 1) else .nan (n / 9223372036854775808 % 2 == 1) (n % 9223372036854775808 - 9218868437227405312)) := by
  rfl

theorem rd_nan {n : Nat} (h : NaNw n) : ∃ s t, double.read n = .nan s t := by
  obtain ⟨h1, h2⟩ := h
  have := nuW_f (x := (n : Int)) ⟨by omega, by omega⟩ h2
  rw [rd, if_neg (by omega), if_neg (by omega), if_neg (by omega)]
  exact ⟨_, _, rfl⟩
theorem rd_num {n : Nat} (h : n < 18446744073709551616) (hn : nuW (n : Int) = true) : ∀ s t, double.read n ≠ .nan s t := by
  have := nuW_t (x := (n : Int)) ⟨by omega, by omega⟩ hn
  intro s t
  rw [rd]
  split
  · simp
  · split
    · simp
    · split
      · simp
      · omega
theorem order_self {n : Nat} (h : n < 18446744073709551616) : (double.order n n == some .eq) = nuW (n : Int) := by
  unfold Format.order
  cases hn : nuW (n : Int)
  · obtain ⟨s, t, e⟩ := rd_nan ⟨h, hn⟩
    rw [e]; rfl
  · have := rd_num h hn
    cases e : double.read n with
    | number s m i => simp [Datum.order]
    | infinity s => simp [Datum.order]
    | nan s t => exact absurd e (this s t)
theorem add_nan_l {n m : Nat} (h : NaNw n) : double.add n m = none := by
  obtain ⟨s, t, e⟩ := rd_nan h
  unfold Format.add; rw [e]; rfl
theorem add_nan_r {n m : Nat} (h : NaNw m) : double.add n m = none := by
  obtain ⟨s, t, e⟩ := rd_nan h
  unfold Format.add; rw [e]
  cases double.read n <;> rfl

theorem log2_eq {m k : Nat} (h0 : 2 ^ k ≤ m) (h1 : m < 2 ^ (k + 1)) : m.log2 = k := by
  have hm : m ≠ 0 := by have := Nat.two_pow_pos k; omega
  have a := (Nat.le_log2 hm).2 h0
  have b := (Nat.log2_lt hm).2 h1
  omega
theorem word_eq (s : Bool) (r : Nat) : double.word s r = if s then 9223372036854775808 + r else r := rfl
/-- A number's word, written again. -/
theorem near_small (s : Bool) (r : Nat) (h0 : r ≠ 0) (h1 : r < 4503599627370496) : double.nearest s r (-1074) = double.word s r := by
  have hl : r.log2 < 52 := (Nat.log2_lt h0).2 h1
  unfold Format.nearest
  rw [if_neg h0]
  have e1 : double.leastPlace = -1074 := rfl
  have e2 : double.fractionBits = 52 := rfl
  rw [e1, e2]
  have e3 : max ((-1074 : Int) + (r.log2 : Int) - ((52 : Nat) : Int)) (-1074) = -1074 := by omega
  simp only [e3]
  have e4 : double.infRung = 9218868437227405312 := rfl
  have e5 : Toward.even.cut s r 0 = r := by
    unfold Toward.cut
    simp; omega
  simp [e4, e5]
  rw [Nat.min_eq_left (by omega)]
theorem near_big (s : Bool) (k m : Nat) (h0 : 4503599627370496 ≤ m) (h1 : m < 9007199254740992) (hk : k * 4503599627370496 + m ≤ 9218868437227405312) : double.nearest s (m <<< k) (-1074) = double.word s (k * 4503599627370496 + m) := by
  have hp := Nat.two_pow_pos k
  have hs : m <<< k = m * 2 ^ k := Nat.shiftLeft_eq m k
  have hne : m <<< k ≠ 0 := by rw [hs]; exact Nat.ne_of_gt (Nat.mul_pos (by omega) hp)
  have hl : (m <<< k).log2 = 52 + k := by
    apply log2_eq
    · rw [hs, Nat.pow_add]; exact Nat.mul_le_mul_right _ h0
    · rw [hs, show 52 + k + 1 = 53 + k by omega, Nat.pow_add]; exact Nat.mul_lt_mul_of_pos_right h1 hp
  unfold Format.nearest
  rw [if_neg hne]
  have e1 : double.leastPlace = -1074 := rfl
  have e2 : double.fractionBits = 52 := rfl
  rw [e1, e2, hl]
  have e3 : max ((-1074 : Int) + ((52 + k : Nat) : Int) - ((52 : Nat) : Int)) (-1074) = -1074 + k := by omega
  simp only [e3]
  have e4 : double.infRung = 9218868437227405312 := rfl
  have e6 : double.binade = 4503599627370496 := rfl
  have a1 : ((-1074 : Int) - (-1074 + (k : Int))).toNat = 0 := by omega
  have a2 : ((-1074 : Int) + (k : Int) - (-1074)).toNat = k := by omega
  rw [a1, a2]
  have e5 : Toward.even.cut s ((m <<< k) <<< 0) k = m := by
    unfold Toward.cut
    simp only [Nat.shiftLeft_zero, hl]
    rw [Nat.min_eq_left (by omega), Nat.one_shiftLeft, hs, Nat.mul_div_cancel _ hp, Nat.mul_mod_left]
    have : ¬ (2 ^ k < 2 * 0) := by omega
    have h2 : (2 ^ k == 2 * 0) = false := by rw [beq_eq_false_iff_ne]; omega
    simp
  rw [e5, e4, e6, Nat.min_eq_left hk]

theorem sum_zero (s : Bool) (m k : Nat) (h0 : m ≠ 0) : Datum.sum (.number false 0 (-1074)) (.number s m (-1074 + (k : Int))) = some (.number s (m <<< k) (-1074)) := by
  have hp := Nat.two_pow_pos k
  have hs : m <<< k = m * 2 ^ k := Nat.shiftLeft_eq m k
  have hne : 0 < m <<< k := by rw [hs]; exact Nat.mul_pos (by omega) hp
  have hb : min (-1074 : Int) (-1074 + (k : Int)) = -1074 := by omega
  have a1 : ((-1074 : Int) - (-1074)).toNat = 0 := by omega
  have a2 : ((-1074 : Int) + (k : Int) - (-1074)).toNat = k := by omega
  unfold Datum.sum
  simp only [hb, a1, a2]
  have z : signed false 0 0 = 0 := rfl
  rw [z, Int.zero_add]
  unfold signed
  obtain ⟨t, ht⟩ : ∃ t, t = m <<< k := ⟨_, rfl⟩
  rw [← ht] at hne ⊢
  cases s
  · have : ¬ ((t : Int) = 0) := by omega
    have h2 : ¬ ((t : Int) < 0) := by omega
    simp [h2]
    try omega
  · have : ¬ (-(t : Int) = 0) := by omega
    have h2 : -(t : Int) < 0 := by omega
    simp; omega
theorem add_zero {n : Nat} (h : n < 18446744073709551616) (hn : nuW (n : Int) = true) : double.add 0 n = some (unW (n : Int)).toNat := by
  have hb := nuW_t (x := (n : Int)) ⟨by omega, by omega⟩ hn
  have e0 : double.read 0 = .number false 0 (-1074) := rfl
  unfold Format.add
  rw [e0, rd]
  have hs : (n / 9223372036854775808 % 2 == 1) = decide (9223372036854775808 ≤ n) := by
    by_cases q : 9223372036854775808 ≤ n
    · have : n / 9223372036854775808 % 2 = 1 := by omega
      simp [q, this]
    · have : n / 9223372036854775808 % 2 = 0 := by omega
      simp [q, this]
  rw [hs]
  obtain ⟨r, hr⟩ : ∃ r, r = n % 9223372036854775808 := ⟨_, rfl⟩
  obtain ⟨s, es⟩ : ∃ s, s = decide (9223372036854775808 ≤ n) := ⟨_, rfl⟩
  have hw : double.word s r = n := by
    rw [word_eq, es]
    by_cases q : 9223372036854775808 ≤ n <;> simp [q] <;> omega
  have hu : r ≠ 0 → (unW (n : Int)).toNat = n := by
    intro h0; unfold unW; rw [if_neg (by omega)]; omega
  have hz : r = 0 → (unW (n : Int)).toNat = 0 := by
    intro h0; unfold unW; split <;> omega
  rw [← hr, ← es]
  clear hs
  by_cases q1 : r < 4503599627370496
  · rw [if_pos q1]
    by_cases q0 : r = 0
    · rw [hz q0, q0]
      cases s <;> rfl
    · rw [hu q0]
      have e : Datum.sum (.number false 0 (-1074)) (.number s r (-1074)) = some (.number s r (-1074)) := by
        have := sum_zero s r 0 q0
        simpa using this
      rw [e]
      show some (double.nearest s r (-1074)) = some n
      rw [near_small s r q0 q1, hw]
  · rw [if_neg q1]
    by_cases q2 : r < 9218868437227405312
    · rw [if_pos q2, hu (by omega), sum_zero s _ _ (by omega)]
      show some (double.nearest s ((4503599627370496 + r % 4503599627370496) <<< (r / 4503599627370496 - 1)) (-1074)) = some n
      rw [near_big s _ _ (by omega) (by omega) (by omega)]
      rw [show (r / 4503599627370496 - 1) * 4503599627370496 + (4503599627370496 + r % 4503599627370496) = r by omega, hw]
    · rw [if_neg q2]
      have q3 : r = 9218868437227405312 := by omega
      rw [if_pos q3, hu (by omega)]
      have : (Datum.sum (.number false 0 (-1074)) (.infinity s)) = some (.infinity s) := rfl
      rw [this]
      have e4 : double.infRung = 9218868437227405312 := rfl
      show some (double.word s double.infRung) = some n
      rw [e4, ← q3, hw]


/-- What m and x come to: r. -/
def AddsTo (m x r : Nat) : Prop := r < 18446744073709551616 ∧ match double.add m x with | some v => r = v | none => NaNw r
/-- s, and the words l added one by one, come to r. -/
def Summed : Nat → List Int → Nat → Prop
  | s, [], r => r = s
  | s, x :: t, r => ∃ m, AddsTo s x.toNat m ∧ Summed m t r
theorem Summed.snoc : ∀ {s : Nat} {l : List Int} {m : Nat} {x : Int} {r : Nat}, Summed s l m → AddsTo m x.toNat r → Summed s (l ++ [x]) r
  | s, [], m, x, r, h, a => by cases h; exact ⟨r, a, rfl⟩
  | s, y :: t, m, x, r, ⟨q, hq, h⟩, a => ⟨q, hq, Summed.snoc h a⟩
theorem Summed.lt : ∀ {s : Nat} {l : List Int} {r : Nat}, s < 18446744073709551616 → Summed s l r → r < 18446744073709551616
  | s, [], r, h, e => by cases e; exact h
  | s, y :: t, r, h, ⟨q, hq, e⟩ => Summed.lt hq.1 e
theorem AddsTo.nan_l {m x r : Nat} (h : AddsTo m x r) (hn : NaNw m) : NaNw r := by
  have := h.2; rw [add_nan_l hn] at this; exact this
theorem AddsTo.nan_r {m x r : Nat} (h : AddsTo m x r) (hn : NaNw x) : NaNw r := by
  have := h.2; rw [add_nan_r hn] at this; exact this
theorem AddsTo.same {m x r r' : Nat} (h : AddsTo m x r) (h' : AddsTo m x r') : r = r' ∨ (NaNw r ∧ NaNw r') := by
  have a := h.2; have b := h'.2
  cases e : double.add m x with
  | none => rw [e] at a b; exact .inr ⟨a, b⟩
  | some v => rw [e] at a b; exact .inl (a.trans b.symm)
theorem Summed.nan : ∀ {s : Nat} {l : List Int} {r : Nat}, NaNw s → Summed s l r → NaNw r
  | s, [], r, h, e => by cases e; exact h
  | s, y :: t, r, h, ⟨q, hq, e⟩ => Summed.nan (hq.nan_l h) e
theorem Summed.same : ∀ {s : Nat} {l : List Int} {r r' : Nat}, Summed s l r → Summed s l r' → r = r' ∨ (NaNw r ∧ NaNw r')
  | s, [], r, r', e, e' => by cases e; cases e'; exact .inl rfl
  | s, y :: t, r, r', ⟨q, hq, e⟩, ⟨q', hq', e'⟩ => by
    rcases hq.same hq' with rfl | ⟨a, b⟩
    · exact Summed.same e e'
    · exact .inr ⟨Summed.nan a e, Summed.nan b e'⟩
theorem Summed.has : ∀ {s : Nat} {l : List Int} {r : Nat}, (∀ x ∈ l, W64 x) → Summed s l r → (∃ x ∈ l, nuW x = false) → NaNw r
  | s, [], r, _, e, ⟨x, hx, _⟩ => by cases hx
  | s, y :: t, r, hl, ⟨q, hq, e⟩, ⟨x, hx, hn⟩ => by
    have hy := hl y (by simp)
    cases hny : nuW y
    · exact Summed.nan (hq.nan_r ⟨by unfold W64 at hy; omega, by rw [Int.toNat_of_nonneg hy.1]; exact hny⟩) e
    · have hx' : x ∈ t := by
        rcases List.mem_cons.1 hx with rfl | h
        · rw [hn] at hny; cases hny
        · exact h
      exact Summed.has (fun z hz => hl z (by simp [hz])) e ⟨x, hx', hn⟩
/-- Beyond all on one side, or none. -/
def Bey (s : Bool) (n : Nat) : Prop := NaNw n ∨ n = double.word s 9218868437227405312
theorem rd_inf (s : Bool) : double.read (double.word s 9218868437227405312) = .infinity s := by cases s <;> decide +kernel
theorem wr_inf (s : Bool) : double.write (.infinity s) = double.word s 9218868437227405312 := rfl
theorem AddsTo.to_inf {s : Bool} {m r : Nat} (h : AddsTo m (double.word s 9218868437227405312) r) : Bey s r := by
  have a := h.2
  unfold Format.add at a
  rw [rd_inf] at a
  cases e : double.read m with
  | number p q i => rw [e] at a; right; exact a
  | infinity t =>
    rw [e] at a
    simp only [Datum.sum] at a
    by_cases q : t = s
    · subst q; rw [if_pos rfl] at a; right; exact a
    · rw [if_neg q] at a; left; exact a
  | nan p q => rw [e] at a; left; exact a
theorem Bey.go {s : Bool} {m x r : Nat} (hb : Bey s m) (h : AddsTo m x r) : Bey s r := by
  rcases hb with hb | rfl
  · exact .inl (h.nan_l hb)
  · have a := h.2
    unfold Format.add at a
    rw [rd_inf] at a
    cases e : double.read x with
    | number p q i => rw [e] at a; right; exact a
    | infinity t =>
      rw [e] at a
      simp only [Datum.sum] at a
      by_cases q : s = t
      · rw [if_pos q] at a; right; exact a
      · rw [if_neg q] at a; left; exact a
    | nan p q => rw [e] at a; left; exact a
theorem Bey.meets {s : Bool} {m r : Nat} (hb : Bey s m) (h : AddsTo m (double.word (!s) 9218868437227405312) r) : NaNw r := by
  rcases hb with hb | rfl
  · exact h.nan_l hb
  · have a := h.2
    unfold Format.add at a
    rw [rd_inf, rd_inf] at a
    simp only [Datum.sum] at a
    rw [if_neg (by cases s <;> simp)] at a
    exact a
theorem Summed.bey : ∀ {s : Bool} {m : Nat} {l : List Int} {r : Nat}, Bey s m → Summed m l r → ((double.word (!s) 9218868437227405312 : Nat) : Int) ∈ l → NaNw r
  | s, m, [], r, _, _, h => by cases h
  | s, m, y :: t, r, hb, ⟨q, hq, e⟩, h => by
    rcases List.mem_cons.1 h with h | h
    · rw [← h, Int.toNat_natCast] at hq
      exact Summed.nan (hb.meets hq) e
    · exact Summed.bey (hb.go hq) e h
theorem Summed.both : ∀ {m : Nat} {l : List Int} {r : Nat}, Summed m l r → (9218868437227405312 : Int) ∈ l → (18442240474082181120 : Int) ∈ l → NaNw r
  | m, [], r, _, h, _ => by cases h
  | m, y :: t, r, ⟨q, hq, e⟩, h, h' => by
    by_cases q1 : y = 9218868437227405312
    · subst q1
      have hb : Bey false q := AddsTo.to_inf (s := false) hq
      rcases List.mem_cons.1 h' with h' | h'
      · omega
      · exact Summed.bey hb e h'
    · by_cases q2 : y = 18442240474082181120
      · subst q2
        have hb : Bey true q := AddsTo.to_inf (s := true) hq
        rcases List.mem_cons.1 h with h | h
        · omega
        · exact Summed.bey hb e h
      · rcases List.mem_cons.1 h with h | h
        · exact absurd h.symm q1
        · rcases List.mem_cons.1 h' with h' | h'
          · exact absurd h'.symm q2
          · exact Summed.both e h h'
theorem Summed.alone {x : Int} {r : Nat} (hx : W64 x) (h : Summed 0 [x] r) : (nuW x = false ∧ NaNw r) ∨ (nuW x = true ∧ r = (unW x).toNat) := by
  obtain ⟨m, hm, e⟩ := h
  cases e
  have ex := Int.toNat_of_nonneg hx.1
  cases hn : nuW x
  · exact .inl ⟨rfl, hm.nan_r ⟨by unfold W64 at hx; omega, by rw [ex]; exact hn⟩⟩
  · have a := hm.2
    rw [add_zero (by unfold W64 at hx; omega) (by rw [ex]; exact hn), ex] at a
    exact .inr ⟨rfl, a⟩
theorem two : double.add 4607182418800017408 4607182418800017408 = some 4611686018427387904 := by decide +kernel
theorem Summed.ones {r : Nat} (h : Summed 0 [4607182418800017408, 4607182418800017408] r) : r = 4611686018427387904 := by
  obtain ⟨m, hm, q, hq, e⟩ := h
  cases e
  have a := hm.2
  have b := hq.2
  have e0 : double.add 0 4607182418800017408 = some 4607182418800017408 := by decide +kernel
  rw [show (4607182418800017408 : Int).toNat = 4607182418800017408 from rfl] at a b
  rw [e0] at a
  simp only at a
  rw [a, two] at b
  exact b
end Go.Proofs.Ytglfhgedaknljaa
