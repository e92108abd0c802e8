/- Words' texts are read: plain mathematics. -/
import Derived.Test.YtofobpijkceldaaDoorHex
namespace Go.Proofs.YtofobpijkceldaaDoor
open Go.RowKit

/-- Is it a digit? -/
def isHN (r : Int) : Bool := (decide (48 ≤ r) && decide (r ≤ 57)) || (decide (97 ≤ r) && decide (r ≤ 102))
def isH (c : UInt8) : Bool := isHN (c.toNat : Int)
/-- Its number. -/
def vHN (r : Int) : Int := if r ≤ 57 then r - 48 else r - 87
def vH (c : UInt8) : Nat := if c.toNat ≤ 57 then c.toNat - 48 else c.toNat - 87
theorem isHN_bd {r : Int} (h : isHN r = true) : 48 ≤ r ∧ r ≤ 102 := by simp [isHN] at h; omega
theorem vHN_bd {r : Int} (h : isHN r = true) : 0 ≤ vHN r ∧ vHN r < 16 := by simp [isHN] at h; unfold vHN; split <;> omega
theorem vH_eq {c : UInt8} (h : isH c = true) : (vH c : Int) = vHN (c.toNat : Int) := by
  have := h; unfold isH at this; simp [isHN] at this
  unfold vH vHN; split <;> (split <;> omega)
theorem vH_lt {c : UInt8} (h : isH c = true) : vH c < 16 := by have := vH_eq h; have := vHN_bd h; omega
theorem snoc_ind {p : List UInt8 → Prop} (h0 : p []) (h1 : ∀ l c, p l → p (l ++ [c])) (l : List UInt8) : p l := by
  have h : ∀ r : List UInt8, p r.reverse := by
    intro r
    induction r with
    | nil => exact h0
    | cons c r ih => rw [List.reverse_cons]; exact h1 _ _ ih
  have := h l.reverse
  rwa [List.reverse_reverse] at this
/-- The number of some digits. -/
def numH (l : List UInt8) : Nat := l.foldl (fun a c => 16 * a + vH c) 0
theorem numH_snoc (l : List UInt8) (c : UInt8) : numH (l ++ [c]) = 16 * numH l + vH c := by simp [numH]
theorem numH_lt : ∀ (l : List UInt8), l.all isH = true → numH l < 16 ^ l.length := by
  refine snoc_ind (fun _ => by simp [numH]) fun l c ih h => ?_
  rw [List.all_append] at h
  simp at h
  have := ih (by simpa using h.1)
  have := vH_lt h.2
  rw [numH_snoc, List.length_append, List.length_singleton, Nat.pow_succ]
  omega
/-- Is it a word's text? -/
def okW (l : List UInt8) : Bool := decide (1 ≤ l.length ∧ l.length ≤ 16) && !(decide (1 < l.length) && (l.headD 0 == 48)) && l.all isH
def wordV (l : List UInt8) : Nat := if okW l then numH l else 0
theorem wordV_lt (l : List UInt8) : wordV l < 18446744073709551616 := by
  unfold wordV
  cases h : okW l
  · simp
  · unfold okW at h
    simp only [Bool.and_eq_true] at h
    have h1 := numH_lt l h.2
    have h2 : l.length ≤ 16 := (of_decide_eq_true h.1.1).2
    have h3 : 16 ^ l.length ≤ 16 ^ 16 := Nat.pow_le_pow_right (by omega) h2
    have h4 : (16 : Nat) ^ 16 = 18446744073709551616 := by decide
    simp; omega
/-- A digit's text is read. -/
theorem isH_hexD : ∀ d, d < 16 → isH (hexD d) = true ∧ vH (hexD d) = d := by decide +kernel
theorem hexD_vH : ∀ c : UInt8, isH c = true → hexD (vH c) = c := by
  intro c h
  have e := vH_eq h
  have := h; unfold isH at this; simp [isHN] at this
  have h2 := hexD_nat (vH c) (vH_lt h)
  apply UInt8.toNat_inj.1
  rw [h2]
  unfold vH
  split <;> (split <;> omega)
theorem hexW_all (n : Nat) : (hexW n).all isH = true ∧ numH (hexW n) = n := by
  induction n using Nat.strongRecOn with
  | _ n ih =>
    by_cases h : n < 16
    · rw [hexW_small h]; have := isH_hexD n h; simp [numH, this]
    · rw [hexW_big h]
      obtain ⟨a, b⟩ := ih (n / 16) (by omega)
      obtain ⟨c, d⟩ := isH_hexD (n % 16) (by omega)
      refine ⟨by rw [List.all_append, a]; simp [c], ?_⟩
      rw [numH_snoc, b, d]; omega
theorem hexW_head (n : Nat) (h : 16 ≤ n) : ((hexW n).headD 0 == 48) = false := by
  induction n using Nat.strongRecOn with
  | _ n ih =>
    rw [hexW_big (by omega)]
    by_cases h' : n / 16 < 16
    · rw [hexW_small h']
      have e := hexD_nat (n / 16) h'
      simp only [List.cons_append, List.headD_cons, beq_eq_false_iff_ne]
      intro c; rw [c] at e; simp at e; split at e <;> omega
    · have := ih (n / 16) (by omega) (by omega)
      cases hw : hexW (n / 16) with
      | nil => have := hexW_pos (n / 16); rw [hw] at this; simp at this
      | cons c r => rw [hw] at this; simpa using this
theorem okW_hexW (n : Nat) (h : n < 18446744073709551616) : okW (hexW n) = true := by
  unfold okW
  rw [(hexW_all n).1, decide_eq_true ⟨hexW_pos n, hexW_len16 n h⟩]
  by_cases h' : n < 16
  · rw [hexW_small h']; simp
  · rw [hexW_head n (by omega)]; simp
theorem wordV_hexW (n : Nat) (h : n < 18446744073709551616) : wordV (hexW n) = n := by
  unfold wordV; rw [okW_hexW n h]; exact (hexW_all n).2
/-- A word's text is its own. -/
theorem hexW_numH : ∀ (l : List UInt8), l ≠ [] → l.all isH = true → (1 < l.length → (l.headD 0 == 48) = false) → hexW (numH l) = l := by
  refine snoc_ind (fun h => absurd rfl h) fun l c ih _ h hh => ?_
  rw [List.all_append] at h
  simp only [Bool.and_eq_true, List.all_cons, List.all_nil, and_true] at h
  have hc := vH_lt h.2
  rw [numH_snoc]
  cases l with
  | nil => simp [numH]; rw [hexW_small hc, hexD_vH c h.2]
  | cons b r =>
    have hb : (b == 48) = false := by simpa using hh (by simp)
    have e := ih (by simp) h.1 (fun _ => by simpa using hb)
    have hpos : 1 ≤ numH (b :: r) := by
      rcases Nat.eq_zero_or_pos (numH (b :: r)) with h0 | h0
      · exfalso
        rw [h0, hexW_small (by omega)] at e
        have e2 : b = hexD 0 := by injection e with e1; exact e1.symm
        rw [e2] at hb; revert hb; decide
      · exact h0
    rw [hexW_big (by omega), show (16 * numH (b :: r) + vH c) / 16 = numH (b :: r) by omega, show (16 * numH (b :: r) + vH c) % 16 = vH c by omega, e, hexD_vH c h.2]
theorem hexW_wordV {l : List UInt8} (h : okW l = true) : hexW (wordV l) = l := by
  unfold wordV; rw [h]
  unfold okW at h
  simp only [Bool.and_eq_true] at h
  have h1 := of_decide_eq_true h.1.1
  refine hexW_numH l (by intro e; rw [e] at h1; simp at h1) h.2 fun h2 => ?_
  have := h.1.2
  rw [decide_eq_true h2] at this
  simpa using this
end Go.Proofs.YtofobpijkceldaaDoor
