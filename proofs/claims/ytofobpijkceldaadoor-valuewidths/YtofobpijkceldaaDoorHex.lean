/- Words to the base 16: plain mathematics. -/
import Derived.WalkKit
import Derived.Laws.BitsAllLaws
namespace Go.Proofs.YtofobpijkceldaaDoor
open Go.RowKit

/-- The digit of a number below 16. -/
def hexD (d : Nat) : UInt8 := UInt8.ofNat (if d < 10 then 48 + d else 87 + d)
theorem hexD_nat (d : Nat) (h : d < 16) : (hexD d).toNat = if d < 10 then 48 + d else 87 + d := by
  unfold hexD; split <;> simp [UInt8.toNat_ofNat'] <;> omega
/-- A word's text. -/
def hexW (n : Nat) : List UInt8 := if _h : n < 16 then [hexD n] else hexW (n / 16) ++ [hexD (n % 16)]
termination_by n
decreasing_by omega
theorem hexW_small {n : Nat} (h : n < 16) : hexW n = [hexD n] := by rw [hexW]; simp [h]
theorem hexW_big {n : Nat} (h : ¬ n < 16) : hexW n = hexW (n / 16) ++ [hexD (n % 16)] := by rw [hexW]; simp [h]
theorem hexW_pos (n : Nat) : 0 < (hexW n).length := by
  by_cases h : n < 16
  · rw [hexW_small h]; simp
  · rw [hexW_big h]; simp
theorem hexW_len : ∀ (j : Nat) (n : Nat), n < 16 ^ (j + 1) → (hexW n).length ≤ j + 1 := by
  intro j
  induction j with
  | zero => intro n h; rw [hexW_small (by omega)]; simp
  | succ j ih =>
    intro n h
    by_cases h' : n < 16
    · rw [hexW_small h']; simp
    · rw [hexW_big h']
      have := ih (n / 16) (by rw [Nat.div_lt_iff_lt_mul (by omega), ← Nat.pow_succ]; exact h)
      simp; omega
theorem hexW_len16 (n : Nat) (h : n < 18446744073709551616) : (hexW n).length ≤ 16 := hexW_len 15 n (by simpa using h)

/-- How far the digits of a word have been laid: v is what is left, S what lies there, at the end of 65 places. -/
structure HexI (n : Nat) (v j : Nat) (S : List UInt8) : Prop where
  len : S.length = j
  eq : hexW n = hexW v ++ S
  bd : v < 16 ^ (16 - j)
  j15 : j ≤ 15
theorem HexI.start {n : Nat} (h : n < 18446744073709551616) : HexI n n 0 [] := ⟨rfl, by simp, by simpa using h, by omega⟩
theorem HexI.j14 {n v j : Nat} {S : List UInt8} (h : HexI n v j S) (hv : 16 ≤ v) : j ≤ 14 := by
  have b := h.bd; have := h.j15
  rcases Nat.lt_or_ge j 15 with h1 | h1
  · omega
  · have e : 16 - j = 1 := by omega
    rw [e] at b; omega
theorem HexI.step {n v j : Nat} {S : List UInt8} (h : HexI n v j S) (hv : 16 ≤ v) : HexI n (v / 16) (j + 1) (hexD (v % 16) :: S) := by
  have hj := h.j14 hv
  refine ⟨by simp [h.len], ?_, ?_, by omega⟩
  · rw [h.eq, hexW_big (by omega)]; simp
  · have e : 16 - j = (16 - (j + 1)) + 1 := by omega
    have b := h.bd
    rw [e, Nat.pow_succ] at b
    exact Nat.div_lt_of_lt_mul (by omega)
theorem HexI.done {n v j : Nat} {S : List UInt8} (h : HexI n v j S) (hv : v < 16) : hexW n = hexD v :: S := by
  rw [h.eq, hexW_small hv]; rfl
theorem and15 (a : Int) (h0 : 0 ≤ a) (h1 : a < 18446744073709551616) : bits .and .u64 a 15 = a % 16 := by
  rw [u64_and a 15 h0 h1 (by omega) (by omega)]
  have : (15 : Int).toNat = 2 ^ 4 - 1 := by decide
  rw [this, Nat.and_two_pow_sub_one_eq_mod]
  omega
def digs : ByteArray := ⟨#[48, 49, 50, 51, 52, 53, 54, 55, 56, 57, 97, 98, 99, 100, 101, 102, 103, 104, 105, 106, 107, 108, 109, 110, 111, 112, 113, 114, 115, 116, 117, 118, 119, 120, 121, 122]⟩
theorem digs_at : ∀ d, d < 16 → digs[d]? = some (hexD d) := by decide +kernel
theorem idx_digs {P : Program} (t : TypeId) (ht : P.underlying t = some .string) (q : IntKind) (x : Int) (d : Nat) (hd : d < 16) (hx : x = d) (w : World) :
    (Instr.index t (.string digs) (.int q x)).run P w = .ok (.int .u8 ((hexD d).toNat : Int)) w := by
  subst hx
  have := digs_at d hd
  simp [Instr.index, run_underlying ht, asIntOf, this]
end Go.Proofs.YtofobpijkceldaaDoor
