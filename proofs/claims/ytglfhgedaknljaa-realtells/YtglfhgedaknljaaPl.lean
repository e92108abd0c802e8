/- Plain arithmetic of words: their parts, classes, places, tests. Imports nothing of the program. -/
import Derived.WalkKit
import Derived.Laws.BitsAllLaws
namespace Go.Proofs.Ytglfhgedaknljaa
open Go.RowKit

theorem hidOg {p : Prop} (h : p) : Hid p := h
def W64 (x : Int) : Prop := 0 ≤ x ∧ x < 18446744073709551616
def ngW (x : Int) : Bool := decide (9223372036854775808 ≤ x)
def exW (x : Int) : Int := x / 4503599627370496 % 2048
def maW (x : Int) : Int := x % 4503599627370496
def clW (x : Int) : Int := if exW x = 2047 then (if maW x = 0 then 3 else 4) else if exW x = 0 then (if maW x = 0 then 0 else 1) else 2
def nuW (x : Int) : Bool := decide (clW x ≠ 4)
def unW (x : Int) : Int := if x = 9223372036854775808 then 0 else x
def plW (x : Int) : Int := if 9223372036854775808 ≤ x then 18446744073709551615 - x else x + 9223372036854775808
def atW (x : Int) : Int := if 9223372036854775808 ≤ x then x - 9223372036854775808 else 18446744073709551615 - x
def cmI (a b : Int) : Int := if a < b then -1 else if b < a then 1 else 0
def cmW (a b : Int) : Int := cmI (plW a) (plW b)
def tsO (k o : Int) : Bool := (decide (k = 1) && decide (o < 0)) || (decide (k = 2) && decide (0 < o)) || (decide (k = 3) && decide (o = 0))
def tsW (k a b : Int) : Bool := nuW a && nuW b && tsO k (cmW (unW a) (unW b))
def nxW (x : Int) : Int := unW (atW (plW (unW x) + 1))
def nxV (x : Int) : Int := if nuW x then (if x = 9218868437227405312 then 0 else nxW x) else 0
def nxE (x : Int) : Int := if nuW x then (if x = 9218868437227405312 then 4 else 0) else 2
def maOk (e m : Int) : Bool := decide (0 ≤ e) && decide (e ≤ 2047) && decide (m < 4503599627370496)
def mdW (b : Bool) (e m : Int) : Int := (if b then 9223372036854775808 else 0) + e * 4503599627370496 + m

theorem and52 (a : Int) (h : W64 a) : bits .and .u64 a 4503599627370495 = maW a := by
  obtain ⟨h0, h1⟩ := h
  rw [u64_and a 4503599627370495 h0 h1 (by omega) (by omega)]
  have : (4503599627370495 : Int).toNat = 2 ^ 52 - 1 := by decide
  rw [this, Nat.and_two_pow_sub_one_eq_mod]
  unfold maW; omega
theorem and11 (a : Int) (h : W64 a) : bits .and .u64 (a / 4503599627370496) 2047 = exW a := by
  obtain ⟨h0, h1⟩ := h
  rw [u64_and (a / 4503599627370496) 2047 (by omega) (by omega) (by omega) (by omega)]
  have : (2047 : Int).toNat = 2 ^ 11 - 1 := by decide
  rw [this, Nat.and_two_pow_sub_one_eq_mod]
  unfold exW; omega
theorem or63 (a : Int) (h0 : 0 ≤ a) (h1 : a < 9223372036854775808) : bits .or .u64 a 9223372036854775808 = a + 9223372036854775808 := by
  rw [u64_or a 9223372036854775808 h0 (by omega) (by omega) (by omega)]
  have h := nat_join 63 9223372036854775808 a.toNat (by decide) (by omega)
  have e : (9223372036854775808 : Int).toNat = 9223372036854775808 := by decide
  rw [e, Nat.or_comm, h]; omega
theorem anot63 (a : Int) (h : W64 a) (h2 : 9223372036854775808 ≤ a) : bits .andNot .u64 a 9223372036854775808 = a - 9223372036854775808 := by
  obtain ⟨h0, h1⟩ := h
  rw [u64_andNot a 9223372036854775808 h0 h1 (by omega) (by omega)]
  have e : (18446744073709551615 - (9223372036854775808 : Int).toNat) = 2 ^ 63 - 1 := by decide
  rw [e, Nat.and_two_pow_sub_one_eq_mod]; omega
theorem or52 (e m : Int) (h0 : 0 ≤ e) (h1 : e ≤ 2047) (h2 : 0 ≤ m) (h3 : m < 4503599627370496) : bits .or .u64 (e * 4503599627370496) m = e * 4503599627370496 + m := by
  rw [u64_or _ _ (by omega) (by omega) (by omega) (by omega)]
  have h := nat_join 52 (e * 4503599627370496).toNat m.toNat (by omega) (by omega)
  rw [h]; omega

theorem exW_bd (x : Int) : 0 ≤ exW x ∧ exW x < 2048 := by unfold exW; omega
theorem maW_bd (x : Int) : 0 ≤ maW x ∧ maW x < 4503599627370496 := by unfold maW; omega
theorem unW_64 {x : Int} (h : W64 x) : W64 (unW x) := by unfold unW W64 at *; split <;> omega
theorem plW_64 {x : Int} (h : W64 x) : W64 (plW x) := by unfold plW W64 at *; split <;> omega
theorem atW_64 {x : Int} (h : W64 x) : W64 (atW x) := by unfold atW W64 at *; split <;> omega
/-- Words that have numbers, as numbers. -/
theorem nuW_iff {x : Int} (h : W64 x) : nuW x = true ↔ (x ≤ 9218868437227405312 ∨ (9223372036854775808 ≤ x ∧ x ≤ 18442240474082181120)) := by
  unfold nuW clW exW maW W64 at *
  simp only [decide_eq_true_eq]
  constructor
  · intro hn
    split at hn
    · split at hn <;> omega
    · omega
  · intro hn
    split
    · split <;> omega
    · split
      · split <;> omega
      · omega
theorem nuW_f {x : Int} (h : W64 x) (hn : nuW x = false) : 9218868437227405312 < x ∧ (x < 9223372036854775808 ∨ 18442240474082181120 < x) := by
  have := nuW_iff h
  rw [hn] at this
  simp at this
  omega
theorem nuW_t {x : Int} (h : W64 x) (hn : nuW x = true) : (x ≤ 9218868437227405312 ∨ (9223372036854775808 ≤ x ∧ x ≤ 18442240474082181120)) := (nuW_iff h).1 hn
theorem plW_inj {a b : Int} (ha : W64 a) (hb : W64 b) (h : plW a = plW b) : a = b := by
  unfold plW W64 at *; split at h <;> split at h <;> omega
end Go.Proofs.Ytglfhgedaknljaa
