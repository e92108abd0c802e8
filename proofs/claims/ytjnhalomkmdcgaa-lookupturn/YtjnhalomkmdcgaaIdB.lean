/- Plain arithmetic of ids: masks, joined fields, kinds, parts. Imports nothing of the program. -/
/- Contracts of the small functions of package ident: within, join, split. -/
/- Contracts of ident.Kind and its closures. -/
import Derived.WalkKit
import Derived.Laws.BitsAllLaws
import Derived.Test.YtjnhalomkmdcgaaProg
import Derived.WalkSpells
import Derived.Deep.QuietTactic
import Derived.BigQuiet
import Derived.Laws.EntriesVeiled
namespace Go.Proofs.Ytjnhalomkmdcgaa
open Go.RowKit

theorem and30 (a : Int) (h0 : 0 ≤ a) (h1 : a < 18446744073709551616) : bits .and .u64 a 1073741823 = a % 1073741824 := by
  rw [u64_and a 1073741823 h0 h1 (by omega) (by omega)]
  have : (1073741823 : Int).toNat = 2 ^ 30 - 1 := by decide
  rw [this, Nat.and_two_pow_sub_one_eq_mod]
  omega
theorem and2 (a : Int) (h0 : 0 ≤ a) (h1 : a < 18446744073709551616) : bits .and .u64 a 3 = a % 4 := by
  rw [u64_and a 3 h0 h1 (by omega) (by omega)]
  have : (3 : Int).toNat = 2 ^ 2 - 1 := by decide
  rw [this, Nat.and_two_pow_sub_one_eq_mod]
  omega
theorem or_nat (n a b : Nat) (hb : b < 2 ^ n) : (2 ^ n * a) ||| b = 2 ^ n * a + b := (Nat.two_pow_add_eq_or_of_lt hb a).symm
theorem orJoin (a b d : Int) (a0 : 0 ≤ a) (a1 : a ≤ 3) (b0 : 0 ≤ b) (b1 : b < 1073741824) (d0 : 0 ≤ d) (d1 : d < 1073741824) :
    bits .or .u64 (bits .or .u64 (bits .or .u64 (a * 4611686018427387904) (b * 4294967296)) 0) d = a * 4611686018427387904 + b * 4294967296 + d := by
  have e1 : bits .or .u64 (a * 4611686018427387904) (b * 4294967296) = a * 4611686018427387904 + b * 4294967296 := by
    rw [u64_or _ _ (by omega) (by omega) (by omega) (by omega)]
    have h := or_nat 62 a.toNat (b * 4294967296).toNat (by omega)
    have e : (a * 4611686018427387904).toNat = 2 ^ 62 * a.toNat := by omega
    rw [e, h]; omega
  rw [e1]
  have e2 : bits .or .u64 (a * 4611686018427387904 + b * 4294967296) 0 = a * 4611686018427387904 + b * 4294967296 := by
    rw [u64_or _ _ (by omega) (by omega) (by omega) (by omega)]
    simp; omega
  rw [e2, u64_or _ _ (by omega) (by omega) (by omega) (by omega)]
  have h := or_nat 32 (a * 1073741824 + b).toNat d.toNat (by omega)
  have e : (a * 4611686018427387904 + b * 4294967296).toNat = 2 ^ 32 * (a * 1073741824 + b).toNat := by omega
  rw [e, h]; omega

/-- the fields of an id -/
def fH (x : Int) : Int := x / 4611686018427387904
def fA (x : Int) : Int := x / 4294967296 % 1073741824
def fS (x : Int) : Int := x / 1073741824 % 4
def fB (x : Int) : Int := x % 1073741824
def inR (lo hi n : Int) : Bool := decide (lo ≤ n ∧ n ≤ hi)
def isHd (x n : Int) : Bool := decide (fH x = n ∧ fS x = 0)
def isEnt (x : Int) : Bool := isHd x 0 && inR 0 7 (fA x) && inR 1 1048578 (fB x)
def isCom (x : Int) : Bool := isHd x 1 && inR 0 0 (fA x) && inR 1 24 (fB x)
def isPai (x : Int) : Bool := isHd x 2 && (inR 1 1048578 (fA x) && inR 1 1048578 (fB x))
def isPat (x : Int) : Bool := isHd x 2 && (inR 0 1048578 (fA x) && inR 0 1048578 (fB x)) && !(inR 1 1048578 (fA x) && inR 1 1048578 (fB x))
def kindOf (x : Int) : Int := if isEnt x then 1 else if isCom x then 2 else if isPai x then 3 else if isPat x then 4 else 0
def mk (h a b : Int) : Int := h * 4611686018427387904 + a * 4294967296 + b
end Go.Proofs.Ytjnhalomkmdcgaa
namespace Go.Proofs.Ytjnhalomkmdcgaa
open Go.RowKit

theorem bcell {W w1 : World} (hb : Below W.heap.size W w1) : (∀ b o, b < W.heap.size → w1.cell? ⟨b, o, none⟩ = W.cell? ⟨b, o, none⟩) ∧ (∀ b o, b < W.heap.size → w1.frozen? ⟨b, o, none⟩ = W.frozen? ⟨b, o, none⟩) :=
  ⟨fun b o h => hb.cell (p := ⟨b, o, none⟩) h, fun b o h => hb.frozen (p := ⟨b, o, none⟩) h⟩

theorem wrap64_small (n : Int) (h0 : 0 ≤ n) (h1 : n < 1073741824) : wrap64 n = n := by unfold wrap64; omega
theorem wrapu64_small (n : Int) (h0 : 0 ≤ n) (h1 : n < 18446744073709551616) : IntKind.u64.wrap n = n := by
  simp [IntKind.wrap, IntKind.bits, IntKind.signed]; omega

theorem split_any (x : Int) (w : World) (h0 : 0 ≤ x) (h1 : x < 18446744073709551616) :
    Calls Try.prog 90 #[.int .u64 x] w fun e w' => e = .returned (.agg #[.int .i64 (fH x), .int .i64 (fA x), .int .i64 (fS x), .int .i64 (fB x)]) ∧ Below w.heap.size w w' := by
  go_enter Try.func90, Try.ntmps90
  go_wp2
  rw [and30 _ (by omega) (by omega), and30 _ (by omega) (by omega), and2 _ (by omega) (by omega), wrap64_small _ (by omega) (by omega), wrap64_small _ (by omega) (by omega), wrap64_small _ (by omega) (by omega)]
  exact bodyPost_ret (v := .agg #[.int .i64 (fH x), .int .i64 (fA x), .int .i64 (fS x), .int .i64 (fB x)]) (by simp [results, Try.results90, go_sem, fH, fA, fS, fB]) rfl ⟨rfl, (Below.refl _ _).alloc (Nat.le_refl _) _⟩

theorem within1 (lo hi n : Int) (b : Nat) (w : World) (hc : w.cell? ⟨b, 0, none⟩ = some (.int .i64 n)) :
    Calls Try.prog 94 #[.int .i64 lo, .int .i64 hi, .slice (some ⟨b, 0, none⟩) 1 1] w fun e w' => e = .returned (.bool (inR lo hi n)) ∧ w' = w := by
  go_enter Try.func94, Try.ntmps94
  go_wp2
  go_loop [11] (fun i => ∃ k : Nat, k ≤ 1 ∧ i = .int .i64 k ∧ (k = 1 → inR lo hi n = true)) (fun i => 1 - (intOf i).toNat)
  case atStart => exact ⟨0, by omega, rfl, by omega⟩
  case round =>
    obtain ⟨k, hk, rfl, hr⟩ := hrel
    match k, hk with
    | 0, _ =>
      clear hr
      by_cases h1 : n < lo
      · go_wp2
        go_ret
        exact ⟨by simp [inR]; omega, rfl⟩
      · by_cases h2 : hi < n
        · go_wp2
          go_ret
          exact ⟨by simp [inR]; omega, rfl⟩
        · go_wp2
          go_round
          case rel => exact ⟨1, by omega, by go_num, fun _ => by simp [inR]; omega⟩
          case measure => simp [intOf]
    | 1, _ =>
      have hr := hr rfl
      go_wp2
      go_ret
      exact ⟨rfl, rfl⟩

theorem within2 (lo hi n m : Int) (b : Nat) (w : World) (hc : w.cell? ⟨b, 0, none⟩ = some (.int .i64 n)) (hd : w.cell? ⟨b, 1, none⟩ = some (.int .i64 m)) :
    Calls Try.prog 94 #[.int .i64 lo, .int .i64 hi, .slice (some ⟨b, 0, none⟩) 2 2] w fun e w' => e = .returned (.bool (inR lo hi n && inR lo hi m)) ∧ w' = w := by
  go_enter Try.func94, Try.ntmps94
  go_wp2
  go_loop [11] (fun i => ∃ k : Nat, k ≤ 2 ∧ i = .int .i64 k ∧ (1 ≤ k → inR lo hi n = true) ∧ (2 ≤ k → inR lo hi m = true)) (fun i => 2 - (intOf i).toNat)
  case atStart => exact ⟨0, by omega, rfl, by omega, by omega⟩
  case round =>
    obtain ⟨k, hk, rfl, hr, hs⟩ := hrel
    match k, hk with
    | 0, _ =>
      clear hr hs
      by_cases h1 : n < lo
      · go_wp2
        go_ret
        exact ⟨by simp [inR]; omega, rfl⟩
      · by_cases h2 : hi < n
        · go_wp2
          go_ret
          exact ⟨by simp [inR]; omega, rfl⟩
        · go_wp2
          go_round
          case rel => exact ⟨1, by omega, by go_num, fun _ => by simp [inR]; omega, by omega⟩
          case measure => simp [intOf]
    | 1, _ =>
      have HR : Hid (inR lo hi n = true) := hr (by omega)
      clear hs hr
      by_cases h1 : m < lo
      · go_wp2
        go_ret
        exact ⟨by rw [HR.out]; simp [inR]; omega, rfl⟩
      · by_cases h2 : hi < m
        · go_wp2
          go_ret
          exact ⟨by rw [HR.out]; simp [inR]; omega, rfl⟩
        · go_wp2
          go_round
          case rel => exact ⟨2, by omega, by go_num, fun _ => HR.out, fun _ => by simp [inR]; omega⟩
          case measure => simp [intOf]
    | 2, _ =>
      have hr := hr (by omega)
      have hs := hs (by omega)
      go_wp2
      go_ret
      exact ⟨rfl, rfl⟩
end Go.Proofs.Ytjnhalomkmdcgaa
namespace Go.Proofs.Ytjnhalomkmdcgaa
open Go.RowKit

/-- The cells that the closures of 'asks' read. -/
structure Asked (x : Int) (p q : Nat) (w : World) : Prop where
  pb : p < w.heap.size
  qb : q < w.heap.size
  p0 : w.cell? ⟨p, 0, none⟩ = some (.func (.func 91) #[] #[.pointer (some ⟨q, 0, none⟩)])
  q0 : w.cell? ⟨q, 0, none⟩ = some (.int .i64 (fH x))
  q1 : w.cell? ⟨q, 1, none⟩ = some (.int .i64 (fA x))
  q2 : w.cell? ⟨q, 2, none⟩ = some (.int .i64 (fS x))
  q3 : w.cell? ⟨q, 3, none⟩ = some (.int .i64 (fB x))

theorem Asked.below {x : Int} {p q : Nat} {w w' : World} (h : Asked x p q w) (hb : Below w.heap.size w w') : Asked x p q w' := by
  obtain ⟨hc, _⟩ := bcell hb
  have := hb.size
  exact ⟨by have := h.pb; omega, by have := h.qb; omega, (hc _ _ h.pb).trans h.p0, (hc _ _ h.qb).trans h.q0, (hc _ _ h.qb).trans h.q1, (hc _ _ h.qb).trans h.q2, (hc _ _ h.qb).trans h.q3⟩

theorem is_any (x n : Int) (p q : Nat) (w : World) (h : Asked x p q w) :
    Calls Try.prog 91 #[.int .i64 n, .pointer (some ⟨q, 0, none⟩)] w fun e w' => e = .returned (.bool (isHd x n)) ∧ w' = w := by
  obtain ⟨_, _, hp0, h0, _, h2, _⟩ := h
  clear hp0
  by_cases e1 : fH x = n
  · by_cases e2 : fS x = 0
    · go_enter Try.func91, Try.ntmps91
      go_wp2
      go_ret
      exact ⟨by simp [isHd, e1, e2], rfl⟩
    · go_enter Try.func91, Try.ntmps91
      go_wp2
      go_ret
      exact ⟨by simp [isHd, e1, e2], rfl⟩
  · go_enter Try.func91, Try.ntmps91
    go_wp2
    go_ret
    exact ⟨by simp [isHd, e1], rfl⟩
theorem a40_any (w : World) : Calls Try.prog 92 #[] w fun e w' => e = .returned (.bool false) ∧ w' = w := by
  go_enter Try.func92, Try.ntmps92
  go_wp2
  go_ret
  exact ⟨rfl, rfl⟩
theorem within1n (lo hi n : Int) (t : TypeId) (b : Nat) (w : World) (hb : b = w.heap.size) :
    Calls Try.prog 94 #[.int .i64 lo, .int .i64 hi, .slice (some ⟨b, 0, none⟩) 1 1] (w.alloc (.cells #[.int .i64 n] t)) fun e w' => e = .returned (.bool (inR lo hi n)) ∧ w' = w.alloc (.cells #[.int .i64 n] t) := by
  subst hb
  exact within1 lo hi n _ _ (by simp [go_sem])
theorem within2n (lo hi n m : Int) (t : TypeId) (b : Nat) (w : World) (hb : b = w.heap.size) :
    Calls Try.prog 94 #[.int .i64 lo, .int .i64 hi, .slice (some ⟨b, 0, none⟩) 2 2] (w.alloc (.cells #[.int .i64 n, .int .i64 m] t)) fun e w' => e = .returned (.bool (inR lo hi n && inR lo hi m)) ∧ w' = w.alloc (.cells #[.int .i64 n, .int .i64 m] t) := by
  subst hb
  exact within2 lo hi n m _ _ (by simp [go_sem]) (by simp [go_sem])
end Go.Proofs.Ytjnhalomkmdcgaa
