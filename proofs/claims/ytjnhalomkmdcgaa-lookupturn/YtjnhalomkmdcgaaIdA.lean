/- Contracts of the small functions of package ident: within, join, split. -/
import Derived.Test.YtjnhalomkmdcgaaProg
import Derived.Test.YtjnhalomkmdcgaaPlain
import Derived.WalkKit
import Derived.WalkSpells
import Derived.Deep.QuietTactic
import Derived.BigQuiet
namespace Go.Proofs.Ytjnhalomkmdcgaa
open Go.RowKit

theorem bcell {W w1 : World} (hb : Below W.heap.size W w1) : (∀ b o, b < W.heap.size → w1.cell? ⟨b, o, none⟩ = W.cell? ⟨b, o, none⟩) ∧ (∀ b o, b < W.heap.size → w1.frozen? ⟨b, o, none⟩ = W.frozen? ⟨b, o, none⟩) :=
  ⟨fun b o h => hb.cell (p := ⟨b, o, none⟩) h, fun b o h => hb.frozen (p := ⟨b, o, none⟩) h⟩

theorem wrap64_small (n : Int) (h0 : 0 ≤ n) (h1 : n < 1073741824) : wrap64 n = n := by unfold wrap64; omega
theorem wrapu64_small (n : Int) (h0 : 0 ≤ n) (h1 : n < 18446744073709551616) : IntKind.u64.wrap n = n := by
  simp [IntKind.wrap, IntKind.bits, IntKind.signed]; omega

theorem split_any (x : Int) (w : World) (h0 : 0 ≤ x) (h1 : x < 18446744073709551616) :
    Calls Try.prog 90 #[.int .u64 x] w fun e w' => e = .returned (.agg #[.int .i64 (fH x), .int .i64 (fA x), .int .i64 (fS x), .int .i64 (fB x)]) ∧ Below w.heap.size w w' := by
  go_enter Try.func90, Try.ntmps90
  go_wp2
  rw [and30 _ (by omega) (by omega), and30 _ (by omega) (by omega), and2 _ (by omega) (by omega), wrap64_small _ (by omega) (by omega), wrap64_small _ (by omega) (by omega), wrap64_small _ (by omega) (by omega)]
  exact bodyPost_ret (v := .agg #[.int .i64 (fH x), .int .i64 (fA x), .int .i64 (fS x), .int .i64 (fB x)]) (by simp [results, Try.results90, go_sem, fH, fA, fS, fB]) rfl ⟨rfl, (Below.refl _ _).alloc (Nat.le_refl _) _⟩

theorem within1 (lo hi n : Int) (b : Nat) (w : World) (hc : w.cell? ⟨b, 0, none⟩ = some (.int .i64 n)) :
    Calls Try.prog 94 #[.int .i64 lo, .int .i64 hi, .slice (some ⟨b, 0, none⟩) 1 1] w fun e w' => e = .returned (.bool (inR lo hi n)) ∧ w' = w := by
  go_enter Try.func94, Try.ntmps94
  go_wp2
  go_loop [11] (fun i => ∃ k : Nat, k ≤ 1 ∧ i = .int .i64 k ∧ (k = 1 → inR lo hi n = true)) (fun i => 1 - (intOf i).toNat)
  case atStart => exact ⟨0, by omega, rfl, by omega⟩
  case round =>
    obtain ⟨k, hk, rfl, hr⟩ := hrel
    match k, hk with
    | 0, _ =>
      clear hr
      by_cases h1 : n < lo
      · go_wp2
        go_ret
        exact ⟨by simp [inR]; omega, rfl⟩
      · by_cases h2 : hi < n
        · go_wp2
          go_ret
          exact ⟨by simp [inR]; omega, rfl⟩
        · go_wp2
          go_round
          case rel => exact ⟨1, by omega, by go_num, fun _ => by simp [inR]; omega⟩
          case measure => simp [intOf]
    | 1, _ =>
      have hr := hr rfl
      go_wp2
      go_ret
      exact ⟨rfl, rfl⟩

theorem within2 (lo hi n m : Int) (b : Nat) (w : World) (hc : w.cell? ⟨b, 0, none⟩ = some (.int .i64 n)) (hd : w.cell? ⟨b, 1, none⟩ = some (.int .i64 m)) :
    Calls Try.prog 94 #[.int .i64 lo, .int .i64 hi, .slice (some ⟨b, 0, none⟩) 2 2] w fun e w' => e = .returned (.bool (inR lo hi n && inR lo hi m)) ∧ w' = w := by
  go_enter Try.func94, Try.ntmps94
  go_wp2
  go_loop [11] (fun i => ∃ k : Nat, k ≤ 2 ∧ i = .int .i64 k ∧ (1 ≤ k → inR lo hi n = true) ∧ (2 ≤ k → inR lo hi m = true)) (fun i => 2 - (intOf i).toNat)
  case atStart => exact ⟨0, by omega, rfl, by omega, by omega⟩
  case round =>
    obtain ⟨k, hk, rfl, hr, hs⟩ := hrel
    match k, hk with
    | 0, _ =>
      clear hr hs
      by_cases h1 : n < lo
      · go_wp2
        go_ret
        exact ⟨by simp [inR]; omega, rfl⟩
      · by_cases h2 : hi < n
        · go_wp2
          go_ret
          exact ⟨by simp [inR]; omega, rfl⟩
        · go_wp2
          go_round
          case rel => exact ⟨1, by omega, by go_num, fun _ => by simp [inR]; omega, by omega⟩
          case measure => simp [intOf]
    | 1, _ =>
      have HR : Hid (inR lo hi n = true) := hr (by omega)
      clear hs hr
      by_cases h1 : m < lo
      · go_wp2
        go_ret
        exact ⟨by rw [HR.out]; simp [inR]; omega, rfl⟩
      · by_cases h2 : hi < m
        · go_wp2
          go_ret
          exact ⟨by rw [HR.out]; simp [inR]; omega, rfl⟩
        · go_wp2
          go_round
          case rel => exact ⟨2, by omega, by go_num, fun _ => HR.out, fun _ => by simp [inR]; omega⟩
          case measure => simp [intOf]
    | 2, _ =>
      have hr := hr (by omega)
      have hs := hs (by omega)
      go_wp2
      go_ret
      exact ⟨rfl, rfl⟩
end Go.Proofs.Ytjnhalomkmdcgaa
