/- Plain mathematics of lookups (stage 7), 4: how types stand (as TyL of the types seat has it). -/
import Derived.Test.YtjnhalomkmdcgaaLkC
import Derived.Test.YtjnhalomkmdcgaaTyL
namespace Go.Proofs.Ytjnhalomkmdcgaa

theorem cmp_01 : ∀ (a b : List Int), cmpL a b = -1 ∨ cmpL a b = 0 ∨ cmpL a b = 1
  | [], [] => .inr (.inl rfl)
  | [], _ :: _ => .inl rfl
  | _ :: _, [] => .inr (.inr rfl)
  | x :: a, y :: b => by
    unfold cmpL
    split
    · exact .inl rfl
    · split
      · exact .inr (.inr rfl)
      · exact cmp_01 a b
theorem cmp_anti : ∀ (a b : List Int), cmpL b a = - cmpL a b
  | [], [] => rfl
  | [], _ :: _ => rfl
  | _ :: _, [] => rfl
  | x :: a, y :: b => by
    unfold cmpL
    by_cases h : x < y
    · rw [if_pos h, if_neg (by omega), if_pos h]; rfl
    · by_cases h' : y < x
      · rw [if_pos h', if_neg h, if_pos h']
      · rw [if_neg h', if_neg h, if_neg h, if_neg h']; exact cmp_anti a b
theorem cmp_eq : ∀ (a b : List Int), cmpL a b = 0 ↔ a = b
  | [], [] => by simp [cmpL]
  | [], _ :: _ => by simp [cmpL]
  | _ :: _, [] => by simp [cmpL]
  | x :: a, y :: b => by
    have := cmp_eq a b
    unfold cmpL
    by_cases h : x < y
    · rw [if_pos h]; simp; omega
    · by_cases h' : y < x
      · rw [if_neg h, if_pos h']; simp; omega
      · rw [if_neg h, if_neg h', this]; simp; omega
theorem cmp_trans : ∀ (a b c : List Int), cmpL a b = -1 → cmpL b c = -1 → cmpL a c = -1
  | [], _, [], h, g => by
    rename_i b
    cases b with
    | nil => simp [cmpL] at h
    | cons y b => simp [cmpL] at g
  | [], _, _ :: _, _, _ => rfl
  | x :: a, [], _, h, _ => by simp [cmpL] at h
  | x :: a, y :: b, [], _, g => by simp [cmpL] at g
  | x :: a, y :: b, z :: c, h, g => by
    unfold cmpL at h g ⊢
    by_cases h1 : x < y
    · by_cases g1 : y < z
      · rw [if_pos (by omega)]
      · rw [if_neg g1] at g
        by_cases g2 : z < y
        · rw [if_pos g2] at g; simp at g
        · rw [if_pos (by omega)]
    · rw [if_neg h1] at h
      by_cases h2 : y < x
      · rw [if_pos h2] at h; simp at h
      · rw [if_neg h2] at h
        by_cases g1 : y < z
        · rw [if_pos (by omega)]
        · rw [if_neg g1] at g
          by_cases g2 : z < y
          · rw [if_pos g2] at g; simp at g
          · rw [if_neg g2] at g
            rw [if_neg (by omega), if_neg (by omega)]
            exact cmp_trans a b c h g
theorem isCmp : IsCmp cmpL := by
  refine ⟨cmp_eq, fun a b => ?_, fun a b c h g => ?_⟩
  · have := cmp_anti a b; omega
  · have h1 := cmp_01 a b; have g1 := cmp_01 b c
    have := cmp_trans a b c (by omega) (by omega)
    omega
end Go.Proofs.Ytjnhalomkmdcgaa
