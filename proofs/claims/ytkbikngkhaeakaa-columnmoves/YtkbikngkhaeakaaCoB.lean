/- cut. -/
import Derived.Test.YtkbikngkhaeakaaCoA
namespace Go.Proofs.Ytkbikngkhaeakaa
open Go.RowKit

def cutP (p : Option Addr) (a b : Nat) : Option Addr := match p with
  | none => none
  | some ad => if a = b then some ad else some ⟨ad.block, ad.off + a, none⟩
theorem mul_nat {f wd : Int} {a : Nat} (h : (a : Int) = f * wd) (ha : a ≤ maxLen) : IntKind.i64.wrap (f * wd) = (a : Int) ∧ wrap64 (f * wd) = (a : Int) := by
  unfold maxLen at ha
  exact wrapm h (by omega)
set_option maxRecDepth 20000 in
set_option maxHeartbeats 1000000 in
theorem cut43 (wd rs : Int) (p : Option Addr) (n c : Nat) (f e : Int) (a b : Nat) (w : World) (ha : (a : Int) = f * wd) (hb : (b : Int) = e * wd) (hab : a ≤ b) (hbc : b ≤ c) (hc : c ≤ maxLen) (hp : (p = none ∧ c = 0) ∨ ∃ k off, p = some ⟨k, off, none⟩) :
    Calls Try.prog 43 #[.agg #[.int .i64 wd, .int .i64 rs, .slice p n c], .int .i64 f, .int .i64 e] w fun en w' => en = .returned (.slice (cutP p a b) (b - a) (b - a)) ∧ w' = w.alloc (.cells #[.int .i64 wd, .int .i64 rs, .slice p n c] 24) := by
  obtain ⟨m1, m2⟩ := mul_nat ha (by omega)
  obtain ⟨m3, m4⟩ := mul_nat hb (by omega)
  unfold maxLen at hc
  have g1 : (0 : Int) ≤ (a : Int) := by omega
  have g2 : (a : Int) ≤ (b : Int) := by omega
  have g3 : (b : Int) ≤ (c : Int) := by omega
  rcases hp with ⟨rfl, rfl⟩ | ⟨k, off, rfl⟩
  · obtain rfl : b = 0 := by omega
    obtain rfl : a = 0 := by omega
    clear ha hb
    go_enter Try.func43, Try.ntmps43
    go_wp2
    go_ret
    exact ⟨rfl, rfl⟩
  · by_cases e0 : a = b
    · have hE : Hid (cutP (some ⟨k, off, none⟩) a b = some ⟨k, off, none⟩) := by unfold Hid; simp [cutP, e0]
      subst e0
      clear ha hb
      go_enter Try.func43, Try.ntmps43
      go_wp2
      go_ret
      exact ⟨by rw [hE.out]; simp, rfl⟩
    · have hE : Hid (cutP (some ⟨k, off, none⟩) a b = some ⟨k, off + a, none⟩) := by unfold Hid; simp [cutP, e0]
      have e1 : ¬ b = a := fun h => e0 h.symm
      clear ha hb
      go_enter Try.func43, Try.ntmps43
      go_wp2
      go_ret
      exact ⟨by rw [hE.out]; simp, rfl⟩
theorem IRow.drop {q : IntKind} {N : Nat} {w : World} {b off : Nat} {l : List Int} (h : IRow q N w (some ⟨b, off, none⟩) l) (i : Nat) : IRow q N w (some ⟨b, off + i, none⟩) (l.drop i) := by
  intro h0
  have hl : (l.drop i).length = l.length - i := by simp
  obtain ⟨b', off', e, hN, hc⟩ := h (by omega)
  cases e
  refine ⟨b, off + i, rfl, hN, fun k hk => ?_⟩
  rw [iG_drop, ← hc (i + k) (by omega), Nat.add_assoc]
theorem IRow.cut {q : IntKind} {N : Nat} {w : World} {p : Option Addr} {l : List Int} (h : IRow q N w p l) (a b : Nat) : IRow q N w (cutP p a b) ((l.drop a).take (b - a)) := by
  cases p with
  | none => rw [irow_none h]; simp; exact IRow.nil
  | some ad =>
    by_cases e : a = b
    · subst e; simp; exact IRow.nil
    · by_cases h0 : 0 < l.length
      · obtain ⟨k, off, e', _, _⟩ := h h0
        cases e'
        have : cutP (some ⟨k, off, none⟩) a b = some ⟨k, off + a, none⟩ := by simp [cutP, e]
        rw [this]
        exact (h.drop a).take _
      · have : l = [] := List.eq_nil_of_length_eq_zero (by omega)
        subst this; simp; exact IRow.nil
end Go.Proofs.Ytkbikngkhaeakaa
