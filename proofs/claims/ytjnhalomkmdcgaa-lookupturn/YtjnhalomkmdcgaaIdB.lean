/- Contracts of ident.Kind and its closures. -/
import Derived.Test.YtjnhalomkmdcgaaIdA
import Derived.Laws.EntriesVeiled
namespace Go.Proofs.Ytjnhalomkmdcgaa
open Go.RowKit

/-- The cells that the closures of 'asks' read. -/
structure Asked (x : Int) (p q : Nat) (w : World) : Prop where
  pb : p < w.heap.size
  qb : q < w.heap.size
  p0 : w.cell? ⟨p, 0, none⟩ = some (.func (.func 91) #[] #[.pointer (some ⟨q, 0, none⟩)])
  q0 : w.cell? ⟨q, 0, none⟩ = some (.int .i64 (fH x))
  q1 : w.cell? ⟨q, 1, none⟩ = some (.int .i64 (fA x))
  q2 : w.cell? ⟨q, 2, none⟩ = some (.int .i64 (fS x))
  q3 : w.cell? ⟨q, 3, none⟩ = some (.int .i64 (fB x))

theorem Asked.below {x : Int} {p q : Nat} {w w' : World} (h : Asked x p q w) (hb : Below w.heap.size w w') : Asked x p q w' := by
  obtain ⟨hc, _⟩ := bcell hb
  have := hb.size
  exact ⟨by have := h.pb; omega, by have := h.qb; omega, (hc _ _ h.pb).trans h.p0, (hc _ _ h.qb).trans h.q0, (hc _ _ h.qb).trans h.q1, (hc _ _ h.qb).trans h.q2, (hc _ _ h.qb).trans h.q3⟩

theorem is_any (x n : Int) (p q : Nat) (w : World) (h : Asked x p q w) :
    Calls Try.prog 91 #[.int .i64 n, .pointer (some ⟨q, 0, none⟩)] w fun e w' => e = .returned (.bool (isHd x n)) ∧ w' = w := by
  obtain ⟨_, _, hp0, h0, _, h2, _⟩ := h
  clear hp0
  by_cases e1 : fH x = n
  · by_cases e2 : fS x = 0
    · go_enter Try.func91, Try.ntmps91
      go_wp2
      go_ret
      exact ⟨by simp [isHd, e1, e2], rfl⟩
    · go_enter Try.func91, Try.ntmps91
      go_wp2
      go_ret
      exact ⟨by simp [isHd, e1, e2], rfl⟩
  · go_enter Try.func91, Try.ntmps91
    go_wp2
    go_ret
    exact ⟨by simp [isHd, e1], rfl⟩
theorem a40_any (w : World) : Calls Try.prog 92 #[] w fun e w' => e = .returned (.bool false) ∧ w' = w := by
  go_enter Try.func92, Try.ntmps92
  go_wp2
  go_ret
  exact ⟨rfl, rfl⟩
theorem within1n (lo hi n : Int) (t : TypeId) (b : Nat) (w : World) (hb : b = w.heap.size) :
    Calls Try.prog 94 #[.int .i64 lo, .int .i64 hi, .slice (some ⟨b, 0, none⟩) 1 1] (w.alloc (.cells #[.int .i64 n] t)) fun e w' => e = .returned (.bool (inR lo hi n)) ∧ w' = w.alloc (.cells #[.int .i64 n] t) := by
  subst hb
  exact within1 lo hi n _ _ (by simp [go_sem])
theorem within2n (lo hi n m : Int) (t : TypeId) (b : Nat) (w : World) (hb : b = w.heap.size) :
    Calls Try.prog 94 #[.int .i64 lo, .int .i64 hi, .slice (some ⟨b, 0, none⟩) 2 2] (w.alloc (.cells #[.int .i64 n, .int .i64 m] t)) fun e w' => e = .returned (.bool (inR lo hi n && inR lo hi m)) ∧ w' = w.alloc (.cells #[.int .i64 n, .int .i64 m] t) := by
  subst hb
  exact within2 lo hi n m _ _ (by simp [go_sem]) (by simp [go_sem])
end Go.Proofs.Ytjnhalomkmdcgaa
