/- Contracts of ident.Kind and its closures. -/
import Derived.Test.YthcnohnlogebjaaDoorIdA
import Derived.Laws.EntriesVeiled
namespace Go.Proofs.YthcnohnlogebjaaDoor
open Go.RowKit

/-- The cells that the closures of 'asks' read. -/
structure Asked (x : Int) (p q : Nat) (w : World) : Prop where
  pb : p < w.heap.size
  qb : q < w.heap.size
  p0 : w.cell? ⟨p, 0, none⟩ = some (.func (.func 86) #[] #[.pointer (some ⟨q, 0, none⟩)])
  q0 : w.cell? ⟨q, 0, none⟩ = some (.int .i64 (fH x))
  q1 : w.cell? ⟨q, 1, none⟩ = some (.int .i64 (fA x))
  q2 : w.cell? ⟨q, 2, none⟩ = some (.int .i64 (fS x))
  q3 : w.cell? ⟨q, 3, none⟩ = some (.int .i64 (fB x))

theorem Asked.below {x : Int} {p q : Nat} {w w' : World} (h : Asked x p q w) (hb : Below w.heap.size w w') : Asked x p q w' := by
  obtain ⟨hc, _⟩ := bcell hb
  have := hb.size
  exact ⟨by have := h.pb; omega, by have := h.qb; omega, (hc _ _ h.pb).trans h.p0, (hc _ _ h.qb).trans h.q0, (hc _ _ h.qb).trans h.q1, (hc _ _ h.qb).trans h.q2, (hc _ _ h.qb).trans h.q3⟩

theorem asks_any (x : Int) (w : World) :
    Calls Tryd.prog 72 #[.agg #[.int .i64 (fH x), .int .i64 (fA x), .int .i64 (fS x), .int .i64 (fB x)]] w fun e w' => ∃ p q : Nat,
      e = .returned (.agg #[.func (.func 87) #[] #[], .func (.func 88) #[] #[.pointer (some ⟨p, 0, none⟩), .pointer (some ⟨q, 0, none⟩)], .func (.func 89) #[] #[.pointer (some ⟨p, 0, none⟩), .pointer (some ⟨q, 0, none⟩)],
        .func (.func 90) #[] #[.pointer (some ⟨p, 0, none⟩), .pointer (some ⟨q, 0, none⟩)], .func (.func 91) #[] #[.pointer (some ⟨p, 0, none⟩), .pointer (some ⟨q, 0, none⟩)]]) ∧ Asked x p q w' ∧ Below w.heap.size w w' := by
  go_enter Tryd.func72, Tryd.ntmps72
  go_wp2
  refine bodyPost_ret (v := .agg #[.func (.func 87) #[] #[], .func (.func 88) #[] #[.pointer (some ⟨w.heap.size + 1 + 1, 0, none⟩), .pointer (some ⟨w.heap.size, 0, none⟩)], .func (.func 89) #[] #[.pointer (some ⟨w.heap.size + 1 + 1, 0, none⟩), .pointer (some ⟨w.heap.size, 0, none⟩)],
        .func (.func 90) #[] #[.pointer (some ⟨w.heap.size + 1 + 1, 0, none⟩), .pointer (some ⟨w.heap.size, 0, none⟩)], .func (.func 91) #[] #[.pointer (some ⟨w.heap.size + 1 + 1, 0, none⟩), .pointer (some ⟨w.heap.size, 0, none⟩)]]) (by simp [results, Tryd.results72, go_sem]) rfl ⟨w.heap.size + 1 + 1, w.heap.size, rfl, ?_, ?_⟩
  · constructor <;> first | (simp [go_sem]; done) | (simp; omega)
  · exact (((Below.refl _ _).alloc (Nat.le_refl _) _).alloc (by simp) _).alloc (by simp; omega) _

theorem is_any (x n : Int) (p q : Nat) (w : World) (h : Asked x p q w) :
    Calls Tryd.prog 86 #[.int .i64 n, .pointer (some ⟨q, 0, none⟩)] w fun e w' => e = .returned (.bool (isHd x n)) ∧ w' = w := by
  obtain ⟨_, _, hp0, h0, _, h2, _⟩ := h
  clear hp0
  by_cases e1 : fH x = n
  · by_cases e2 : fS x = 0
    · go_enter Tryd.func86, Tryd.ntmps86
      go_wp2
      go_ret
      exact ⟨by simp [isHd, e1, e2], rfl⟩
    · go_enter Tryd.func86, Tryd.ntmps86
      go_wp2
      go_ret
      exact ⟨by simp [isHd, e1, e2], rfl⟩
  · go_enter Tryd.func86, Tryd.ntmps86
    go_wp2
    go_ret
    exact ⟨by simp [isHd, e1], rfl⟩
theorem a40_any (w : World) : Calls Tryd.prog 87 #[] w fun e w' => e = .returned (.bool false) ∧ w' = w := by
  go_enter Tryd.func87, Tryd.ntmps87
  go_wp2
  go_ret
  exact ⟨rfl, rfl⟩
theorem within1n (lo hi n : Int) (t : TypeId) (b : Nat) (w : World) (hb : b = w.heap.size) :
    Calls Tryd.prog 73 #[.int .i64 lo, .int .i64 hi, .slice (some ⟨b, 0, none⟩) 1 1] (w.alloc (.cells #[.int .i64 n] t)) fun e w' => e = .returned (.bool (inR lo hi n)) ∧ w' = w.alloc (.cells #[.int .i64 n] t) := by
  subst hb
  exact within1 lo hi n _ _ (by simp [go_sem])
theorem within2n (lo hi n m : Int) (t : TypeId) (b : Nat) (w : World) (hb : b = w.heap.size) :
    Calls Tryd.prog 73 #[.int .i64 lo, .int .i64 hi, .slice (some ⟨b, 0, none⟩) 2 2] (w.alloc (.cells #[.int .i64 n, .int .i64 m] t)) fun e w' => e = .returned (.bool (inR lo hi n && inR lo hi m)) ∧ w' = w.alloc (.cells #[.int .i64 n, .int .i64 m] t) := by
  subst hb
  exact within2 lo hi n m _ _ (by simp [go_sem]) (by simp [go_sem])
end Go.Proofs.YthcnohnlogebjaaDoor
