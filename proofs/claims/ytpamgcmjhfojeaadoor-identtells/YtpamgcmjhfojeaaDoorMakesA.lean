/- Contracts of the document's answer: Is and Made of windroseref01. -/
import Derived.Test.YtpamgcmjhfojeaaDoorIdL
namespace Go.Proofs.YtpamgcmjhfojeaaDoor
open Go.RowKit

theorem is12 (n lo hi : Int) (w : World) :
    Calls Tryd.prog 12 #[.int .i64 n, .int .i64 lo, .int .i64 hi] w fun e w' => e = .returned (.bool (inR lo hi n)) ∧ w' = w := by
  by_cases h1 : lo ≤ n
  · by_cases h2 : n ≤ hi
    · go_enter Tryd.func12, Tryd.ntmps12
      go_wp2
      go_ret
      exact ⟨by simp [inR, h1, h2], rfl⟩
    · go_enter Tryd.func12, Tryd.ntmps12
      go_wp2
      go_ret
      exact ⟨by simp [inR, h1]; omega, rfl⟩
  · have hd : decide (lo ≤ n) = false := by simpa using h1
    have H : Hid (¬ lo ≤ n) := h1
    go_enter Tryd.func12, Tryd.ntmps12
    go_wp2
    go_ret
    exact ⟨by have := H.out; simp [inR]; omega, rfl⟩
theorem made13 (m h a b : Int) (w : World) (hm : m = h * 4611686018427387904) (h0 : 0 ≤ h) (h2 : h ≤ 2) (a0 : 0 ≤ a) (a1 : a < 1073741824) (b0 : 0 ≤ b) (b1 : b < 1073741824) :
    Calls Tryd.prog 13 #[.int .u64 m, .int .i64 a, .int .i64 b] w fun e w' => e = .returned (.int .u64 (mk h a b)) ∧ w' = w := by
  have E : Hid (mk h a b = m + a * 4294967296 + b) := by unfold Hid mk; omega
  have m0 : 0 ≤ m := by omega
  have m1 : m ≤ 9223372036854775808 := by omega
  clear hm h0 h2
  go_enter Tryd.func13, Tryd.ntmps13
  go_wp2
  go_ret
  rw [E.out]
  exact ⟨rfl, rfl⟩
/-- A block of the call's own that holds two numbers. -/
structure Pr (g : Nat) (u v : Int) (w : World) : Prop where
  lt : g < w.heap.size
  c0 : w.cell? ⟨g, 0, none⟩ = some (.int .i64 u)
  c1 : w.cell? ⟨g, 1, none⟩ = some (.int .i64 v)
theorem Pr.new (u v : Int) (w : World) (t : TypeId) : Pr w.heap.size u v (w.alloc (.cells #[.int .i64 u, .int .i64 v] t)) := ⟨by simp, by simp [go_sem], by simp [go_sem]⟩
theorem Pr.below {g : Nat} {u v : Int} {w w' : World} (h : Pr g u v w) (hb : Below w.heap.size w w') : Pr g u v w' :=
  ⟨Nat.lt_of_lt_of_le h.lt hb.size, (hb.cell (p := ⟨g, 0, none⟩) h.lt).trans h.c0, (hb.cell (p := ⟨g, 1, none⟩) h.lt).trans h.c1⟩

/-- What comes of two numbers. -/
def Outs (u v : Int) (c1 c2 c3 c4 c5 : Bool) : Prop :=
  inR 1 1048578 u = c1 ∧ inR 0 7 v = c2 ∧ inR 1 24 u = c3 ∧ inR 0 1048578 u = c4 ∧ inR 0 1048578 v = c5 ∧
  (entV u v = if c1 && c2 then mk 0 v u else 0) ∧ (entE u v = if c1 && c2 then 0 else 2) ∧
  (comV u = if c3 then mk 1 0 u else 0) ∧ (comE u = if c3 then 0 else 2) ∧
  (paiV u v = if c4 && c5 then mk 2 u v else 0) ∧ (paiE u v = if c4 && c5 then 0 else 2)
theorem outs (u v : Int) : Outs u v (inR 1 1048578 u) (inR 0 7 v) (inR 1 24 u) (inR 0 1048578 u) (inR 0 1048578 v) :=
  ⟨rfl, rfl, rfl, rfl, rfl, rfl, rfl, rfl, rfl, rfl, rfl⟩

theorem outs_cases (u v : Int) :
    (∃ c2 c5, Outs u v false c2 false false c5) ∨ (∃ c2, Outs u v false c2 false true false) ∨ (∃ c2, Outs u v false c2 false true true) ∨
    Outs u v true false false true false ∨ Outs u v true false true true false ∨ Outs u v true false false true true ∨ Outs u v true false true true true ∨
    Outs u v true true false true true ∨ Outs u v true true true true true := by
  have o := outs u v
  have h1 : inR 1 1048578 u = true → inR 0 1048578 u = true := by simp [inR]; omega
  have h2 : inR 0 7 v = true → inR 0 1048578 v = true := by simp [inR]; omega
  have h3 : inR 1 24 u = true → inR 1 1048578 u = true := by simp [inR]; omega
  cases c1 : inR 1 1048578 u <;> cases c2 : inR 0 7 v <;> cases c3 : inR 1 24 u <;> cases c4 : inR 0 1048578 u <;> cases c5 : inR 0 1048578 v <;> simp_all

/-- What the walk is told of a row of two numbers each: it is nil, or it leads to a row of cells. -/
def IsPairs (w : World) (a : Option Addr) (len cap : Nat) : Prop :=
  (a = none ∧ len = 0 ∧ cap = 0) ∨
  ∃ x : Addr, a = some x ∧ len ≤ cap ∧ cap ≤ maxLen ∧ ∀ i, i < len → x.spot = none ∧ x.block < w.heap.size ∧ ∃ u v : Int, w.cell? ⟨x.block, x.off + i * 2, none⟩ = some (.int .i64 u) ∧ w.cell? ⟨x.block, x.off + i * 2 + 1, none⟩ = some (.int .i64 v)

end Go.Proofs.YtpamgcmjhfojeaaDoor
