/- laid, pushed. -/
import Derived.Test.YtkbikngkhaeakaaCoB
import Derived.Test.YtkbikngkhaeakaaCoC
namespace Go.Proofs.Ytkbikngkhaeakaa
open Go.RowKit

/-- A call that hands back a column whose words it owns. -/
def GivesC (wd rs : Int) (l : List Int) (w : World) (e : Ending) (w' : World) : Prop := ∃ q c, e = .returned (.agg #[.int .i64 wd, .int .i64 rs, .slice q l.length c]) ∧ OwnR w.heap.size w' q l c ∧ Below w.heap.size w w'
abbrev oZ : Obj := .cells #[.int .i64 0, .int .i64 0, .slice none 0 0] 24
theorem set3 {w W : World} {B : Nat} (hb : Below w.heap.size w W) (hB : w.heap.size ≤ B) (a b c : Value) : Below w.heap.size w (((W.setCell ⟨B, 0, none⟩ a).setCell ⟨B, 1, none⟩ b).setCell ⟨B, 2, none⟩ c) :=
  ((hb.setCell (p := ⟨B, 0, none⟩) hB a).setCell (p := ⟨B, 1, none⟩) hB b).setCell (p := ⟨B, 2, none⟩) hB c
theorem OwnR.set3 {B N : Nat} {W : World} {q : Option Addr} {l : List Int} {c : Nat} (h : OwnR N W q l c) (hB : B < N) (x y z : Value) : OwnR N (((W.setCell ⟨B, 0, none⟩ x).setCell ⟨B, 1, none⟩ y).setCell ⟨B, 2, none⟩ z) q l c := by
  have hz := h.fr
  have e1 : ∀ x, q = some x → x.block ≠ B := fun x hx => by have := hz x hx; omega
  exact ((h.setCell (a := ⟨B, 0, none⟩) e1 _).setCell (a := ⟨B, 1, none⟩) e1 _).setCell (a := ⟨B, 2, none⟩) e1 _
set_option maxRecDepth 20000 in
set_option maxHeartbeats 1000000 in
theorem laid49 (wd many : Int) (p : Option Addr) (l : List Int) (c : Nat) (q : Option Addr) (R : List RR) (d : Nat) (w : World) (hI : IRow .u64 w.heap.size w p l) (hR : VRow w.heap.size w q R) (hr : R.length ≤ 1000) (ht : (catF l R R.length).length ≤ 1099511627776) :
    Calls Try.prog 49 #[.int .i64 wd, .int .i64 many, .slice p l.length c, .slice q R.length d] w fun e w' => GivesC wd many (catF l R R.length) w e w' := by
  have CJ := joined38 p l c q R d (w.alloc oZ) (hI.to (bal _ _)) (hR.to (bal _ _)) hr ht
  obtain ⟨m, hm⟩ : ∃ m, m = catF l R R.length := ⟨_, rfl⟩
  obtain ⟨n0, hn0⟩ : ∃ n0, n0 = l.length := ⟨_, rfl⟩
  obtain ⟨N, hN⟩ : ∃ N, N = R.length := ⟨_, rfl⟩
  rw [← hm, ← hN, ← hn0] at CJ
  rw [← hm, ← hN, ← hn0]
  have cA : ∀ k, k < 3 → (w.alloc oZ).cell? ⟨w.heap.size, k, none⟩ = some (#[Value.int .i64 0, .int .i64 0, .slice none 0 0].getD k default) ∧ (w.alloc oZ).frozen? ⟨w.heap.size, k, none⟩ = false := fun k hk => by
    rcases (show k = 0 ∨ k = 1 ∨ k = 2 by omega) with rfl | rfl | rfl <;> exact ⟨by simp [go_sem], by simp [go_sem]⟩
  clear hI hR hr ht hm hN hn0
  go_enter Try.func49, Try.ntmps49
  go_wp2_with (first | (go_at_call 38; refine Calls.mono CJ ?_; rintro e w1 ⟨q', c', rfl, ho, hb⟩; have y0 := (hb.cell (p := ⟨w.heap.size, 0, none⟩) (by simp)).trans (cA 0 (by omega)).1; have y1 := (hb.cell (p := ⟨w.heap.size, 1, none⟩) (by simp)).trans (cA 1 (by omega)).1; have y2 := (hb.cell (p := ⟨w.heap.size, 2, none⟩) (by simp)).trans (cA 2 (by omega)).1; have f0 := (hb.frozen (p := ⟨w.heap.size, 0, none⟩) (by simp)).trans (cA 0 (by omega)).2; have f1 := (hb.frozen (p := ⟨w.heap.size, 1, none⟩) (by simp)).trans (cA 1 (by omega)).2; have f2 := (hb.frozen (p := ⟨w.heap.size, 2, none⟩) (by simp)).trans (cA 2 (by omega)).2; have HO := hidOg ho; have HB := hidOg hb; clear ho hb cA))
  refine bodyPost_ret (v := .agg #[.int .i64 wd, .int .i64 many, .slice q' m.length c']) (by simp [results, Try.results49, go_sem, y0, y1, y2]) rfl ⟨q', c', rfl, ?_, ?_⟩
  · exact (HO.out.set3 (B := w.heap.size) (by simp) _ _ _).weak (by simp)
  · exact set3 (((bal w oZ)).trans (HB.out.mono (by simp))) (Nat.le_refl _) _ _ _
end Go.Proofs.Ytkbikngkhaeakaa
