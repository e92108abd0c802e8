/- What mayBe asks of a slot: its closure, and 'every' over the slots with it. -/
import Derived.Test.YtaglhajlgnjhcaaDoorAlA
import Derived.Laws.StructEq
namespace Go.Proofs.YtaglhajlgnjhcaaDoor
open Go.RowKit

theorem bcellN {B : Nat} {W w1 : World} (hb : Below B W w1) : (∀ b o, b < B → w1.cell? ⟨b, o, none⟩ = W.cell? ⟨b, o, none⟩) ∧ (∀ b o, b < B → w1.frozen? ⟨b, o, none⟩ = W.frozen? ⟨b, o, none⟩) :=
  ⟨fun b o h => hb.cell (p := ⟨b, o, none⟩) h, fun b o h => hb.frozen (p := ⟨b, o, none⟩) h⟩
theorem below_two {B : Nat} {w w1 : World} {o : Obj} (hlt : B < w.heap.size) (hb : Below (w.alloc o).heap.size (w.alloc o) w1) : Below B w w1 :=
  ((Below.refl _ _).alloc (by omega) _).trans (hb.mono (by simp; omega))

def askN (g : Int) (a : Bool) : Int := if usB g a then 1 else 0

theorem ret_bool {a b : Bool} (h : a = b) : Ending.returned (.bool a) = .returned (.bool b) := by rw [h]
theorem ret_int {k : IntKind} {a b : Int} (h : a = b) : Ending.returned (.int k a) = .returned (.int k b) := by rw [h]
theorem cell_int {w : World} {p : Addr} {k : IntKind} {a b : Int} (h : w.cell? p = some (.int k a)) (e : a = b) : w.cell? p = some (.int k b) := by rw [h, e]
theorem askN_t {g : Int} {a : Bool} (h : usB g a = true) : askN g a = 1 := by simp [askN, h]
theorem askN_f {g : Int} {a : Bool} (h : usB g a = false) : askN g a = 0 := by simp [askN, h]
theorem keep1 {w w1 : World} {o : Obj} {B : Nat} {v : Value} (hlt : B < w.heap.size) (hb : Below (w.alloc o).heap.size (w.alloc o) w1) (hc : w.cell? ⟨B, 0, none⟩ = some v) (hf : w.frozen? ⟨B, 0, none⟩ = false) :
    w1.cell? ⟨B, 0, none⟩ = some v ∧ w1.frozen? ⟨B, 0, none⟩ = false :=
  ⟨(hb.cell (p := ⟨B, 0, none⟩) (by simp; omega)).trans ((World.cell?_alloc_past o B 0 hlt).trans hc), (hb.frozen (p := ⟨B, 0, none⟩) (by simp; omega)).trans ((World.frozen?_alloc_past o B 0 hlt).trans hf)⟩

set_option maxHeartbeats 1000000 in
theorem ask_any (p g : Int) (a : Bool) (B : Nat) (c : Int) (w : World) (hF : Fr w) (hB : 0 < B) (hc : w.cell? ⟨B, 0, none⟩ = some (.int .i64 c)) (hf : w.frozen? ⟨B, 0, none⟩ = false) (hlt : B < w.heap.size) (h0 : 0 ≤ c) (h1 : c < 1152921504606846976) :
    Calls Tryd.prog 59 #[.int .i64 p, .agg #[.int .i64 g, .bool a], .pointer (some ⟨B, 0, none⟩)] w fun e w' => e = .returned (.bool (slotOk p g a)) ∧ w'.cell? ⟨B, 0, none⟩ = some (.int .i64 (c + askN g a)) ∧ w'.frozen? ⟨B, 0, none⟩ = false ∧ Below B w w' := by
  have f0 := hF.c0
  have f1 := hF.c1
  have hl := hF.lt
  have hus := usable_any g a
  obtain ⟨n, hn⟩ : ∃ n, n = askN g a := ⟨_, rfl⟩
  obtain ⟨r, hr⟩ : ∃ r, r = slotOk p g a := ⟨_, rfl⟩
  rw [← hn, ← hr]
  have HR : Hid (r = slotOk p g a) := hr
  have hg : g < 0 ∨ g = 0 ∨ (0 < g ∧ g ≤ 7) ∨ 7 < g := by omega
  cases hu : usB g a
  · have HN : Hid (n = 0) := hn.trans (askN_f hu)
    rw [hu] at hus
    clear hn hr hu
    by_cases hp : 2 ≤ p
    all_goals
      cases a
      all_goals
        rcases hg with hg | rfl | ⟨hg, hg'⟩ | hg
        all_goals
          go_enter Tryd.func59, Tryd.ntmps59
          go_wp2_with (first | (go_at_call 53; refine Calls.mono (hus _) ?_; rintro e w1 ⟨rfl, hb⟩; obtain ⟨kc, kf⟩ := bcellN hb; have hz := hb.size; simp at hz))
          go_ret
          have hk := keep1 hlt hb hc hf
          exact ⟨ret_bool (by rw [HR.out]; unfold slotOk; first | (simp; done) | (rw [Bool.eq_iff_iff]; simp; omega)), cell_int hk.1 (by rw [HN.out]; omega), hk.2, below_two hlt hb⟩
  · have HN : Hid (n = 1) := hn.trans (askN_t hu)
    rw [hu] at hus
    clear hn hr hu
    by_cases hp : 2 ≤ p
    all_goals
      cases a
      all_goals
        rcases hg with hg | rfl | ⟨hg, hg'⟩ | hg
        all_goals
          go_enter Tryd.func59, Tryd.ntmps59
          go_wp2_with (first | (go_at_call 53; refine Calls.mono (hus _) ?_; rintro e w1 ⟨rfl, hb⟩; obtain ⟨kc, kf⟩ := bcellN hb; have hz := hb.size; simp at hz))
          go_ret
          have hk := keep1 hlt hb hc hf
          exact ⟨ret_bool (by rw [HR.out]; unfold slotOk; first | (simp; done) | (rw [Bool.eq_iff_iff]; simp; omega)), by rw [HN.out]; exact World.cell?_setCell_same _ _ _ hk.1, by rw [World.frozen?_setCell]; exact hk.2, (below_two hlt hb).setCell (Nat.le_refl _) _⟩
end Go.Proofs.YtaglhajlgnjhcaaDoor
