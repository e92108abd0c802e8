/- AllocLives: what its calls answer. -/
import Derived.Test.YtaglhajlgnjhcaaDoorLvA
namespace Go.Proofs.YtaglhajlgnjhcaaDoor
open Go.RowKit Go.Maps

theorem new_L (k : Int) (W : World) (hF : Fr W) (h1 : 1 ≤ k) (h5 : k ≤ 5) :
    Calls Tryd.prog 15 #[.int .i64 k] W fun e w' => ∃ m G, (1 ≤ m ∧ m ≤ 5) ∧ e = .returned (.tuple #[.agg #[.int .i64 m, .slice (some ⟨G, 0, none⟩) 2 2, .slice none 0 0], .int .i64 0]) ∧ AIn w' (some ⟨G, 0, none⟩) L2 none [] ∧ Below W.heap.size W w' := by
  refine Calls.mono (new_any k W hF (by unfold mostB; simp; omega)) ?_
  rintro e w' ⟨G, rfl, _, hg, hb⟩
  exact ⟨k, G, ⟨h1, h5⟩, rfl, ⟨hF.below hb hF.lt, srow_heap (l := L2) hg, IRow.nil, by decide, by decide⟩, hb⟩
theorem may_L2 {m : Int} (h1 : 1 ≤ m) (h5 : m ≤ 5) : mayB m L2 [] = true := by
  rw [mayB_iff]
  refine ⟨⟨h1, by omega, by decide, by simp [L2]; omega⟩, fun j hj => ?_, by decide, by decide⟩
  have : j = 0 ∨ j = 1 := by simp [L2] at hj; omega
  rcases this with rfl | rfl <;> decide
theorem LW.start {w w2 : World} {m : Int} {p : Option Addr} {l : List (Int × Bool)} {c : Nat} {q : Option Addr} {f : List Int} {d : Nat} (hz : 0 < w.heap.size) (hi : AIn w2 p l q f) (hb : Below w.heap.size w w2) :
    LW w (((w2.alloc (.cells #[.int .i64 m, .slice p l.length c, .slice q f.length d] 25)).alloc (.map #[] 0)).alloc (.map #[] 0)) w2.heap.size m p l c q f d (w2.heap.size + 1 + 1) (w2.heap.size + 1) 0 (fun _ => 0) (fun _ => false) := by
  have hs := hb.size
  have e1 : (w2.alloc (.cells #[.int .i64 m, .slice p l.length c, .slice q f.length d] 25)).heap.size = w2.heap.size + 1 := by simp
  have e2 : ((w2.alloc (.cells #[.int .i64 m, .slice p l.length c, .slice q f.length d] 25)).alloc (.map #[] 0)).heap.size = w2.heap.size + 1 + 1 := by simp
  have b1 : Below (w2.alloc (.cells #[.int .i64 m, .slice p l.length c, .slice q f.length d] 25)).heap.size (w2.alloc (.cells #[.int .i64 m, .slice p l.length c, .slice q f.length d] 25)) (((w2.alloc (.cells #[.int .i64 m, .slice p l.length c, .slice q f.length d] 25)).alloc (.map #[] 0)).alloc (.map #[] 0)) := ((Below.refl _ _).alloc (Nat.le_refl _) _).alloc (by simp) _
  refine ⟨atW b1 (heap_at rfl), (hi.alloc _).below b1, ((hb.alloc hs _).alloc (by simp; omega) _).alloc (by simp; omega) _, hs, ?_, ?_, by omega, by omega, by omega, hz⟩
  · have := mapI_new ((w2.alloc (.cells #[.int .i64 m, .slice p l.length c, .slice q f.length d] 25)).alloc (.map #[] 0))
    rw [e2] at this; exact this
  · have := mapB_new (w2.alloc (.cells #[.int .i64 m, .slice p l.length c, .slice q f.length d] 25))
    rw [e1] at this
    exact this.at (heap_alloc_old (by rw [e2]; omega))
/-- Take, where there is room, in whatever world. -/
theorem take_L {m : Int} {l : List (Int × Bool)} {f : List Int} (hm : mayB m l f = true) (hr : 0 < (f.length : Int) + m + 2 - l.length) :
    ∃ l' f' x, Nxt m l f l' f' x ∧ ∀ (c d : Nat) (w : World) (p q : Option Addr), AIn w p l q f → Calls Tryd.prog 25 #[.agg #[.int .i64 m, .slice p l.length c, .slice q f.length d]] w fun e w' => ∃ G H, e = .returned (.tuple #[.agg #[.int .i64 m, .slice (some ⟨G, 0, none⟩) l'.length l'.length, .slice (some ⟨H, 0, none⟩) f'.length f'.length], .int .u64 x, .int .i64 0]) ∧ AOwn w w' G l' H f' := by
  have hc : ¬ cntM l = m + 2 := fun hc => by have := full_room hm hc; omega
  by_cases hf : f.length = 0
  · refine ⟨l ++ [(0, true)], f, _, .inr ⟨hf, by omega, rfl, rfl, rfl⟩, fun c d w p q h => ?_⟩
    have := take_further m c d w p l q f h hm hc hf (by omega)
    simpa using this
  · obtain ⟨k, hk⟩ : ∃ k, f.length = k + 1 := ⟨f.length - 1, by omega⟩
    obtain ⟨j, hi, hj, hu⟩ := mayB_free hm k (by omega)
    refine ⟨l.set j (sG l j + 1, true), f.take k, _, .inl ⟨k, j, hk, hi, hj, hu, rfl, rfl, rfl⟩, fun c d w p q h => ?_⟩
    have := take_again m c d w p l q f h hm hc k j hk hi hj
    have e1 : (l.set j (sG l j + 1, true)).length = l.length := by simp
    have e2 : (f.take k).length = k := by simp; omega
    rw [e1, e2]; exact this
theorem take_N {m : Int} {l : List (Int × Bool)} {f : List Int} (hm : mayB m l f = true) (hr : (f.length : Int) + m + 2 - l.length = 0) :
    ∃ n : Int, (n = 6 ∨ n = 121) ∧ ∀ (c d : Nat) (w : World) (p q : Option Addr), AIn w p l q f → Calls Tryd.prog 25 #[.agg #[.int .i64 m, .slice p l.length c, .slice q f.length d]] w fun e w' => e = .returned (.tuple #[.agg #[.int .i64 0, .slice none 0 0, .slice none 0 0], .int .u64 0, .int .i64 n]) ∧ Below w.heap.size w w' := by
  obtain ⟨m1, m2, m3, m4⟩ := mayB_most hm
  by_cases hc : cntM l = m + 2
  · exact ⟨6, .inl rfl, fun c d w p q h => take_full m c d w p l q f h hm hc⟩
  · exact ⟨121, .inr rfl, fun c d w p q h => take_worn m c d w p l q f h hm hc (by omega) (by omega)⟩
/-- All, Room, Check of an allocator that may be. -/
theorem all_L {m : Int} {l : List (Int × Bool)} {f : List Int} (hm : mayB m l f = true) (c d : Nat) (W : World) (p q : Option Addr) (h : AIn W p l q f) :
    Calls Tryd.prog 20 #[.agg #[.int .i64 m, .slice p l.length c, .slice q f.length d]] W fun e w' => ∃ pv cv, e = .returned (.slice pv (livN l l.length).length cv) ∧ IRow .u64 w'.heap.size w' pv (livN l l.length) ∧ Below W.heap.size W w' := by
  have := all_any m p l c q f d W h.fr h.s h.i h.ln (by have := h.fn; omega)
  rw [show allM m l f = livN l l.length by unfold allM; rw [hm]; rfl] at this
  refine Calls.mono this ?_
  rintro e w' ⟨v, rfl, hv, hb⟩
  obtain ⟨pv, cv, rfl, hr⟩ := all_row5 hv
  exact ⟨pv, cv, rfl, hr, hb⟩
theorem room_L {m : Int} {l : List (Int × Bool)} {f : List Int} (hm : mayB m l f = true) (c d : Nat) (W : World) (p q : Option Addr) (h : AIn W p l q f) :
    Calls Tryd.prog 21 #[.agg #[.int .i64 m, .slice p l.length c, .slice q f.length d]] W fun e w' => e = .returned (.int .i64 (f.length + m + 2 - l.length)) ∧ Below W.heap.size W w' := by
  have := room_any m c d W p l q f h
  rw [show roomM m l f = f.length + m + 2 - l.length by unfold roomM; rw [hm]; rfl] at this
  exact this
theorem check_L {m : Int} {l : List (Int × Bool)} {f : List Int} (hm : mayB m l f = true) (c d : Nat) (W : World) (p q : Option Addr) (h : AIn W p l q f) :
    Calls Tryd.prog 11 #[.agg #[.int .i64 m, .slice p l.length c, .slice q f.length d]] W fun e w' => e = .returned (.int .i64 0) ∧ Below W.heap.size W w' := by
  have := check_any m c d W p l q f h
  rw [show chkE m l f = 0 by unfold chkE; rw [hm]; rfl] at this
  exact this
theorem alive_L {m : Int} {l : List (Int × Bool)} {f : List Int} (hm : mayB m l f = true) {x : Int} {v : Bool} (hv : livesB l x = v) (h0 : 0 ≤ x) (h1 : x < 18446744073709551616) (c d : Nat) (W : World) (p q : Option Addr) (h : AIn W p l q f) :
    Calls Tryd.prog 22 #[.agg #[.int .i64 m, .slice p l.length c, .slice q f.length d], .int .u64 x] W fun e w' => e = .returned (.bool v) ∧ Below W.heap.size W w' := by
  have := alive_any m c d x W p l q f h h0 h1
  rw [show aliveM m l f x = v by unfold aliveM; rw [hm, hv]; rfl] at this
  exact this
end Go.Proofs.YtaglhajlgnjhcaaDoor
