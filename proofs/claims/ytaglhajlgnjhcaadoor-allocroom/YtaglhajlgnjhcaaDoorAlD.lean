/- What freeOnce asks of an index: its closure. -/
import Derived.Test.YtaglhajlgnjhcaaDoorAlC
namespace Go.Proofs.YtaglhajlgnjhcaaDoor
open Go.RowKit

structure MetAt (w : World) (Ba Bm M n : Nat) (m : Int) (p : Option Addr) (c : Nat) (q : Option Addr) (k d : Nat) (mt : Nat → Bool) : Prop where
  a0 : w.cell? ⟨Ba, 0, none⟩ = some (.int .i64 m)
  a1 : w.cell? ⟨Ba, 1, none⟩ = some (.slice p n c)
  a2 : w.cell? ⟨Ba, 2, none⟩ = some (.slice q k d)
  b0 : w.cell? ⟨Bm, 0, none⟩ = some (.slice (some ⟨M, 0, none⟩) n n)
  mc : ∀ j, j < n → w.cell? ⟨M, j, none⟩ = some (.bool (mt j))
  mf : ∀ j, w.frozen? ⟨M, j, none⟩ = false
  l0 : Ba < M
  l1 : M < Bm
  l2 : Bm < w.heap.size

theorem MetAt.below {w w' : World} {Ba Bm M n : Nat} {m : Int} {p : Option Addr} {c : Nat} {q : Option Addr} {k d : Nat} {mt : Nat → Bool} (h : MetAt w Ba Bm M n m p c q k d mt) {X : Nat} (hb : Below X w w') (hX : Bm < X) : MetAt w' Ba Bm M n m p c q k d mt := by
  have := h.l0; have := h.l1; have := h.l2
  exact ⟨(hb.cell (p := ⟨Ba, 0, none⟩) (by simp; omega)).trans h.a0, (hb.cell (p := ⟨Ba, 1, none⟩) (by simp; omega)).trans h.a1, (hb.cell (p := ⟨Ba, 2, none⟩) (by simp; omega)).trans h.a2, (hb.cell (p := ⟨Bm, 0, none⟩) (by simp; omega)).trans h.b0,
    fun j hj => (hb.cell (p := ⟨M, j, none⟩) (by simp; omega)).trans (h.mc j hj), fun j => (hb.frozen (p := ⟨M, j, none⟩) (by simp; omega)).trans (h.mf j), h.l0, h.l1, Nat.lt_of_lt_of_le h.l2 hb.size⟩
theorem MetAt.set {w : World} {Ba Bm M n : Nat} {m : Int} {p : Option Addr} {c : Nat} {q : Option Addr} {k d : Nat} {mt : Nat → Bool} (h : MetAt w Ba Bm M n m p c q k d mt) (j : Nat) (hj : j < n) : MetAt (w.setCell ⟨M, j, none⟩ (.bool true)) Ba Bm M n m p c q k d (fun x => if x = j then true else mt x) := by
  have := h.l0; have := h.l1; have := h.l2
  refine ⟨?_, ?_, ?_, ?_, ?_, ?_, h.l0, h.l1, ?_⟩
  · rw [World.cell?_setCell_other]; exact h.a0; intro e; simp at e; try omega
  · rw [World.cell?_setCell_other]; exact h.a1; intro e; simp at e; try omega
  · rw [World.cell?_setCell_other]; exact h.a2; intro e; simp at e; try omega
  · rw [World.cell?_setCell_other]; exact h.b0; intro e; simp at e; try omega
  · intro x hx
    by_cases e : x = j
    · subst e; simp only [if_true]; exact World.cell?_setCell_same _ _ _ (h.mc x hx)
    · rw [World.cell?_setCell_other]; simp only [e, if_false]; exact h.mc x hx
      intro e'; simp at e'; try omega
  · intro x; rw [World.frozen?_setCell]; exact h.mf x
  · simpa using h.l2

def freeOk (l : List (Int × Bool)) (mt : Nat → Bool) (i : Int) : Bool := hasB l.length i && (usB (sG l (i - 1).toNat) (sA l (i - 1).toNat) && !mt (i - 1).toNat)
def metNow (mt : Nat → Bool) (i : Int) : Nat → Bool := fun x => if x = (i - 1).toNat then true else mt x

set_option maxHeartbeats 1000000 in
theorem once_any (pl i : Int) (l : List (Int × Bool)) (Ba Bm M : Nat) (m : Int) (p : Option Addr) (c : Nat) (q : Option Addr) (k d : Nat) (mt : Nat → Bool) (w : World) (h : MetAt w Ba Bm M l.length m p c q k d mt) (hS : SRow M w p l) (hn : l.length < 1152921504606846976) :
    Calls Tryd.prog 69 #[.int .i64 pl, .int .i64 i, .pointer (some ⟨Ba, 0, none⟩), .pointer (some ⟨Bm, 0, none⟩)] w fun e w' => e = .returned (.bool (freeOk l mt i)) ∧ (freeOk l mt i = true → MetAt w' Ba Bm M l.length m p c q k d (metNow mt i)) ∧ Below M w w' := by
  obtain ⟨r, hr⟩ : ∃ r, r = freeOk l mt i := ⟨_, rfl⟩
  rw [← hr]
  have HR : Hid (r = freeOk l mt i) := hr
  clear hr
  have l0 := h.l0
  have l1 := h.l1
  have l2 := h.l2
  have a0 := h.a0
  have a1 := h.a1
  have a2 := h.a2
  have b0 := h.b0
  have q1 : Ba < w.heap.size := by omega
  have q2 : M < w.heap.size := by omega
  have CH := fun (w : World) => hasSlot_any m p l.length c q k d i w
  have HM : Hid (MetAt w Ba Bm M l.length m p c q k d mt) := h
  clear h
  cases ha : hasB l.length i
  · rw [ha] at CH
    have HA : Hid (hasB l.length i = false) := ha
    clear ha
    go_enter Tryd.func69, Tryd.ntmps69
    go_wp2_with (first | (go_at_call 44; refine Calls.mono (CH _) ?_; rintro e w1 ⟨rfl, hb⟩; obtain ⟨kc, kf⟩ := bcellN hb; have hz := hb.size))
    go_ret
    have e : freeOk l mt i = false := by unfold freeOk; rw [HA.out]; rfl
    exact ⟨ret_bool (by rw [HR.out, e]), fun h => (by rw [HR.out, e] at h; cases h), hb.mono (by omega)⟩
  · rw [ha] at CH
    have HA : Hid (hasB l.length i = true) := ha
    have h12 : 1 ≤ i ∧ i ≤ (l.length : Int) := by simpa [hasB] using ha
    clear ha
    obtain ⟨j, rfl⟩ : ∃ j : Nat, i = (j : Int) + 1 := ⟨(i - 1).toNat, by omega⟩
    have hj : j < l.length := by omega
    have ej : ((j : Int) + 1 - 1).toNat = j := by omega
    clear h12
    obtain ⟨b, off, rfl, hbB, hcs⟩ := hS (by omega)
    obtain ⟨c0, c1⟩ := hcs j hj
    have q3 : b < w.heap.size := by omega
    clear hcs
    have CU := fun (w : World) => usable_any (sG l j) (sA l j) w
    cases hu : usB (sG l j) (sA l j)
    · rw [hu] at CU
      have HU : Hid (usB (sG l j) (sA l j) = false) := hu
      clear hu
      go_enter Tryd.func69, Tryd.ntmps69
      go_wp2_with (first | (go_at_call 44; refine Calls.mono (CH _) ?_; rintro e w1 ⟨rfl, hb⟩; obtain ⟨kc, kf⟩ := bcellN hb; have hz := hb.size; have q4 : Ba < w1.heap.size := (by omega); have q5 : M < w1.heap.size := (by omega); have q6 : b < w1.heap.size := (by omega); have q7 : Bm < w1.heap.size := (by omega)) | (go_at_call 53; refine Calls.mono (CU _) ?_; rintro e w2 ⟨rfl, hb2⟩; obtain ⟨kc2, kf2⟩ := bcellN hb2; have hz2 := hb2.size))
      go_ret
      have e : freeOk l mt ((j : Int) + 1) = false := by unfold freeOk; rw [HA.out, ej, HU.out]; rfl
      exact ⟨ret_bool (by rw [HR.out, e]), fun h => (by rw [HR.out, e] at h; cases h), (hb.mono (by omega)).trans (hb2.mono (by omega))⟩
    · rw [hu] at CU
      have HU : Hid (usB (sG l j) (sA l j) = true) := hu
      clear hu
      have hmc := HM.out.mc j hj
      have hmf := HM.out.mf j
      cases hm : mt j
      · rw [hm] at hmc
        have HMJ : Hid (mt j = false) := hm
        clear hm
        go_enter Tryd.func69, Tryd.ntmps69
        go_wp2_with (first | (go_at_call 44; refine Calls.mono (CH _) ?_; rintro e w1 ⟨rfl, hb⟩; obtain ⟨kc, kf⟩ := bcellN hb; have hz := hb.size; have q4 : Ba < w1.heap.size := (by omega); have q5 : M < w1.heap.size := (by omega); have q6 : b < w1.heap.size := (by omega); have q7 : Bm < w1.heap.size := (by omega)) | (go_at_call 53; refine Calls.mono (CU _) ?_; rintro e w2 ⟨rfl, hb2⟩; obtain ⟨kc2, kf2⟩ := bcellN hb2; have hz2 := hb2.size))
        go_ret
        have hB2 : Below M w w2 := (hb.mono (by omega)).trans (hb2.mono (by omega))
        have e : freeOk l mt ((j : Int) + 1) = true := by unfold freeOk; rw [HA.out, ej, HU.out, HMJ.out]; rfl
        refine ⟨ret_bool (by rw [HR.out, e]), fun _ => ?_, hB2.setCell (p := ⟨M, j, none⟩) (Nat.le_refl _) _⟩
        have := ((HM.out.below hb (by omega)).below hb2 (by omega)).set j hj
        unfold metNow; rw [ej]; exact this
      · rw [hm] at hmc
        have HMJ : Hid (mt j = true) := hm
        clear hm
        go_enter Tryd.func69, Tryd.ntmps69
        go_wp2_with (first | (go_at_call 44; refine Calls.mono (CH _) ?_; rintro e w1 ⟨rfl, hb⟩; obtain ⟨kc, kf⟩ := bcellN hb; have hz := hb.size; have q4 : Ba < w1.heap.size := (by omega); have q5 : M < w1.heap.size := (by omega); have q6 : b < w1.heap.size := (by omega); have q7 : Bm < w1.heap.size := (by omega)) | (go_at_call 53; refine Calls.mono (CU _) ?_; rintro e w2 ⟨rfl, hb2⟩; obtain ⟨kc2, kf2⟩ := bcellN hb2; have hz2 := hb2.size))
        go_ret
        have e : freeOk l mt ((j : Int) + 1) = false := by unfold freeOk; rw [HA.out, ej, HU.out, HMJ.out]; rfl
        exact ⟨ret_bool (by rw [HR.out, e]), fun h => (by rw [HR.out, e] at h; cases h), (hb.mono (by omega)).trans (hb2.mono (by omega))⟩
end Go.Proofs.YtaglhajlgnjhcaaDoor
