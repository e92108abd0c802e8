/- AllocSees: who is, by the document, is who lives; the document's Room. -/
import Derived.Test.YtaglhajlgnjhcaaDoorSeA
import Derived.Test.YtaglhajlgnjhcaaDoorReU
namespace Go.Proofs.YtaglhajlgnjhcaaDoor
open Go.RowKit

theorem ent_of_kind {x : Int} (h : kindOf x = 1) : x = fA x * 4294967296 + fB x ∧ p1 x = fB x ∧ p2 x = fA x := by
  have he : isEnt x = true := by
    unfold kindOf at h
    cases he : isEnt x
    · rw [he] at h
      simp at h
      split at h <;> (try split at h) <;> (try split at h) <;> omega
    · rfl
  refine ⟨?_, by unfold p1; rw [if_pos (.inl h)], by unfold p2; rw [if_pos (.inl h)]⟩
  unfold isEnt isHd at he
  simp only [Bool.and_eq_true, decide_eq_true_eq] at he
  obtain ⟨⟨⟨hH, hS⟩, _⟩, _⟩ := he
  unfold fH at hH
  unfold fS at hS
  unfold fA fB
  omega
theorem is_lives {l : List (Int × Bool)} {x : Int} (hn : l.length ≤ 1048578) (hg : ∀ k, k < l.length → 0 ≤ sG l k ∧ sG l k ≤ 7) : isB l x = livesB l x := by
  rw [Bool.eq_iff_iff]
  constructor
  · intro h
    unfold isB at h
    rw [List.any_eq_true] at h
    obtain ⟨k, hk, h⟩ := h
    have hk' : k < l.length := by simpa using hk
    unfold isAt at h
    simp only [Bool.and_eq_true, decide_eq_true_eq] at h
    obtain ⟨ha, rfl⟩ := h
    obtain ⟨g0, g1⟩ := hg k hk'
    rw [← ent_eq (by omega) (by omega) g0 g1, lives_ent (by omega) g0 g1, ha, decide_eq_true hk', decide_eq_true rfl]
    rfl
  · intro h
    unfold livesB at h
    simp only [Bool.and_eq_true, decide_eq_true_eq] at h
    obtain ⟨hk, hh, hs, ha⟩ := h
    obtain ⟨e, e1, e2⟩ := ent_of_kind hk
    have h12 : 1 ≤ p1 x ∧ p1 x ≤ (l.length : Int) := by simpa [hasB] using hh
    refine isB_true (p1 x - 1).toNat (by omega) ?_
    unfold isAt
    rw [ha, hs, decide_eq_true (by omega)]
    rfl

set_option maxRecDepth 20000 in
set_option maxHeartbeats 2000000 in
theorem refRoom18 (m : Int) (c d : Nat) (w : World) (p : Option Addr) (l : List (Int × Bool)) (q : Option Addr) (f : List Int) (h : AIn w p l q f) (hm : mayB m l f = true) :
    Calls Tryd.prog 18 #[.agg #[.int .i64 m, .slice p l.length c, .slice q f.length d]] w fun e w' => e = .returned (.int .i64 (roomM m l f)) ∧ Below w.heap.size w w' := by
  have l1 := h.ln
  have l2 := h.fn
  have CC := fun (w1 : World) (hb : Below (w.alloc (.cells #[.int .i64 m, .slice p l.length c, .slice q f.length d] 25)).heap.size (w.alloc (.cells #[.int .i64 m, .slice p l.length c, .slice q f.length d] 25)) w1) => alive35 m p l c q f.length d w1 ((h.alloc _).below hb).s h.ln
  obtain ⟨m1, m2, m3, m4⟩ := mayB_most hm
  have hu := cnt_us l l.length
  have hf := ((mayB_iff m l f).1 hm).2.2.1
  obtain ⟨n, hn'⟩ : ∃ n : Nat, n = (livN l l.length).length := ⟨_, rfl⟩
  rw [← hn'] at CC hu
  have hle : (f.length : Int) + m + 2 - l.length ≤ m - ((n : Int) - 2) := by omega
  have hnl : n ≤ l.length := by omega
  have HE : Hid (roomM m l f = f.length + m + 2 - l.length) := by unfold Hid roomM; rw [hm]; rfl
  obtain ⟨v, hv⟩ : ∃ v, v = roomM m l f := ⟨_, rfl⟩
  rw [← hv]
  have HV : Hid (v = f.length + m + 2 - l.length) := by unfold Hid; rw [hv]; exact HE.out
  have hw : IntKind.i64.wrap (m - ((n : Int) - 2)) = m - ((n : Int) - 2) := (by rw [IntKind.wrap_i64]; omega)
  clear hv HE hn' hu hf hm h
  by_cases hlt : (f.length : Int) + m + 2 - l.length < m - ((n : Int) - 2)
  all_goals
    have HL : Hid _ := hlt
    go_enter Tryd.func18, Tryd.ntmps18
    go_wp2
    go_region_held3 (fun w' => w'.cell? ⟨w.heap.size, 0, none⟩ = some (.int .i64 m) ∧ w'.cell? ⟨w.heap.size, 1, none⟩ = some (.slice p l.length c) ∧ w'.cell? ⟨w.heap.size, 2, none⟩ = some (.slice q f.length d)) (first | go_keep | exact ⟨b0, b1, b2⟩) (first | (go_at_call 35; refine Calls.mono (CC _ ?_) ?_; exact (Below.refl _ _).drew; rintro e w2 ⟨rfl, hb2⟩; have HB2 : Hid (Below (w.alloc (.cells #[.int .i64 m, .slice p l.length c, .slice q f.length d] 25)).heap.size (w.alloc (.cells #[.int .i64 m, .slice p l.length c, .slice q f.length d] 25)) w2) := ((Below.refl _ _).drew).trans hb2; obtain ⟨b0, b1, b2, bz⟩ := box3 HB2.out))
    all_goals go_wp2
    all_goals go_ret
    all_goals exact ⟨ret_int (by have h1 := HV.out; have h2 := HL.out; omega), below1 HB2.out⟩
end Go.Proofs.YtaglhajlgnjhcaaDoor
