/- Contracts of the closures of ident.asks. -/
import Derived.Test.YtjnhalomkmdcgaaIdB
namespace Go.Proofs.Ytjnhalomkmdcgaa
open Go.RowKit

theorem a41_any (x : Int) (p q : Nat) (w : World) (h : Asked x p q w) :
    Calls Try.prog 93 #[.pointer (some ⟨p, 0, none⟩), .pointer (some ⟨q, 0, none⟩)] w fun e w' => e = .returned (.bool (isEnt x)) ∧ Below w.heap.size w w' := by
  have g := h
  obtain ⟨_, _, hp0, h0, h1, h2, h3⟩ := h
  have HE : Hid (isEnt x = (isHd x 0 && inR 0 7 (fA x) && inR 1 1048578 (fB x))) := rfl
  cases c1 : isHd x 0
  · go_enter Try.func93, Try.ntmps93
    go_wp2_with (first | (go_at_call 91; refine (is_any _ _ _ _ _ g).mono ?_; rintro e w1 ⟨rfl, rfl⟩))
    go_ret
    exact ⟨by rw [HE.out, c1]; rfl, Below.refl _ _⟩
  · cases c2 : inR 0 7 (fA x)
    · go_enter Try.func93, Try.ntmps93
      go_wp2_with (first | (go_at_call 91; refine (is_any _ _ _ _ _ g).mono ?_; rintro e w1 ⟨rfl, rfl⟩) | (go_at_call 94; refine Calls.mono (within1n _ _ _ _ _ _ (by simp)) ?_; rintro e w1 ⟨rfl, rfl⟩))
      go_ret
      exact ⟨by rw [HE.out, c1, c2]; rfl, (Below.refl _ _).alloc (Nat.le_refl _) _⟩
    · cases c3 : inR 1 1048578 (fB x)
      all_goals
        go_enter Try.func93, Try.ntmps93
        go_wp2_with (first | (go_at_call 91; refine (is_any _ _ _ _ _ g).mono ?_; rintro e w1 ⟨rfl, rfl⟩) | (go_at_call 94; refine Calls.mono (within1n _ _ _ _ _ _ (by simp)) ?_; rintro e w1 ⟨rfl, rfl⟩))
        go_ret
        exact ⟨by rw [HE.out, c1, c2, c3]; rfl, ((Below.refl _ _).alloc (Nat.le_refl _) _).alloc (by simp) _⟩
theorem a42_any (x : Int) (p q : Nat) (w : World) (h : Asked x p q w) :
    Calls Try.prog 95 #[.pointer (some ⟨p, 0, none⟩), .pointer (some ⟨q, 0, none⟩)] w fun e w' => e = .returned (.bool (isCom x)) ∧ Below w.heap.size w w' := by
  have g := h
  obtain ⟨_, _, hp0, h0, h1, h2, h3⟩ := h
  have HE : Hid (isCom x = (isHd x 1 && inR 0 0 (fA x) && inR 1 24 (fB x))) := rfl
  cases c1 : isHd x 1
  · go_enter Try.func95, Try.ntmps95
    go_wp2_with (first | (go_at_call 91; refine (is_any _ _ _ _ _ g).mono ?_; rintro e w1 ⟨rfl, rfl⟩))
    go_ret
    exact ⟨by rw [HE.out, c1]; rfl, Below.refl _ _⟩
  · by_cases c2 : fA x = 0
    · have d2 : Hid (inR 0 0 (fA x) = true) := by rw [c2]; rfl
      have c2' : (fA x == 0) = true := by simp [c2]
      clear c2
      cases c3 : inR 1 24 (fB x)
      all_goals
        go_enter Try.func95, Try.ntmps95
        go_wp2_with (first | (go_at_call 91; refine (is_any _ _ _ _ _ g).mono ?_; rintro e w1 ⟨rfl, rfl⟩) | (go_at_call 94; refine Calls.mono (within1n _ _ _ _ _ _ (by simp)) ?_; rintro e w1 ⟨rfl, rfl⟩))
        go_ret
        exact ⟨by rw [HE.out, c1, d2.out, c3]; rfl, (Below.refl _ _).alloc (Nat.le_refl _) _⟩
    · have d2 : Hid (inR 0 0 (fA x) = false) := by unfold inR Hid; simp; omega
      have c2' : (fA x == 0) = false := by simp [c2]
      clear c2
      go_enter Try.func95, Try.ntmps95
      go_wp2_with (first | (go_at_call 91; refine (is_any _ _ _ _ _ g).mono ?_; rintro e w1 ⟨rfl, rfl⟩) | (go_at_call 94; refine Calls.mono (within1n _ _ _ _ _ _ (by simp)) ?_; rintro e w1 ⟨rfl, rfl⟩))
      go_ret
      exact ⟨by rw [HE.out, c1, d2.out]; rfl, Below.refl _ _⟩
theorem a43_any (x : Int) (p q : Nat) (w : World) (h : Asked x p q w) :
    Calls Try.prog 96 #[.pointer (some ⟨p, 0, none⟩), .pointer (some ⟨q, 0, none⟩)] w fun e w' => e = .returned (.bool (isPai x)) ∧ Below w.heap.size w w' := by
  have g := h
  obtain ⟨_, _, hp0, h0, h1, h2, h3⟩ := h
  have HE : Hid (isPai x = (isHd x 2 && (inR 1 1048578 (fA x) && inR 1 1048578 (fB x)))) := rfl
  cases c1 : isHd x 2
  · go_enter Try.func96, Try.ntmps96
    go_wp2_with (first | (go_at_call 91; refine (is_any _ _ _ _ _ g).mono ?_; rintro e w1 ⟨rfl, rfl⟩))
    go_ret
    exact ⟨by rw [HE.out, c1]; rfl, Below.refl _ _⟩
  · cases c2 : (inR 1 1048578 (fA x) && inR 1 1048578 (fB x))
    all_goals
      go_enter Try.func96, Try.ntmps96
      go_wp2_with (first | (go_at_call 91; refine (is_any _ _ _ _ _ g).mono ?_; rintro e w1 ⟨rfl, rfl⟩) | (go_at_call 94; refine Calls.mono (within2n _ _ _ _ _ _ _ (by simp)) ?_; rintro e w1 ⟨rfl, rfl⟩))
      go_ret
      exact ⟨by rw [HE.out, c1, c2]; rfl, (Below.refl _ _).alloc (Nat.le_refl _) _⟩
theorem a44_any (x : Int) (p q : Nat) (w : World) (h : Asked x p q w) :
    Calls Try.prog 97 #[.pointer (some ⟨p, 0, none⟩), .pointer (some ⟨q, 0, none⟩)] w fun e w' => e = .returned (.bool (isPat x)) ∧ Below w.heap.size w w' := by
  have g := h
  obtain ⟨_, _, hp0, h0, h1, h2, h3⟩ := h
  have HE : Hid (isPat x = (isHd x 2 && (inR 0 1048578 (fA x) && inR 0 1048578 (fB x)) && !(inR 1 1048578 (fA x) && inR 1 1048578 (fB x)))) := rfl
  cases c1 : isHd x 2
  · go_enter Try.func97, Try.ntmps97
    go_wp2_with (first | (go_at_call 91; refine (is_any _ _ _ _ _ g).mono ?_; rintro e w1 ⟨rfl, rfl⟩))
    go_ret
    exact ⟨by rw [HE.out, c1]; rfl, Below.refl _ _⟩
  · cases c2 : (inR 0 1048578 (fA x) && inR 0 1048578 (fB x))
    · go_enter Try.func97, Try.ntmps97
      go_wp2_with (first | (go_at_call 91; refine (is_any _ _ _ _ _ g).mono ?_; rintro e w1 ⟨rfl, rfl⟩) | (go_at_call 94; refine Calls.mono (within2n _ _ _ _ _ _ _ (by simp)) ?_; rintro e w1 ⟨rfl, rfl⟩))
      go_ret
      exact ⟨by rw [HE.out, c1, c2]; rfl, (Below.refl _ _).alloc (Nat.le_refl _) _⟩
    · cases c3 : (inR 1 1048578 (fA x) && inR 1 1048578 (fB x))
      all_goals
        go_enter Try.func97, Try.ntmps97
        go_wp2_with (first | (go_at_call 91; refine (is_any _ _ _ _ _ g).mono ?_; rintro e w1 ⟨rfl, rfl⟩) | (go_at_call 94; refine Calls.mono (within2n _ _ _ _ _ _ _ (by simp)) ?_; rintro e w1 ⟨rfl, rfl⟩))
        go_ret
        exact ⟨by rw [HE.out, c1, c2, c3]; rfl, ((Below.refl _ _).alloc (Nat.le_refl _) _).alloc (by simp) _⟩
end Go.Proofs.Ytjnhalomkmdcgaa
