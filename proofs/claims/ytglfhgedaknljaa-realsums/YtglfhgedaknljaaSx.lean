/- slices.Contains, slices.ContainsFunc of words. -/
import Derived.Test.YtglfhgedaknljaaNx
namespace Go.Proofs.Ytglfhgedaknljaa
open Go.RowKit

/-- The first place from k on at which a row has it, as slices.Index tells it. -/
def hasN (f : Int → Bool) (l : List Int) (k : Nat) : Bool := (l.take k).any f
theorem hasN_step {f : Int → Bool} {l : List Int} {k : Nat} (h : k < l.length) : hasN f l (k + 1) = (hasN f l k || f (iG l k)) := by
  unfold hasN; rw [take_snoc h]; simp
theorem hasN_all (f : Int → Bool) (l : List Int) : hasN f l l.length = l.any f := by unfold hasN; rw [List.take_length]
theorem any_of {f : Int → Bool} {l : List Int} {k : Nat} (h : k < l.length) (hf : f (iG l k) = true) : l.any f = true := List.any_eq_true.2 ⟨_, iG_mem h, hf⟩

theorem index46 (p : Option Addr) (l : List Int) (c : Nat) (v : Int) (w : World) (h : Fw w p l c) :
    Calls Try.prog 46 #[.slice p l.length c, .int .u64 v] w fun e w' => ∃ i : Int, e = .returned (.int .i64 i) ∧ decide (0 ≤ i) = l.any (fun x => v == x) ∧ w' = w := by
  have hl : Hid (l.length ≤ 40) := h.n
  go_enter Try.func46, Try.ntmps46
  go_wp2
  go_loopw [8] (fun i wr => ∃ k : Nat, k ≤ l.length ∧ i = .int .i64 k ∧ hasN (fun x => v == x) l k = false ∧ wr = w) (fun i _ => l.length - (intOf i).toNat)
  case atStart => exact ⟨0, by omega, rfl, by simp [hasN], rfl⟩
  case round =>
    obtain ⟨k, hk, rfl, hs, rfl⟩ := hrel
    by_cases hlt : k < l.length
    · obtain ⟨b, off, rfl, hN, hc⟩ := h.i (by omega)
      have hck := hc k hlt
      have NN := kstep (k := k) (l := l) hlt hl.out
      have HS : Hid (hasN (fun x => v == x) l (k + 1) = (v == iG l k)) := by unfold Hid; rw [hasN_step hlt, hs]; rfl
      have HL := hidOg hlt
      clear hs hc hN h hk
      by_cases q : v = iG l k
      · have HA : Hid (l.any (fun x => v == x) = true) := any_of (f := fun x => v == x) hlt (by simp [q])
        have q' : (v == iG l k) = true := by simp [q]
        clear q HS
        go_wp2
        go_ret
        exact ⟨k, rfl, by rw [HA.out]; simp, rfl⟩
      · have q' : (v == iG l k) = false := by simp [q]
        rw [q'] at HS
        clear q
        go_wp2
        go_roundw
        case rel => exact ⟨k + 1, NN.1, by rw [NN.2.1], HS.out, trivial⟩
        case measure => rw [NN.2.1]; exact NN.2.2.1
    · have hkl : k = l.length := by omega
      have HS : Hid (l.any (fun x => v == x) = false) := by unfold Hid; rw [← hasN_all, ← hkl]; exact hs
      clear hs hkl
      go_wp2
      go_ret
      exact ⟨-1, rfl, by rw [HS.out]; rfl, rfl⟩
theorem contains29 (p : Option Addr) (l : List Int) (c : Nat) (v : Int) (w : World) (h : Fw w p l c) :
    Calls Try.prog 29 #[.slice p l.length c, .int .u64 v] w fun e w' => e = .returned (.bool (l.any (fun x => v == x))) ∧ w' = w := by
  have CC := index46 p l c v w h
  go_enter Try.func29, Try.ntmps29
  go_wp2_with (first | (go_at_call 46; refine Calls.mono CC ?_; rintro e w1 ⟨i, rfl, hi, rfl⟩))
  go_ret
  refine ⟨?_, rfl⟩
  rw [← hi]; rfl
theorem nan28 (x : Int) (w : World) (h : W64 x) : Calls Try.prog 28 #[.int .u64 x] w fun e w' => e = .returned (.bool (!nuW x)) ∧ w' = w := by
  have E : Hid ((clW x == 4) = !nuW x) := by unfold Hid nuW; by_cases q : clW x = 4 <;> simp [q]
  go_enter Try.func28, Try.ntmps28
  go_wp2_with (first | (go_at_call 16; refine Calls.mono (class16 _ _ h) ?_; rintro e w1 ⟨rfl, rfl⟩))
  go_ret
  refine ⟨?_, rfl⟩
  rw [← E.out]; rfl
theorem indexf45 (p : Option Addr) (l : List Int) (c : Nat) (w : World) (h : Fw w p l c) :
    Calls Try.prog 45 #[.slice p l.length c, .func (.func 28) #[] #[]] w fun e w' => ∃ i : Int, e = .returned (.int .i64 i) ∧ decide (0 ≤ i) = l.any (fun x => !nuW x) ∧ w' = w := by
  have hl : Hid (l.length ≤ 40) := h.n
  go_enter Try.func45, Try.ntmps45
  go_wp2
  go_loopw [8] (fun i wr => ∃ k : Nat, k ≤ l.length ∧ i = .int .i64 k ∧ hasN (fun x => !nuW x) l k = false ∧ wr = w) (fun i _ => l.length - (intOf i).toNat)
  case atStart => exact ⟨0, by omega, rfl, by simp [hasN], rfl⟩
  case round =>
    obtain ⟨k, hk, rfl, hs, hw⟩ := hrel
    rw [hw]
    clear hw wr
    by_cases hlt : k < l.length
    · obtain ⟨b, off, rfl, hN, hc⟩ := h.i (by omega)
      have hck := hc k hlt
      have NN := kstep (k := k) (l := l) hlt hl.out
      have CL := nan28 (iG l k) w (h.u.at hlt)
      have HS : Hid (hasN (fun x => !nuW x) l (k + 1) = !nuW (iG l k)) := by unfold Hid; rw [hasN_step hlt, hs]; rfl
      have HL := hidOg hlt
      have HA : Hid ((!nuW (iG l k)) = true → l.any (fun x => !nuW x) = true) := fun q => any_of (f := fun x => !nuW x) hlt q
      clear hs hc hN h hk
      cases q : (!nuW (iG l k))
      · rw [q] at HS CL
        clear HA
        go_wp2_with (first | (go_at_call 28; refine Calls.mono CL ?_; rintro e w1 ⟨rfl, hw⟩; rw [hw]; clear hw w1))
        go_roundw
        case rel => exact ⟨k + 1, NN.1, by rw [NN.2.1], HS.out, trivial⟩
        case measure => rw [NN.2.1]; exact NN.2.2.1
      · have HA' := hidOg (HA.out q)
        rw [q] at CL
        clear HA HS q
        go_wp2_with (first | (go_at_call 28; refine Calls.mono CL ?_; rintro e w1 ⟨rfl, hw⟩; rw [hw]; clear hw w1))
        go_ret
        exact ⟨k, rfl, by rw [HA'.out]; simp, rfl⟩
    · have hkl : k = l.length := by omega
      have HS : Hid (l.any (fun x => !nuW x) = false) := by unfold Hid; rw [← hasN_all, ← hkl]; exact hs
      clear hs hkl
      go_wp2
      go_ret
      exact ⟨-1, rfl, by rw [HS.out]; rfl, rfl⟩
theorem containsf27 (p : Option Addr) (l : List Int) (c : Nat) (w : World) (h : Fw w p l c) :
    Calls Try.prog 27 #[.slice p l.length c, .func (.func 28) #[] #[]] w fun e w' => e = .returned (.bool (l.any (fun x => !nuW x))) ∧ w' = w := by
  have CC := indexf45 p l c w h
  obtain ⟨bb, hbb⟩ : ∃ bb, bb = l.any (fun x => !nuW x) := ⟨_, rfl⟩
  rw [← hbb] at CC ⊢
  clear hbb
  go_enter Try.func27, Try.ntmps27
  go_wp2_with (first | (go_at_call 45; refine Calls.mono CC ?_; rintro e w1 ⟨i, rfl, hi, rfl⟩))
  go_ret
  refine ⟨?_, rfl⟩
  rw [← hi]; rfl
end Go.Proofs.Ytglfhgedaknljaa
