/- The document's Ends. -/
import Derived.Test.YtglfhgedaknljaaRf
namespace Go.Proofs.Ytglfhgedaknljaa
open Go.RowKit

/-- Of what Ends has found the first is not more than the second. -/
def LeN (a b : Int) : Prop := nuW a = true ∧ nuW b = true ∧ plW (unW a) ≤ plW (unW b)
theorem enS_le {st : Option (Int × Int)} {x : Int} (h : ∀ a b, st = some (a, b) → LeN a b) : ∀ a b, enS st x = some (a, b) → LeN a b := by
  intro a b e
  unfold enS at e
  split at e
  · rename_i hx
    cases st with
    | none => simp at e; obtain ⟨rfl, rfl⟩ := e; exact ⟨hx, hx, Int.le_refl _⟩
    | some q =>
      obtain ⟨c, d⟩ := q
      obtain ⟨h1, h2, h3⟩ := h c d rfl
      simp only at e
      split at e
      · rename_i t; cases e
        rw [ts1] at t; simp at t
        exact ⟨hx, h2, by omega⟩
      · split at e
        · rename_i t; cases e
          rw [ts2] at t; simp at t
          exact ⟨h1, hx, by omega⟩
        · cases e; exact ⟨h1, h2, h3⟩
  · exact h a b e
theorem enF_le (l : List Int) (k : Nat) : ∀ a b, enF (l.take k) = some (a, b) → LeN a b := by
  induction k with
  | zero => intro a b e; simp [enF] at e
  | succ k ih =>
    by_cases hk : k < l.length
    · rw [enF_step hk]; exact enS_le ih
    · rw [List.take_of_length_le (by omega)]; rw [List.take_of_length_le (by omega)] at ih; exact ih
theorem le_t {a b x : Int} (h : LeN a b) (t : tsW 1 x a = true) : tsW 2 x b = false := by
  obtain ⟨h1, h2, h3⟩ := h
  rw [ts1] at t; simp at t
  rw [ts2]
  have : ¬ plW (unW b) < plW (unW x) := by omega
  simp [this]
/-- Where the document's Ends has found them. -/
def EnR (l : List Int) (k : Nat) (lo hi : Int) : Prop :=
  (enF (l.take k) = none ∧ lo = -1 ∧ hi = -1) ∨ ∃ (a b : Int) (i j : Nat), enF (l.take k) = some (a, b) ∧ lo = i ∧ hi = j ∧ i < k ∧ j < k ∧ iG l i = a ∧ iG l j = b

set_option maxHeartbeats 2000000 in
set_option maxRecDepth 20000 in
theorem ends22 (p : Option Addr) (l : List Int) (c : Nat) (w : World) (h : Fw w p l c) :
    Calls Try.prog 22 #[.slice p l.length c] w fun e w' => ∃ lo hi, e = .returned (.tuple #[.int .i64 lo, .int .i64 hi]) ∧ EnR l l.length lo hi ∧ w' = w := by
  have hl : Hid (l.length ≤ 40) := h.n
  go_enter Try.func22, Try.ntmps22
  go_wp2
  go_loopw [4, 5, 10] (fun s4 s5 i wr => ∃ (k : Nat) (lo hi : Int), k ≤ l.length ∧ i = .int .i64 k ∧ s4 = .int .i64 lo ∧ s5 = .int .i64 hi ∧ EnR l k lo hi ∧ wr = w) (fun _ _ i _ => l.length - (intOf i).toNat)
  case atStart => exact ⟨0, -1, -1, by omega, rfl, rfl, rfl, .inl ⟨rfl, rfl, rfl⟩, rfl⟩
  case round =>
    obtain ⟨k, lo, hi, hk, rfl, rfl, rfl, hs, hw⟩ := hrel
    rw [hw]
    clear hw wr
    by_cases hlt : k < l.length
    · obtain ⟨b0, off, rfl, hN, hc⟩ := h.i (by omega)
      have hck := hc k hlt
      have hx := h.u.at hlt
      have NN := kstep (k := k) (l := l) hlt hl.out
      have HE : Hid (enF (l.take (k + 1)) = enS (enF (l.take k)) (iG l k)) := enF_step hlt
      have HLE := hidOg (enF_le l k)
      have HU := hidOg h.u
      have CL := fun (W : World) => class15 (iG l k) W hx
      have hcl : Hid (nuW (iG l k) = decide (clW (iG l k) ≠ 4)) := rfl
      obtain ⟨x, ex⟩ : ∃ x, x = iG l k := ⟨_, rfl⟩
      have EX := hidOg ex
      rw [← ex] at hck hx HE CL hcl
      clear ex
      rcases hs with ⟨hs, rfl, rfl⟩ | ⟨a, b, i, j, hs, rfl, rfl, hi, hj, ea, eb⟩
      · rw [hs] at HE
        clear hs HLE hc hN h HU hk
        cases hn : nuW x
        · have HE' : Hid (enF (l.take (k + 1)) = none) := by unfold Hid; rw [HE.out]; unfold enS; rw [hn]; rfl
          rw [hn] at hcl
          have h4 : (clW x == 4) = true := by have := hcl.out; simpa using this.symm
          clear HE hn hcl
          go_wp2_with (first | (go_at_call 15; refine (CL _).mono ?_; rintro e w1 ⟨rfl, hw⟩; rw [hw]; clear hw w1))
          go_roundw
          case rel => exact ⟨k + 1, -1, -1, NN.1, by rw [NN.2.1], rfl, rfl, .inl ⟨HE'.out, rfl, rfl⟩, trivial⟩
          case measure => rw [NN.2.1]; exact NN.2.2.1
        · have HE' : Hid (enF (l.take (k + 1)) = some (x, x)) := by unfold Hid; rw [HE.out]; unfold enS; rw [hn]; rfl
          rw [hn] at hcl
          have h4 : (clW x == 4) = false := by have := hcl.out; simpa using this.symm
          clear HE hn hcl
          go_wp2_with (first | (go_at_call 15; refine (CL _).mono ?_; rintro e w1 ⟨rfl, hw⟩; rw [hw]; clear hw w1))
          go_roundw
          case rel => exact ⟨k + 1, k, k, NN.1, by rw [NN.2.1], rfl, rfl, .inr ⟨x, x, k, k, HE'.out, rfl, rfl, Nat.lt_succ_self k, Nat.lt_succ_self k, EX.out.symm, EX.out.symm⟩, trivial⟩
          case measure => rw [NN.2.1]; exact NN.2.2.1
      · rw [hs] at HE
        have HL := hidOg (HLE.out a b hs)
        have HS := hidOg hs
        have hiL : i < l.length := by omega
        have hjL : j < l.length := by omega
        have hci := hc i hiL
        have hcj := hc j hjL
        have ha := HU.out.at hiL
        have hb := HU.out.at hjL
        rw [ea] at hci ha
        rw [eb] at hcj hb
        have HP := hidOg (And.intro (Nat.lt_succ_of_lt hi) (And.intro (Nat.lt_succ_of_lt hj) (And.intro ea eb)))
        have L1 := fun (W : World) => less41 x a W hx ha
        have L2 := fun (W : World) => less41 b x W hb hx
        rw [ts_swap] at L2
        clear hs HLE hc hN h HU hk hi hj ea eb
        cases hn : nuW x
        · have HE' : Hid (enF (l.take (k + 1)) = some (a, b)) := by unfold Hid; rw [HE.out]; unfold enS; rw [hn]; rfl
          rw [hn] at hcl
          have h4 : (clW x == 4) = true := by have := hcl.out; simpa using this.symm
          clear HE hn hcl L1 L2 hci hcj
          go_wp2_with (first | (go_at_call 15; refine (CL _).mono ?_; rintro e w1 ⟨rfl, hw⟩; rw [hw]; clear hw w1))
          go_roundw
          case rel => exact ⟨k + 1, i, j, NN.1, by rw [NN.2.1], rfl, rfl, .inr ⟨a, b, i, j, HE'.out, rfl, rfl, HP.out.1, HP.out.2.1, HP.out.2.2.1, HP.out.2.2.2⟩, trivial⟩
          case measure => rw [NN.2.1]; exact NN.2.2.1
        · rw [hn] at hcl
          have h4 : (clW x == 4) = false := by have := hcl.out; simpa using this.symm
          cases t1 : tsW 1 x a
          · cases t2 : tsW 2 x b
            · have HE' : Hid (enF (l.take (k + 1)) = some (a, b)) := by unfold Hid; rw [HE.out]; unfold enS; rw [hn]; simp [t1, t2]
              rw [t1] at L1
              rw [t2] at L2
              clear HE hn hcl t1 t2
              go_wp2_with (first | (go_at_call 15; refine (CL _).mono ?_; rintro e w1 ⟨rfl, hw⟩; rw [hw]; clear hw w1) | (go_at_call_has 41 a; refine (L1 _).mono ?_; rintro e w1 ⟨rfl, hw⟩; rw [hw]; clear hw w1) | (go_at_call_has 41 b; refine (L2 _).mono ?_; rintro e w1 ⟨rfl, hw⟩; rw [hw]; clear hw w1))
              go_roundw
              case rel => exact ⟨k + 1, i, j, NN.1, by rw [NN.2.1], rfl, rfl, .inr ⟨a, b, i, j, HE'.out, rfl, rfl, HP.out.1, HP.out.2.1, HP.out.2.2.1, HP.out.2.2.2⟩, trivial⟩
              case measure => rw [NN.2.1]; exact NN.2.2.1
            · have HE' : Hid (enF (l.take (k + 1)) = some (a, x)) := by unfold Hid; rw [HE.out]; unfold enS; rw [hn]; simp [t1, t2]
              rw [t1] at L1
              rw [t2] at L2
              clear HE hn hcl t1 t2
              go_wp2_with (first | (go_at_call 15; refine (CL _).mono ?_; rintro e w1 ⟨rfl, hw⟩; rw [hw]; clear hw w1) | (go_at_call_has 41 a; refine (L1 _).mono ?_; rintro e w1 ⟨rfl, hw⟩; rw [hw]; clear hw w1) | (go_at_call_has 41 b; refine (L2 _).mono ?_; rintro e w1 ⟨rfl, hw⟩; rw [hw]; clear hw w1))
              go_roundw
              case rel => exact ⟨k + 1, i, k, NN.1, by rw [NN.2.1], rfl, rfl, .inr ⟨a, x, i, k, HE'.out, rfl, rfl, HP.out.1, (Nat.lt_succ_self k), HP.out.2.2.1, EX.out.symm⟩, trivial⟩
              case measure => rw [NN.2.1]; exact NN.2.2.1
          · have t2 := le_t HL.out t1
            have HE' : Hid (enF (l.take (k + 1)) = some (x, b)) := by unfold Hid; rw [HE.out]; unfold enS; rw [hn]; simp [t1]
            rw [t1] at L1
            rw [t2] at L2
            clear HE hn hcl t1 t2
            go_wp2_with (first | (go_at_call 15; refine (CL _).mono ?_; rintro e w1 ⟨rfl, hw⟩; rw [hw]; clear hw w1) | (go_at_call_has 41 a; refine (L1 _).mono ?_; rintro e w1 ⟨rfl, hw⟩; rw [hw]; clear hw w1) | (go_at_call_has 41 b; refine (L2 _).mono ?_; rintro e w1 ⟨rfl, hw⟩; rw [hw]; clear hw w1))
            go_roundw
            case rel => exact ⟨k + 1, k, j, NN.1, by rw [NN.2.1], rfl, rfl, .inr ⟨x, b, k, j, HE'.out, rfl, rfl, (Nat.lt_succ_self k), HP.out.2.1, EX.out.symm, HP.out.2.2.2⟩, trivial⟩
            case measure => rw [NN.2.1]; exact NN.2.2.1
    · have hkl : k = l.length := by omega
      have HS : Hid (EnR l l.length lo hi) := by rw [hkl] at hs; exact hs
      clear hs hkl
      go_wp2
      exact bodyPost_ret (v := .tuple #[.int .i64 lo, .int .i64 hi]) (by simp [results, Try.results22, go_sem]) rfl ⟨lo, hi, rfl, HS.out, rfl⟩
end Go.Proofs.Ytglfhgedaknljaa
