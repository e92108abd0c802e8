/- RealTests: its walk. -/
import Derived.Test.YtglfhgedaknljaaRe
namespace Go.Proofs.Ytglfhgedaknljaa
open Go.RowKit

theorem ix0 (q : Int) (w : World) : (Instr.index 37 (.agg #[.int .i64 q, .int .i64 0, .int .i64 1, .int .i64 2, .int .i64 3]) (.int .i64 0)).run Try.prog w = .ok (.int .i64 q) w := by kernel_rfl
theorem ix1 (q : Int) (w : World) : (Instr.index 37 (.agg #[.int .i64 q, .int .i64 0, .int .i64 1, .int .i64 2, .int .i64 3]) (.int .i64 1)).run Try.prog w = .ok (.int .i64 0) w := by kernel_rfl
theorem ix2 (q : Int) (w : World) : (Instr.index 37 (.agg #[.int .i64 q, .int .i64 0, .int .i64 1, .int .i64 2, .int .i64 3]) (.int .i64 2)).run Try.prog w = .ok (.int .i64 1) w := by kernel_rfl
theorem ix3 (q : Int) (w : World) : (Instr.index 37 (.agg #[.int .i64 q, .int .i64 0, .int .i64 1, .int .i64 2, .int .i64 3]) (.int .i64 3)).run Try.prog w = .ok (.int .i64 2) w := by kernel_rfl
theorem ix4 (q : Int) (w : World) : (Instr.index 37 (.agg #[.int .i64 q, .int .i64 0, .int .i64 1, .int .i64 2, .int .i64 3]) (.int .i64 4)).run Try.prog w = .ok (.int .i64 3) w := by kernel_rfl

theorem enR_none {l : List Int} {lo hi : Int} (h : EnR l l.length lo hi) (he : enF l = none) : lo = -1 ∧ hi = -1 := by
  rcases h with ⟨_, h⟩ | ⟨a, b, i, j, h, _⟩
  · exact h
  · rw [List.take_length, he] at h; cases h
theorem enR_some {l : List Int} {lo hi a b : Int} (h : EnR l l.length lo hi) (he : enF l = some (a, b)) : ∃ i j : Nat, lo = i ∧ hi = j ∧ i < l.length ∧ j < l.length ∧ iG l i = a ∧ iG l j = b := by
  rcases h with ⟨h, _⟩ | ⟨a', b', i, j, h, h1, h2, h3, h4, h5, h6⟩
  · rw [List.take_length, he] at h; cases h
  · rw [List.take_length, he] at h; cases h
    exact ⟨i, j, h1, h2, h3, h4, h5, h6⟩
theorem kst5 {k : Nat} (h : k < 5) : wrap64 ((k : Int) + 1) = ((k + 1 : Nat) : Int) := by unfold wrap64; omega

set_option maxHeartbeats 4000000 in
set_option maxRecDepth 20000 in
theorem tests_walk (pp : Option Addr) (l0 : List Int) (c0 : Nat) (q : Int) (w : World) (hi : InR w pp l0 c0) : Calls Try.prog 4 #[.slice pp l0.length c0, .int .i64 q] w fun e w' => e = .returned (.bool true) ∧ Below w.heap.size w w' := by
  have UU : Hid (U64 (l0.take 40) ∧ (l0.take 40).length ≤ 40) := ⟨hi.u.take 40, by simp; omega⟩
  have FW := fun (W : World) (hb : Below w.heap.size w W) => few9 pp l0 c0 W (hi.to hb)
  obtain ⟨l, hl⟩ : ∃ l, l = l0.take 40 := ⟨_, rfl⟩
  rw [← hl] at UU FW
  clear hl hi
  obtain ⟨f, hf⟩ : ∃ f, f = tsW := ⟨_, rfl⟩
  obtain ⟨g, hg⟩ : ∃ g, g = cmW := ⟨_, rfl⟩
  have TT : ∀ (k x y : Int) (W : World), W64 x → W64 y → Calls Try.prog 19 #[.int .i64 k, .int .u64 x, .int .u64 y] W fun e w' => e = .returned (.bool (f k x y)) ∧ Below W.heap.size W w' := by rw [hf]; exact test19
  have TR : ∀ (k x y : Int) (W : World), W64 x → W64 y → Calls Try.prog 20 #[.int .i64 k, .int .u64 x, .int .u64 y] W fun e w' => e = .returned (.bool (f k x y)) ∧ w' = W := by rw [hf]; exact test20
  have CC : ∀ (x y : Int) (W : World), W64 x → W64 y → Calls Try.prog 17 #[.int .u64 x, .int .u64 y] W fun e w' => e = .returned (.int .i64 (g x y)) ∧ w' = W := by rw [hg]; exact compare17
  have CR : ∀ (x y : Int) (W : World), W64 x → W64 y → Calls Try.prog 18 #[.int .u64 x, .int .u64 y] W fun e w' => e = .returned (.int .i64 (g x y)) ∧ w' = W := by rw [hg]; exact compare18
  clear hf hg
  go_enter Try.func4, Try.ntmps4
  go_wp2_with (first | (go_at_call 8; refine Calls.mono (wakes8 _) ?_; rintro e w1 ⟨rfl, hb1⟩) | (go_at_call 9; refine Calls.mono (FW _ hb1) ?_; rintro e w2 ⟨p, c, rfl, hr2, hc2, hb2⟩))
  have hF : Fw w2 p l c := ⟨hr2, hc2, UU.out.1, UU.out.2⟩
  have hB := hidOg (bt hb1 hb2)
  have hl : Hid (l.length ≤ 40) := hF.n
  clear hr2 hc2 hb1 hb2 UU FW
  go_loopw [22] (fun i wr => ∃ k : Nat, k ≤ l.length ∧ i = .int .i64 k ∧ Below w2.heap.size w2 wr) (fun i _ => l.length - (intOf i).toNat)
  case atStart => exact ⟨0, by omega, rfl, Below.refl _ _⟩
  case round =>
    obtain ⟨k, hk, rfl, hb⟩ := hrel
    have HB := hidOg hb
    by_cases hlt : k < l.length
    · obtain ⟨b0, off, rfl, hN, hc⟩ := (hF.to hb).i (by omega)
      have hck := hc k hlt
      have hx := hF.u.at hlt
      have NN := kstep (k := k) (l := l) hlt hl.out
      obtain ⟨x, ex⟩ : ∃ x, x = iG l k := ⟨_, rfl⟩
      rw [← ex] at hck hx
      clear ex hc hN hb hk
      have HL := hidOg hlt
      go_wp2
      go_loopw [28] (fun i wr => ∃ k : Nat, k ≤ l.length ∧ i = .int .i64 k ∧ Below w2.heap.size w2 wr) (fun i _ => l.length - (intOf i).toNat)
      case atStart => exact ⟨0, Nat.zero_le _, rfl, HB.out⟩
      case round =>
        obtain ⟨m, hm, rfl, hb⟩ := hrel
        have HB := hidOg hb
        by_cases hmt : m < l.length
        · obtain ⟨b1, off1, e1, hN, hc⟩ := (hF.to hb).i (by omega)
          cases e1
          have hcm := hc m hmt
          have hy := hF.u.at hmt
          have MM := kstep (k := m) (l := l) hmt hl.out
          obtain ⟨y, ey⟩ : ∃ y, y = iG l m := ⟨_, rfl⟩
          rw [← ey] at hcm hy
          clear ey hc hN hb hm hck
          go_wp2_with (first | (go_at_call 17; refine Calls.mono (CC _ _ _ (by assumption) (by assumption)) ?_; rintro e w3 ⟨rfl, hw⟩; rw [hw]; clear hw w3) | (go_at_call 18; refine Calls.mono (CR _ _ _ (by assumption) (by assumption)) ?_; rintro e w3 ⟨rfl, hw⟩; rw [hw]; clear hw w3))
          go_loopw [41] (fun i wr => ∃ k : Nat, k ≤ 5 ∧ i = .int .i64 k ∧ Below w2.heap.size w2 wr) (fun i _ => 5 - (intOf i).toNat)
          case atStart => exact ⟨0, Nat.zero_le _, rfl, HB.out⟩
          case round =>
            obtain ⟨n, hn, rfl, hb⟩ := hrel
            have HB := hidOg hb
            clear hb
            match n, hn with
            | 0, _ =>
              have ix := ix0 q
              go_wp2_with (first | (go_at_call 19; refine Calls.mono (TT _ _ _ _ (by assumption) (by assumption)) ?_; rintro e w3 ⟨rfl, hb3⟩; have HB := hidOg (bt HB.out hb3); clear hb3) | (go_at_call 20; refine Calls.mono (TR _ _ _ _ (by assumption) (by assumption)) ?_; rintro e w4 ⟨rfl, hw⟩; rw [hw]; clear hw w4))
              go_roundw
              case rel => exact ⟨1, by omega, by go_num, HB.out⟩
              case measure => simp [intOf]
            | 1, _ =>
              have ix := ix1 q
              go_wp2_with (first | (go_at_call 19; refine Calls.mono (TT _ _ _ _ (by assumption) (by assumption)) ?_; rintro e w3 ⟨rfl, hb3⟩; have HB := hidOg (bt HB.out hb3); clear hb3) | (go_at_call 20; refine Calls.mono (TR _ _ _ _ (by assumption) (by assumption)) ?_; rintro e w4 ⟨rfl, hw⟩; rw [hw]; clear hw w4))
              go_roundw
              case rel => exact ⟨2, by omega, by go_num, HB.out⟩
              case measure => simp [intOf]
            | 2, _ =>
              have ix := ix2 q
              go_wp2_with (first | (go_at_call 19; refine Calls.mono (TT _ _ _ _ (by assumption) (by assumption)) ?_; rintro e w3 ⟨rfl, hb3⟩; have HB := hidOg (bt HB.out hb3); clear hb3) | (go_at_call 20; refine Calls.mono (TR _ _ _ _ (by assumption) (by assumption)) ?_; rintro e w4 ⟨rfl, hw⟩; rw [hw]; clear hw w4))
              go_roundw
              case rel => exact ⟨3, by omega, by go_num, HB.out⟩
              case measure => simp [intOf]
            | 3, _ =>
              have ix := ix3 q
              go_wp2_with (first | (go_at_call 19; refine Calls.mono (TT _ _ _ _ (by assumption) (by assumption)) ?_; rintro e w3 ⟨rfl, hb3⟩; have HB := hidOg (bt HB.out hb3); clear hb3) | (go_at_call 20; refine Calls.mono (TR _ _ _ _ (by assumption) (by assumption)) ?_; rintro e w4 ⟨rfl, hw⟩; rw [hw]; clear hw w4))
              go_roundw
              case rel => exact ⟨4, by omega, by go_num, HB.out⟩
              case measure => simp [intOf]
            | 4, _ =>
              have ix := ix4 q
              go_wp2_with (first | (go_at_call 19; refine Calls.mono (TT _ _ _ _ (by assumption) (by assumption)) ?_; rintro e w3 ⟨rfl, hb3⟩; have HB := hidOg (bt HB.out hb3); clear hb3) | (go_at_call 20; refine Calls.mono (TR _ _ _ _ (by assumption) (by assumption)) ?_; rintro e w4 ⟨rfl, hw⟩; rw [hw]; clear hw w4))
              go_roundw
              case rel => exact ⟨5, by omega, by go_num, HB.out⟩
              case measure => simp [intOf]
            | 5, _ =>
              go_wp2
              go_roundw
              case rel => exact ⟨m + 1, MM.1, by rw [MM.2.1], HB.out⟩
              case measure => rw [MM.2.1]; exact MM.2.2.1
        · clear hb
          go_wp2
          go_roundw
          case rel => exact ⟨k + 1, NN.1, by rw [NN.2.1], HB.out⟩
          case measure => rw [NN.2.1]; exact NN.2.2.1
    · have E1 := fun (W : World) (h : Below w2.heap.size w2 W) => ends21 p l c W (hF.to h)
      have E2 := fun (W : World) (h : Below w2.heap.size w2 W) => ends22 p l c W (hF.to h)
      have N1 := fun lo hi => @enR_none l lo hi
      have N2 := fun lo hi a b => @enR_some l lo hi a b
      clear hb hk
      cases he : enF l with
      | none =>
        rw [he] at E1
        simp only [enV] at E1
        clear N2
        go_wp2_with (first | (go_at_call 21; refine Calls.mono (E1 _ HB.out) ?_; rintro e w3 ⟨rfl, hb3⟩; have HB := hidOg (bt HB.out hb3); clear hb3) | (go_at_call 22; refine Calls.mono (E2 _ HB.out) ?_; rintro e w4 ⟨lo, hi, rfl, hr, hw⟩; rw [hw]; clear hw w4; obtain ⟨rfl, rfl⟩ := N1 _ _ hr he; clear hr))
        go_ret
        exact ⟨rfl, bt hB.out HB.out⟩
      | some ab =>
        obtain ⟨a, b⟩ := ab
        rw [he] at E1
        simp only [enV] at E1
        clear N1
        go_wp2_with (first | (go_at_call 21; refine Calls.mono (E1 _ HB.out) ?_; rintro e w3 ⟨rfl, hb3⟩; have HB := hidOg (bt HB.out hb3); clear hb3) | (go_at_call 22; refine Calls.mono (E2 _ HB.out) ?_; rintro e w4 ⟨lo, hi, rfl, hr, hw⟩; rw [hw]; clear hw w4; obtain ⟨i, j, rfl, rfl, hiL, hjL, ea, eb⟩ := N2 _ _ _ _ hr he; clear hr; obtain ⟨b0, off, rfl, hN, hc⟩ := (hF.to HB.out).i (Nat.lt_of_le_of_lt (Nat.zero_le _) hiL); have hci := hc i hiL; have hcj := hc j hjL; rw [ea] at hci; rw [eb] at hcj; clear hc hN ea eb))
        go_ret
        exact ⟨rfl, bt hB.out HB.out⟩
end Go.Proofs.Ytglfhgedaknljaa
