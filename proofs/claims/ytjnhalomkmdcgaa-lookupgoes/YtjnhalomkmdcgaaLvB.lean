/- The document's answer: Found, Right. -/
import Derived.Test.YtjnhalomkmdcgaaLvA
namespace Go.Proofs.Ytjnhalomkmdcgaa
open Go.RowKit

noncomputable def meB (L : List En) (t : List Int) (i : Nat) : Bool := @decide (Met hsT L t i) (Classical.propDecidable _)
theorem meB_t {L : List En} {t : List Int} {i : Nat} (h : Met hsT L t i) : meB L t i = true := @decide_eq_true _ (Classical.propDecidable _) h
theorem meB_f {L : List En} {t : List Int} {i : Nat} (h : ¬ Met hsT L t i) : meB L t i = false := @decide_eq_false _ (Classical.propDecidable _) h
theorem meB_of {L : List En} {t : List Int} {i : Nat} (h : meB L t i = true) : Met hsT L t i := @of_decide_eq_true _ (Classical.propDecidable _) h
set_option maxRecDepth 20000 in
set_option maxHeartbeats 2000000 in
theorem found32 (p : Option Addr) (L : List En) (c : Nat) (q : Option Addr) (t : List Int) (d i : Nat) (w : World) (hE : ERow w.heap.size w p L) (hm : L.length ≤ 1000) (hT : TRow w.heap.size w q t d) (ht : t.length ≤ 1000) (hi : i < L.length) (hu : (gE L i).1 = 1) (hty : (gE L i).2.1 = t) :
    Calls Try.prog 32 #[.agg #[.slice p L.length c], .slice q t.length d, .int .i64 (i : Int)] w fun e w' => e = .returned (.bool (meB L t i)) ∧ Below w.heap.size w w' := by
  obtain ⟨v, hv⟩ : ∃ v, v = meB L t i := ⟨_, rfl⟩
  rw [← hv]
  have HV := hidOg hv
  obtain ⟨m, hm'⟩ : ∃ m, m = L.length := ⟨_, rfl⟩
  have HM := hidOg hm'
  obtain ⟨b, off, rfl, hbN, hcs⟩ := hE (by omega)
  have CO := fun (W : World) (hb : Below w.heap.size w W) => refOf53 q t d W ((hT.i.below hb (Nat.le_refl _)).mono hb.size) hT.u ht
  have CS : ∀ (W : World), Below w.heap.size w W → ∀ qx cx, TRow w.heap.size w qx t cx → Calls Try.prog 33 #[.slice qx t.length cx, .slice q t.length d] W fun e w' => e = .returned (.bool true) ∧ Below W.heap.size W w' := fun W hb qx cx hx => by
    have := same33 qx t cx q t d W ((hx.i.below hb (Nat.le_refl _)).mono hb.size) ((hT.i.below hb (Nat.le_refl _)).mono hb.size) (by omega)
    rwa [eqB_t] at this
  have HCS := hidOg hcs
  have bw : Below w.heap.size w (w.alloc (.cells #[.slice (some ⟨b, off, none⟩) m c] 24)) := (Below.refl _ _).alloc (Nat.le_refl _) _
  have HK : Hid (∀ W, Below (w.alloc (.cells #[.slice (some ⟨b, off, none⟩) m c] 24)).heap.size (w.alloc (.cells #[.slice (some ⟨b, off, none⟩) m c] 24)) W → Below w.heap.size w W ∧ W.cell? ⟨w.heap.size, 0, none⟩ = some (.slice (some ⟨b, off, none⟩) m c)) := fun W hb =>
    ⟨bw.trans (hb.mono bw.size), Boxed.cell (Boxed.stays (Boxed.new w 24 _) hb)⟩
  obtain ⟨lt, hlt0⟩ : ∃ lt, lt = t.length := ⟨_, rfl⟩
  rw [← hlt0] at CO CS ⊢
  have HLT := hidOg hlt0
  rw [← hm'] at hm hi ⊢
  obtain ⟨h, hh⟩ : ∃ h, h = hsT t := ⟨_, rfl⟩
  rw [← hh] at CO
  have HH := hidOg hh
  have CP := fun (j : Nat) (W : World) => refProbe17 h m j (by omega) (by omega) W
  have HU := hidOg hu
  have HTY := hidOg hty
  have hb0 := fun (W : World) (o : Obj) => (Below.refl W.heap.size W).alloc (Nat.le_refl _) o
  clear hv hm' hE hT ht hlt0 hcs hu hty hh bw
  go_enter Try.func32, Try.ntmps32
  go_wp2_with (first | (go_at_call 53; refine Calls.mono (CO _ (HK.out _ (Below.refl _ _)).1) ?_; clear CO; rintro e w1 ⟨rfl, hb1⟩; have hx1 := (HK.out _ hb1).2; have HB1 := hidOg hb1; clear hb1))
  generalize (w.alloc (.cells #[.slice (some ⟨b, off, none⟩) m c] 24)) = wb at HK HB1 hx1 ⊢
  go_loopw [15] (fun x wr => ∃ k : Nat, k ≤ m ∧ x = .int .i64 k ∧ (∀ j, j < k → tuK h m j ≠ i ∧ (gE L (tuK h m j)).1 ≠ 0) ∧ Below wb.heap.size wb wr) (fun x _ => m - (intOf x).toNat)
  case atStart => exact ⟨0, Nat.zero_le _, rfl, fun j hj => by omega, HB1.out⟩
  case round =>
    obtain ⟨k, hk, rfl, hall, hBw⟩ := hrel
    have HA := hidOg hall
    have HB := hidOg hBw
    obtain ⟨hbw, x0⟩ := HK.out _ hBw
    clear hall hBw
    by_cases hlt : k < m
    · have CPk := fun (W : World) => CP k W
      obtain ⟨K, hK⟩ : ∃ K, K = tuK h m k := ⟨_, rfl⟩
      have hKm : K < m := by rw [hK]; exact tuK_lt (by omega) k
      have eK : (((h % m + k) % m : Nat) : Int) = (K : Int) := by rw [hK]; rfl
      rw [eK] at CPk
      have HKK := hidOg hK
      obtain ⟨k0, _, _⟩ := HCS.out K (by rw [← HM.out]; exact hKm)
      have k0' := (hbw.cell (p := ⟨b, off + K * 3, none⟩) hbN).trans k0
      obtain ⟨j0, ⟨qx, cx, j1, hTx⟩, _⟩ := HCS.out i (by rw [← HM.out]; exact hi)
      have j0' := (hbw.cell (p := ⟨b, off + i * 3, none⟩) hbN).trans j0
      have j1' := (hbw.cell (p := ⟨b, off + i * 3 + 1, none⟩) hbN).trans j1
      rw [HU.out] at j0'
      rw [HTY.out] at j1' hTx
      rw [← HLT.out] at j1'
      obtain ⟨s, hs⟩ : ∃ s, s = (gE L K).1 := ⟨_, rfl⟩
      rw [← hs] at k0'
      have HS := hidOg hs
      have CSx := CS _ hbw qx cx hTx
      have HBw := hidOg hbw
      have HWW : Hid (Below wb.heap.size wb wr ∧ ∀ W, Below wr.heap.size wr W → Below w.heap.size w W) := ⟨HB.out, fun W hb => hbw.trans (hb.mono hbw.size)⟩
      clear hb0 hK eK k0 j0 j1 hTx hs hbw CP CS
      by_cases hKi : K = i
      · have e1 : ((K : Int) == (i : Int)) = true := by simp [hKi]
        have HKi := hidOg hKi
        clear hKi
        go_wp2_with (first | (go_at_call 54; refine Calls.mono (CPk _) ?_; clear CPk; rintro e w2 ⟨rfl, hw2⟩; rw [hw2]; clear hw2 w2) | (go_at_call 33; refine Calls.mono CSx ?_; clear CSx; rintro e w3 ⟨rfl, hb3⟩; have HB3 := hidOg (HWW.out.2 _ hb3); clear hb3))
        go_ret
        refine ⟨ret_bool ?_, HB3.out⟩
        rw [HV.out]
        refine (meB_t (met_at (j := k) (by rw [← HM.out]; exact hlt) ?_ fun j hj => ?_)).symm
        · rw [← HM.out, ← HH.out, ← HKK.out]; exact HKi.out
        · rw [← HM.out, ← HH.out]; exact (HA.out j hj).2
      · have e1 : ((K : Int) == (i : Int)) = false := by simp; omega
        have HKi := hidOg hKi
        clear hKi j0' j1'
        by_cases hs0 : s = 0
        · have e2 : (s == 0) = true := by simp [hs0]
          have HS0 := hidOg hs0
          clear hs0
          go_wp2_with (first | (go_at_call 54; refine Calls.mono (CPk _) ?_; clear CPk; rintro e w2 ⟨rfl, hw2⟩; rw [hw2]; clear hw2 w2))
          go_ret
          refine ⟨ret_bool ?_, HBw.out⟩
          rw [HV.out]
          refine (meB_f (met_not (j := k) ?_ fun j hj => ?_)).symm
          · rw [← HM.out, ← HH.out, ← HKK.out, ← HS.out]; exact HS0.out
          · rw [← HM.out, ← HH.out]
            by_cases e : j = k
            · rw [e, ← HKK.out]; exact HKi.out
            · exact (HA.out j (by omega)).1
        · have e2 : (s == 0) = false := by simpa using hs0
          have HS0 := hidOg hs0
          clear hs0
          go_wp2_with (first | (go_at_call 54; refine Calls.mono (CPk _) ?_; clear CPk; rintro e w2 ⟨rfl, hw2⟩; rw [hw2]; clear hw2 w2))
          go_roundw
          case rel =>
            refine ⟨k + 1, by omega, by go_num, fun j hj => ?_, HWW.out.1⟩
            by_cases e : j = k
            · rw [e, ← HKK.out]; exact ⟨HKi.out, by rw [← HS.out]; exact HS0.out⟩
            · exact HA.out j (by omega)
          case measure => simp [intOf]; omega
    · exfalso
      obtain ⟨j, hj, e⟩ := tuK_surj (h := h) hi
      exact (HA.out j (by omega)).1 e
end Go.Proofs.Ytjnhalomkmdcgaa
