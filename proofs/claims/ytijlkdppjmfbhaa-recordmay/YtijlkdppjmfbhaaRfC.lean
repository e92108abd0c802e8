/- The document's answer: Right. -/
import Derived.Test.YtijlkdppjmfbhaaRfB
namespace Go.Proofs.Ytijlkdppjmfbhaa
open Go.RowKit

theorem spot32a (t r : Int) (b : Bool) (h : spB (t, r) = b) (w : World) : Calls Try.prog 32 #[.agg #[.int .i64 t, .int .i64 r]] w fun e w' => e = .returned (.bool b) ∧ Below w.heap.size w w' := by
  rw [← h]; exact spot32 t r w
theorem may_no {l : List Sp} (h : ¬ rightP l l.length) : mayS l = false := by
  cases e : mayS l with
  | false => rfl
  | true => exact absurd (may_right.1 e).2.2 h
theorem right_succ {l : List Sp} {k : Nat} (h : rightP l k) (h1 : spB (sG l k) = true) (h2 : ∀ i, i < k → 0 < (sG l k).1 → sG l i ≠ sG l k) : rightP l (k + 1) := fun j hj => by
  by_cases e : j = k
  · subst e; exact ⟨h1, fun i hi hh => h2 i hi hh.1 hh.2⟩
  · exact h j (by omega)
theorem may_not {l : List Sp} {k : Nat} (hk : k < l.length) (h : spB (sG l k) = false) : mayS l = false := may_no fun hr => by
  have := (hr k hk).1; rw [h] at this; cases this
theorem may_twin {l : List Sp} {k i : Nat} (hk : k < l.length) (hi : i < k) (hp : 0 < (sG l k).1) (h : sG l i = sG l k) : mayS l = false := may_no fun hr => (hr k hk).2 i hi ⟨hp, h⟩
set_option maxRecDepth 20000 in
set_option maxHeartbeats 4000000 in
theorem refRight10 (p : Option Addr) (l : List Sp) (c : Nat) (w : World) (hS : SRow w.heap.size w p l) (hl : l.length ≤ 1099511627776) (hc : l.length ≤ c) :
    Calls Try.prog 10 #[.agg #[.slice p l.length c]] w fun e w' => e = .returned (.bool (mayS l)) ∧ Below w.heap.size w w' := by
  have hb := bal w (.cells #[.slice p l.length c] 24)
  have HB := hidOg hb
  have Q0 := hidOg (blk1 (W := w) (o := .cells #[.slice p l.length c] 24))
  have HS := hidOg (hS.to hb)
  obtain ⟨v, hv⟩ : ∃ v, v = mayS l := ⟨_, rfl⟩
  have HV := hidOg hv
  rw [← hv]
  by_cases hbig : l.length ≤ 1048578
  · by_cases h0 : l.length = 0
    · have E : Hid (v = true) := by
        unfold Hid; rw [hv, may_right]
        exact ⟨hbig, .inl h0, fun j hj => by omega⟩
      rw [h0] at HB ⊢
      clear Q0 HS hS hb hv hl hbig hc
      go_enter Try.func10, Try.ntmps10
      go_wp2
      go_loopw [30] (fun i wr => i = .int .i64 0 ∧ wr = (w.alloc (.cells #[.slice p 0 c] 24))) (fun _ _ => 0)
      case atStart => exact ⟨rfl, rfl⟩
      case round =>
        obtain ⟨rfl, rfl⟩ := hrel
        go_wp2
        go_ret
        exact ⟨ret_bool E.out.symm, HB.out⟩
    · obtain ⟨m, hm⟩ : ∃ m, l.length = m + 1 := ⟨l.length - 1, by omega⟩
      have HM := hidOg hm
      obtain ⟨b, off, rfl, hbN, hcs⟩ := hS (by omega)
      obtain ⟨a0, a1⟩ := hcs m (by omega)
      have HV2 : Hid (v = true ↔ (sG l m).1 ≠ 0 ∧ rightP l (m + 1)) := by
        unfold Hid; rw [hv, may_right, hm]
        exact ⟨fun h => ⟨by rcases h.2.1 with h' | h'; { omega }; { exact h' }, h.2.2⟩, fun h => ⟨by omega, .inr h.1, h.2⟩⟩
      have hd : decide ((0 : Int) < (m : Int) + 1) = true := decide_eq_true (by omega)
      have hdb : decide ((1048578 : Int) < (m : Int) + 1) = false := decide_eq_false (by omega)
      have hmb : (m : Int) ≤ 1048577 := by omega
      rw [hm] at HB Q0 hc HS ⊢
      by_cases hx : (sG l m).1 = 0
      · have E : Hid (v = false) := by
          unfold Hid; rw [Bool.eq_false_iff]; intro h; exact (HV2.out.1 h).1 hx
        rw [hx] at a0
        clear hcs hx h0 hm hv hb hl HS Q0 hS
        go_enter Try.func10, Try.ntmps10
        go_wp2
        go_ret
        exact ⟨ret_bool E.out.symm, HB.out⟩
      · have HX := hidOg hx
        obtain ⟨x, hxx⟩ : ∃ x, x = (sG l m).1 := ⟨_, rfl⟩
        rw [← hxx] at hx a0
        have hd0 : (x == 0) = false := by simpa using hx
        obtain ⟨w2, hw2⟩ : ∃ w2, w2 = w.alloc (.cells #[.slice (some ⟨b, off, none⟩) (m + 1) c] 24) := ⟨_, rfl⟩
        have HW2 := hidOg hw2
        rw [← hw2] at HS Q0 HB
        clear hcs hx h0 hxx hm hv hb hl hw2 hS
        go_enter Try.func10, Try.ntmps10
        go_wp2
        rw [← HW2.out]
        clear a0 a1 hd0 hd hdb
        go_loopw [30] (fun i wr => ∃ k : Nat, k ≤ m + 1 ∧ i = .int .i64 k ∧ rightP l k ∧ Below w2.heap.size w2 wr) (fun i _ => m + 1 - (intOf i).toNat)
        case atStart => exact ⟨0, Nat.zero_le _, rfl, (fun j h => by omega), Below.refl _ _⟩
        case round =>
          obtain ⟨k, hk, rfl, hall, hbr⟩ := hrel
          have HA := hidOg hall
          have HBr := hidOg hbr
          clear hall
          by_cases hk' : k < m + 1
          · obtain ⟨b', off', e, hbB, hcs⟩ := (HS.out.to hbr) (by have := HM.out; omega)
            injection e with e; injection e with e1 e2; subst e1 e2
            obtain ⟨a0, a1⟩ := hcs k (by have := HM.out; omega)
            obtain ⟨⟨y, y2⟩, hy⟩ : ∃ y, y = sG l k := ⟨_, rfl⟩
            rw [← hy] at a0 a1
            have HY := hidOg hy
            have hz := bal wr (.cells #[.int .i64 y, .int .i64 y2] 34)
            have HZ := hidOg (hbr.trans (hz.mono hbr.size))
            have e0 := cell2_heap (blk1 (W := wr) (o := .cells #[.int .i64 y, .int .i64 y2] 34))
            have E0 := hidOg (blk1 (W := wr) (o := .cells #[.int .i64 y, .int .i64 y2] 34))
            obtain ⟨e0, e1, _⟩ := e0
            have hkc : k ≤ c := by omega
            clear hcs hbr hy hz
            cases hsp : spB (y, y2)
            · have E : Hid (v = false) := by
                unfold Hid; rw [HV.out]; exact may_not (k := k) (by have := HM.out; omega) (by rw [← HY.out]; exact hsp)
              have CS := fun (W : World) => spot32a y y2 false hsp W
              clear hsp
              go_wp2_with (first | (go_at_call 32; refine Calls.mono (CS _) ?_; rintro e w3 ⟨rfl, hb⟩; have HB3 := hidOg (HZ.out.trans (hb.mono HZ.out.size)); clear hb))
              go_ret
              exact ⟨ret_bool E.out.symm, HB.out.trans (HB3.out.mono HB.out.size)⟩
            · have HP := hidOg hsp
              have CS := fun (W : World) => spot32a y y2 true hsp W
              clear hsp
              go_wp2_with (first | (go_at_call 32; refine Calls.mono (CS _) ?_; rintro e w3 ⟨rfl, hb⟩; have HB3 := hidOg (HZ.out.trans (hb.mono HZ.out.size)); have E3 := hidOg (atW hb E0.out); have q0 := cell1_heap (atW HB3.out Q0.out); clear hb))
              clear e0 e1 a0 a1 E0 HZ
              go_loopw [43] (fun i wr' => ∃ j : Nat, j ≤ k ∧ i = .int .i64 j ∧ (∀ i, i < j → 0 < y → sG l i ≠ (y, y2)) ∧ Below w3.heap.size w3 wr') (fun i _ => k - (intOf i).toNat)
              case atStart => exact ⟨0, Nat.zero_le _, rfl, (fun j h => by omega), Below.refl _ _⟩
              case round =>
                obtain ⟨j, hj, rfl, hall, hbr⟩ := hrel
                have HA' := hidOg hall
                have HBr' := hidOg hbr
                obtain ⟨f0, f1, _⟩ := cell2_heap (atW hbr E3.out)
                clear hall q0
                by_cases hj' : j < k
                · obtain ⟨b', off', e, hbB, hcs⟩ := ((HS.out.to HB3.out).to hbr) (by have := HM.out; omega)
                  injection e with e; injection e with e1 e2; subst e1 e2
                  obtain ⟨a0, a1⟩ := hcs j (by have := HM.out; omega)
                  obtain ⟨⟨z, z2⟩, hz⟩ : ∃ z, z = sG l j := ⟨_, rfl⟩
                  rw [← hz] at a0 a1
                  have HZj := hidOg hz
                  have hz := bal wr (.cells #[.int .i64 z, .int .i64 z2] 34)
                  have HZ' := hidOg (hbr.trans (hz.mono hbr.size))
                  obtain ⟨g0, g1, _⟩ := cell2_heap (blk1 (W := wr) (o := .cells #[.int .i64 z, .int .i64 z2] 34))
                  have f0' := (hz.cell (p := ⟨_, 0, none⟩) (World.block_lt_of_cell? _ _ f0)).trans f0
                  have f1' := (hz.cell (p := ⟨_, 1, none⟩) (World.block_lt_of_cell? _ _ f1)).trans f1
                  clear hcs hbr hz
                  by_cases hp : 0 < y
                  · have hpd : decide (0 < y) = true := decide_eq_true hp
                    have HPos := hidOg hp
                    clear hp
                    by_cases hxy : z = y ∧ z2 = y2
                    · obtain ⟨rfl, rfl⟩ := hxy
                      have E : Hid (v = false) := by
                        unfold Hid; rw [HV.out]; exact may_twin (k := k) (i := j) (by have := HM.out; omega) hj' (by rw [← HY.out]; exact HPos.out) (by rw [← HZj.out, HY.out])
                      go_wp2
                      go_ret
                      exact ⟨ret_bool E.out.symm, HB.out.trans ((HB3.out.trans (HZ'.out.mono HB3.out.size)).mono HB.out.size)⟩
                    · have HXY : Hid (sG l j ≠ (y, y2)) := by rw [← HZj.out]; exact fun e => hxy (by injection e with e1 e2; exact ⟨e1, e2⟩)
                      by_cases hx1 : z = y
                      · subst hx1
                        have hd2 : (z2 == y2) = false := by simpa using fun e => hxy ⟨rfl, e⟩
                        clear hxy
                        go_wp2
                        go_roundw
                        case rel => exact ⟨j + 1, by omega, by go_num, fun i hi h0 => (by by_cases e : i = j; { rw [e]; exact HXY.out }; { exact HA'.out i (by omega) h0 }), HZ'.out⟩
                        case measure => simp [intOf]; omega
                      · have hd1 : (z == y) = false := by simpa using hx1
                        clear hxy hx1
                        go_wp2
                        go_roundw
                        case rel => exact ⟨j + 1, by omega, by go_num, fun i hi h0 => (by by_cases e : i = j; { rw [e]; exact HXY.out }; { exact HA'.out i (by omega) h0 }), HZ'.out⟩
                        case measure => simp [intOf]; omega
                  · have hpd : decide (0 < y) = false := decide_eq_false hp
                    have HPos := hidOg hp
                    clear hp
                    go_wp2
                    go_roundw
                    case rel => exact ⟨j + 1, by omega, by go_num, fun i hi h0 => absurd h0 HPos.out, HZ'.out⟩
                    case measure => simp [intOf]; omega
                · obtain rfl : j = k := by omega
                  go_wp2
                  go_roundw
                  case rel => exact ⟨j + 1, by omega, by go_num, right_succ HA.out (by rw [← HY.out]; exact HP.out) (by rw [← HY.out]; exact HA'.out), HB3.out.trans (HBr'.out.mono HB3.out.size)⟩
                  case measure => simp [intOf]; omega
          · obtain rfl : k = m + 1 := by omega
            have E : Hid (v = true) := HV2.out.2 ⟨HX.out, HA.out⟩
            go_wp2
            go_ret
            exact ⟨ret_bool E.out.symm, HB.out.trans (HBr.out.mono HB.out.size)⟩
  · have E : Hid (v = false) := by
      unfold Hid
      rw [HV.out]
      cases e : mayS l with
      | false => rfl
      | true => have := (may_right.1 e).1; omega
    have hdb : decide ((1048578 : Int) < (l.length : Int)) = true := by simp; omega
    go_enter Try.func10, Try.ntmps10
    go_wp2
    go_ret
    exact ⟨ret_bool E.out.symm, HB.out⟩
end Go.Proofs.Ytijlkdppjmfbhaa
