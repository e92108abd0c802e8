/- The document's answer: Without, All. -/
import Derived.Test.YtjnhalomkmdcgaaLvD
namespace Go.Proofs.Ytjnhalomkmdcgaa
open Go.RowKit
attribute [local go_sem ↓] app_hide

theorem woL_eq {L : List En} {k : Nat} {t : List Int} (h : k < L.length) (e : (gE L k).2.1 = t) : woL (L.drop k) t = woL (L.drop (k + 1)) t := by
  rw [drop_gE h]; unfold woL; simp [e]
theorem woL_ne {L : List En} {k : Nat} {t : List Int} (h : k < L.length) (e : (gE L k).2.1 ≠ t) : woL (L.drop k) t = gE L k :: woL (L.drop (k + 1)) t := by
  rw [drop_gE h]; unfold woL; simp [e]
set_option maxRecDepth 20000 in
set_option maxHeartbeats 2000000 in
theorem without20 (p : Option Addr) (L : List En) (c : Nat) (q : Option Addr) (t : List Int) (d : Nat) (w : World) (hE : ERow w.heap.size w p L) (hm : L.length ≤ 1000) (hB : LB L) (hT : TRow w.heap.size w q t d) :
    Calls Try.prog 20 #[.slice p L.length c, .slice q t.length d] w fun e w' => AnsR (woL L t) w e w' := by
  obtain ⟨v, hv⟩ : ∃ v, v = woL L t := ⟨_, rfl⟩
  rw [← hv]
  have HV := hidOg hv
  have HLB := hidOg hB
  have HEr := hidOg hE
  have HTr := hidOg hT
  obtain ⟨m, hm'⟩ : ∃ m, m = L.length := ⟨_, rfl⟩
  have HM := hidOg hm'
  obtain ⟨lt, hlt0⟩ : ∃ lt, lt = t.length := ⟨_, rfl⟩
  have HLT := hidOg hlt0
  rw [← hm'] at hm ⊢
  rw [← hlt0]
  clear hv hm' hE hB hT hlt0
  go_enter Try.func20, Try.ntmps20
  go_wp2
  go_loopw [5, 10] (fun o i wr => ∃ (k : Nat) (X : List Ep) (q' : Option Addr) (c' : Nat), k ≤ m ∧ i = .int .i64 k ∧ o = .slice q' X.length c' ∧ v = X.map eOf ++ woL (L.drop k) t ∧ X.length ≤ k ∧ OnR w.heap.size w.heap.size X q' c' wr ∧ Below w.heap.size w wr) (fun _ i _ => m - (intOf i).toNat)
  case atStart => exact ⟨0, [], none, 0, Nat.zero_le _, rfl, rfl, HV.out, Nat.le_refl _, OnR.nil _ _ _, Below.refl _ _⟩
  case round =>
    obtain ⟨k, X, q', c', hk, rfl, rfl, hX, hXl, hO, hbw⟩ := hrel
    have HX := hidOg hX
    have HO := hidOg hO
    have HB := hidOg hbw
    have hsz := hbw.size
    clear hX hO
    by_cases hlt2 : k < m
    · obtain ⟨b, off, rfl, hbN, hcs⟩ := HEr.out (by have := HM.out; omega)
      obtain ⟨k0, ⟨qx, cx, k1, hTx⟩, k2⟩ := hcs k (by have := HM.out; omega)
      have k0' := (hbw.cell (p := ⟨b, off + k * 3, none⟩) hbN).trans k0
      have k1' := (hbw.cell (p := ⟨b, off + k * 3 + 1, none⟩) hbN).trans k1
      have k2' := (hbw.cell (p := ⟨b, off + k * 3 + 2, none⟩) hbN).trans k2
      have hlb := HLB.out k (by have := HM.out; omega)
      have r1 := woL_eq (t := t) (show k < L.length by rw [← HM.out]; exact hlt2)
      have r2 := woL_ne (t := t) (show k < L.length by rw [← HM.out]; exact hlt2)
      obtain ⟨y, hy⟩ : ∃ y, y = gE L k := ⟨_, rfl⟩
      rw [← hy] at k0' k1' k2' hTx hlb r1 r2
      obtain ⟨s1, t1, n1⟩ := y
      simp only at k0' k1' k2' hlb r1 r2
      have CC := fun (W : World) (hb : Below w.heap.size w W) => same33 qx t1 cx q t d W ((hTx.i.below hb (Nat.le_refl _)).mono hb.size) ((HTr.out.i.below hb (Nat.le_refl _)).mono hb.size) (by omega)
      rw [← HLT.out] at CC
      obtain ⟨l1, hl1⟩ : ∃ l1, l1 = t1.length := ⟨_, rfl⟩
      have HL1 := hidOg hl1
      rw [← hl1] at k1' hlb CC
      have HTx := hidOg hTx
      have HR1 := hidOg r1
      have HR2 := hidOg r2
      have HBal := hidOg (hbw.trans (bal_lt (.cells #[.int .i64 s1, .slice qx l1 cx, .int .i64 n1] 39) hbw.size))
      have HO1 := hidOg (HO.out.below (bal_lt (.cells #[.int .i64 s1, .slice qx l1 cx, .int .i64 n1] 39) (Nat.le_refl _)) hbw.size)
      by_cases he : t1 = t
      · have e1 : eqB t1 t = true := by rw [he, eqB_t]
        have HRx : Hid (v = X.map eOf ++ woL (L.drop (k + 1)) t) := by unfold Hid; rw [HX.out, HR1.out he]
        rw [e1] at CC
        clear hcs k0 k1 k2 hTx hbw hl1 r1 r2 hy he e1
        go_wp2_with (first | (go_at_call 33; refine Calls.mono (CC _ HBal.out) ?_; clear CC; rintro e w5 ⟨rfl, hb5⟩; have HO5 := hidOg (HO1.out.below hb5 HBal.out.size); have HB5 := hidOg (HBal.out.trans (hb5.mono HBal.out.size)); clear hb5))
        go_roundw
        case rel => exact ⟨k + 1, X, q', c', by omega, by go_num, rfl, HRx.out, by omega, HO5.out, HB5.out⟩
        case measure => simp [intOf]; omega
      · have e1 : eqB t1 t = false := eqB_ne he
        have HRx : Hid (v = (X ++ [(s1, (qx, t1, cx), n1)]).map eOf ++ woL (L.drop (k + 1)) t) := by unfold Hid; rw [HX.out, HR2.out he]; simp [eOf]
        have hXn : X.length ≤ 100000 := by omega
        rw [e1] at CC
        clear hcs k0 k1 k2 hTx hbw hl1 r1 r2 hy he e1
        go_wp2_with (first | (go_at_call 33; refine Calls.mono (CC _ HBal.out) ?_; clear CC; rintro e w5 ⟨rfl, hb5⟩; have hB5 := HBal.out.trans (hb5.mono HBal.out.size); obtain ⟨y0, y1, y2⟩ := box3 wr _ _ _ hb5; obtain ⟨q2, c2, w6, hrun, hO6, hb6, _⟩ := onr_step (HO1.out.below hb5 HBal.out.size) hXn (Nat.le_refl _) hB5.size (s1, (qx, t1, cx), n1) l1 HL1.out (HTx.out.below hB5 (Nat.le_refl _)); rw [app_hide] at hrun; have HO6 := hidOg hO6; have HB6 := hidOg (hB5.trans hb6); clear hb5 hO6 hb6 hB5))
        go_roundw
        case rel => exact ⟨k + 1, _, q2, c2, by omega, by go_num, by simp, HRx.out, by simp; omega, HO6.out, HB6.out⟩
        case measure => simp [intOf]; omega
    · obtain rfl : k = m := by omega
      have HA : Hid (AnsR v w (.returned (.slice q' X.length c')) wr) := HO.out.ans (by
        have := HX.out
        rw [HM.out, List.drop_length] at this
        rw [this]; simp [woL]) hbw hbw.size
      go_wp2
      go_ret
      exact HA.out
/-- What All has laid, of the first k slots. -/
def alK (L : List En) (k : Nat) : List En := ((L.take k).filter usB).foldl (wiL cmpL) []
theorem alK_all (L : List En) : alK L L.length = alL cmpL L := by unfold alK alL; rw [List.take_length]
theorem alK_us {L : List En} {k : Nat} (h : k < L.length) (hu : (gE L k).1 = 1) : alK L (k + 1) = wiL cmpL (alK L k) (gE L k) := by
  unfold alK
  rw [take_succ_gE h, List.filter_append, List.foldl_append]
  have : [gE L k].filter usB = [gE L k] := by simp [usB, hu]
  rw [this]; rfl
theorem alK_no {L : List En} {k : Nat} (h : k < L.length) (hu : (gE L k).1 ≠ 1) : alK L (k + 1) = alK L k := by
  unfold alK
  rw [take_succ_gE h, List.filter_append]
  have : [gE L k].filter usB = [] := by simp [usB, hu]
  rw [this, List.append_nil]
theorem alK_len (L : List En) (k : Nat) : (alK L k).length ≤ k := by
  unfold alK
  rw [fold_len]
  have h1 : ((L.take k).filter usB).length ≤ (L.take k).length := List.length_filter_le _ _
  simp at h1 ⊢
  omega
theorem alK_lb {L : List En} (h : LB L) (k : Nat) : LB (alK L k) := fun j hj => by
  have hm := gE_mem hj
  unfold alK at hm
  rw [fold_mem] at hm
  rcases hm with hm | hm
  · obtain ⟨i, hi, e⟩ := mem_gE (List.mem_of_mem_take (List.mem_filter.1 hm).1)
    show (gE (alK L k) j).2.1.length ≤ 1000
    unfold alK
    rw [e]; exact h i hi
  · simp at hm
set_option maxRecDepth 20000 in
set_option maxHeartbeats 2000000 in
theorem all10 (p : Option Addr) (L : List En) (c : Nat) (w : World) (hE : ERow w.heap.size w p L) (hm : L.length ≤ 1000) (hB : LB L) :
    Calls Try.prog 10 #[.agg #[.slice p L.length c]] w fun e w' => AnsR (alL cmpL L) w e w' := by
  have HLB := hidOg hB
  have HEr := hidOg hE
  obtain ⟨m, hm'⟩ : ∃ m, m = L.length := ⟨_, rfl⟩
  have HM := hidOg hm'
  rw [← hm'] at hm ⊢
  clear hm' hE hB
  go_enter Try.func10, Try.ntmps10
  go_wp2
  have hb0 : Below w.heap.size w (w.alloc (.cells #[.slice p m c] 24)) := bal_lt _ (Nat.le_refl _)
  go_loopw [3, 9] (fun o i wr => ∃ (k : Nat) (q' : Option Addr) (c' : Nat), k ≤ m ∧ i = .int .i64 k ∧ o = .slice q' (alK L k).length c' ∧ ERow wr.heap.size wr q' (alK L k) ∧ Below w.heap.size w wr) (fun _ i _ => m - (intOf i).toNat)
  case atStart => exact ⟨0, none, 0, Nat.zero_le _, rfl, rfl, ERow.nil, hb0⟩
  case round =>
    obtain ⟨k, q', c', hk, rfl, rfl, hO, hbw⟩ := hrel
    have HO := hidOg hO
    have HB := hidOg hbw
    clear hO hb0
    by_cases hlt2 : k < m
    · obtain ⟨b, off, rfl, hbN, hcs⟩ := HEr.out (by have := HM.out; omega)
      obtain ⟨k0, ⟨qx, cx, k1, hTx⟩, k2⟩ := hcs k (by have := HM.out; omega)
      have k0' := (hbw.cell (p := ⟨b, off + k * 3, none⟩) hbN).trans k0
      have k1' := (hbw.cell (p := ⟨b, off + k * 3 + 1, none⟩) hbN).trans k1
      have k2' := (hbw.cell (p := ⟨b, off + k * 3 + 2, none⟩) hbN).trans k2
      have hlb := HLB.out k (by have := HM.out; omega)
      have r1 := alK_us (show k < L.length by rw [← HM.out]; exact hlt2)
      have r2 := alK_no (show k < L.length by rw [← HM.out]; exact hlt2)
      have hal := alK_len L k
      have hab := alK_lb HLB.out k
      obtain ⟨O, hOO⟩ : ∃ O, O = alK L k := ⟨_, rfl⟩
      rw [← hOO] at r1 r2 hal hab HO ⊢
      obtain ⟨y, hy⟩ : ∃ y, y = gE L k := ⟨_, rfl⟩
      rw [← hy] at k0' k1' k2' hTx hlb r1 r2
      obtain ⟨s1, t1, n1⟩ := y
      simp only at k0' k1' k2' hlb r1 r2
      have CC := fun (W : World) (hb : Below w.heap.size w W) (h : ERow W.heap.size W q' O) => with22 q' O c' s1 n1 qx t1 cx W h (by omega) hab ((hTx.below hb (Nat.le_refl _)).mono hb.size) (by omega)
      obtain ⟨l1, hl1⟩ : ∃ l1, l1 = t1.length := ⟨_, rfl⟩
      rw [← hl1] at k1' hlb CC
      obtain ⟨lo, hlo⟩ : ∃ lo, lo = O.length := ⟨_, rfl⟩
      have HLo := hidOg hlo
      rw [← hlo] at CC ⊢
      have hwa := bal_lt (w := wr) (.cells #[.int .i64 s1, .slice qx l1 cx, .int .i64 n1] 39) (Nat.le_refl _)
      have HBal := hidOg (hbw.trans (hwa.mono hbw.size))
      have HO1 := hidOg (HO.out.to hwa)
      by_cases h1 : s1 = 1
      · have e1 : (s1 == 1) = true := by simp [h1]
        have HR := hidOg (r1 h1)
        clear hcs k0 k1 k2 hTx hbw hl1 r1 r2 hy hwa hal hab hlo hOO h1 hlb
        go_wp2_with (first | (go_at_call 22; refine Calls.mono (CC _ HBal.out HO1.out) ?_; clear CC; rintro e w5 ⟨q5, c5, rfl, hE5, hb5⟩; have HE5 := hidOg hE5; have HB5 := hidOg (HBal.out.trans (hb5.mono HBal.out.size)); clear hE5 hb5))
        go_roundw
        case rel => exact ⟨k + 1, q5, c5, by omega, by go_num, by rw [HR.out], by rw [HR.out]; exact HE5.out, HB5.out⟩
        case measure => simp [intOf]; omega
      · have e1 : (s1 == 1) = false := by simpa using h1
        have HR := hidOg (r2 h1)
        clear hcs k0 k1 k2 hTx hbw hl1 r1 r2 hy hwa hal hab hlo hOO h1 hlb CC
        go_wp2
        go_roundw
        case rel => exact ⟨k + 1, q', c', by omega, by go_num, by rw [HR.out, ← HLo.out], by rw [HR.out]; exact HO1.out, HBal.out⟩
        case measure => simp [intOf]; omega
    · obtain rfl : k = m := by omega
      have HA : Hid (AnsR (alL cmpL L) w (.returned (.slice q' (alK L k).length c')) wr) := by
        have h0 := HO.out
        rw [HM.out, alK_all] at h0
        exact ⟨q', c', by rw [HM.out, alK_all], h0, hbw⟩
      go_wp2
      go_ret
      exact HA.out
end Go.Proofs.Ytjnhalomkmdcgaa
