/- replaced; New. -/
import Derived.Test.YtjnhalomkmdcgaaLuF
namespace Go.Proofs.Ytjnhalomkmdcgaa
open Go.RowKit

/-- A lookup's slots, as a call answers them. -/
def AnsE (L' : List En) (w : World) (e : Ending) (w' : World) : Prop := ∃ p' c', e = .returned (.slice p' L'.length c') ∧ EFr w.heap.size w' p' L' c' ∧ Below w.heap.size w w'

theorem lb_set {L : List En} {i : Nat} {y : En} (h : LB L) (hy : y.2.1.length ≤ 1000) : LB (L.set i y) := fun k hk => by
  rw [List.length_set] at hk
  by_cases e : k = i
  · subst e; rw [gE_set_same y hk]; exact hy
  · rw [gE_set_ne y e]; exact h k hk
set_option maxRecDepth 20000 in
set_option maxHeartbeats 4000000 in
theorem replaced44 (p : Option Addr) (L : List En) (c i : Nat) (s n : Int) (q : Option Addr) (t : List Int) (d : Nat) (w : World) (hE : ERow w.heap.size w p L) (hB : LB L) (hT : TRow w.heap.size w q t d) (ht : t.length ≤ 1000) (hi : i < L.length) (hm : L.length ≤ 1000) :
    Calls Try.prog 44 #[.slice p L.length c, .int .i64 (i : Int), .agg #[.int .i64 s, .slice q t.length d, .int .i64 n]] w fun e w' => AnsE (L.set i (s, t, n)) w e w' := by
  obtain ⟨m, hm'⟩ : ∃ m, m = L.length := ⟨_, rfl⟩
  obtain ⟨X, hX, hXt, hXc⟩ := hE.places
  have lX : X.length = m := by rw [hm', ← hX, List.length_map]
  obtain ⟨b, off, rfl, hbN, hcs⟩ := hXc (by omega)
  have hsrc := fun (w1 : World) (hb : Below w.heap.size w w1) => cellsE_src (w := w1) (b := b) (off := off) (X := X) (fun k hk => by
    obtain ⟨k0, k1, k2⟩ := hcs k hk
    exact ⟨(hb.cell (p := ⟨b, off + k * 3, none⟩) hbN).trans k0, (hb.cell (p := ⟨b, off + k * 3 + 1, none⟩) hbN).trans k1, (hb.cell (p := ⟨b, off + k * 3 + 2, none⟩) hbN).trans k2⟩)
  have HSRC := hidOg hsrc
  have HX := hidOg hX
  have HXT := hidOg hXt
  have HLX := hidOg lX
  have HM := hidOg hm'
  have HT := hidOg hT
  have HLB := hidOg hB
  have HTL := hidOg ht
  have HCL : Hid ((cellsE X).length = m * 3) := by unfold Hid; rw [cellsE_len, lX]
  rw [← hm'] at hi hm ⊢
  obtain ⟨i0, hi0, hz0, hz1, hz2⟩ := info_parts Try.info39
  obtain ⟨lt, hlt⟩ : ∃ lt, lt = t.length := ⟨_, rfl⟩
  have HLT := hidOg hlt
  rw [← hlt]
  clear hE hX hXt hXc lX hcs hsrc hm' hT hB ht hlt
  go_enter Try.func44, Try.ntmps44
  go_wp2_with (first | (at_make; refine wpList_make_full _ rfl _ _ 22 rfl (w.alloc (.cells #[.int .i64 s, .slice q lt d, .int .i64 n] 39)).heap.size 39 i0 (.agg #[.int .i64 0, .slice none 0 0, .int .i64 0]) 3 Try.underlying22 hi0 hz0 hz1 .i64 .i64 _ _ m rfl rfl (by omega) (by omega) (by rw [hz2]; omega) (by unfold maxLen; omega) (Nat.le_refl _) ?_; intro w1 hown hgrow; clear hi0 hz0 hz1 hz2; obtain ⟨Z, HZ, HZl, hb1⟩ := made_row hown hgrow; clear hown hgrow))
  have bA : Below w.heap.size w (w.alloc (.cells #[.int .i64 s, .slice q lt d, .int .i64 n] 39)) := (Below.refl _ _).alloc (Nat.le_refl _) _
  have sA : (w.alloc (.cells #[.int .i64 s, .slice q lt d, .int .i64 n] 39)).heap.size = w.heap.size + 1 := by simp
  have zA : (w.alloc (.cells #[.int .i64 s, .slice q lt d, .int .i64 n] 39)).heap[w.heap.size]? = some (.cells #[.int .i64 s, .slice q lt d, .int .i64 n] 39 (0, 0)) := World.alloc_heap_new w _
  generalize (w.alloc (.cells #[.int .i64 s, .slice q lt d, .int .i64 n] 39)) = wA at *
  rw [sA] at HZ hb1
  have HB1 := hidOg (bA.trans (hb1.mono (by omega)))
  obtain ⟨w2, hr2, HZ2, hb2⟩ := copyK_ex (P := Try.prog) w1 22 22 3 39 3 Try.underlying22 Try.size39 (some ⟨w.heap.size + 1, 0, none⟩) (some ⟨b, off, none⟩) m m m c (w.heap.size + 1) 0 Z 39 HZ.out (cellsE X) m (by simp) HCL.out (fun h => ⟨rfl, _, rfl, HSRC.out _ HB1.out⟩) (by rw [HCL.out, HZl.out]; simp) (cellsE_one X) (w.heap.size + 1) wA hb1 (Nat.le_refl _)
  rw [hr2]
  clear hr2
  have HG : Hid (ERG (w.heap.size + 1) m w2 X) := by
    have e : splice Z 0 (cellsE X) = cellsE X := by
      unfold splice; simp; rw [HCL.out, HZl.out]; omega
    have hz := HZ2.out
    rw [e] at hz
    have hlt2 := (Array.getElem?_eq_some_iff.1 hz).1
    refine ⟨⟨by rw [HCL.out], .inr ⟨w.heap.size + 1, m, (cellsE X).toArray, rfl, Nat.le_refl _, hz, Nat.le_refl _, by unfold maxLen; omega, by simpa using HCL.out, by simp only []; rw [← HCL.out]; exact List.take_length⟩⟩, HLX.out, fun x hx => ?_⟩
    have hb := bA.trans (hb2.mono (by omega))
    exact (((HXT.out x hx).below hb (Nat.le_refl _)).mono (by omega : w.heap.size ≤ w.heap.size + 1)).tg (by omega)
  have HB2 := hidOg (bA.trans (hb2.mono (by omega)))
  obtain ⟨y0, y1, y2, yf⟩ := heap3_cell ((hb2.block w.heap.size (by omega)).trans zA)
  obtain ⟨g0, g1, g2, gf⟩ := HG.out.cells hi
  clear hb2 hb1 HZ HZ2 HZl HSRC bA zA HB1
  go_wp2
  have HT2 : Hid (TG (w.heap.size + 1) w2 q t d) := (((HT.out.below HB2.out (Nat.le_refl _)).mono (by omega : w.heap.size ≤ w.heap.size + 1))).tg (Nat.le_of_lt HG.out.lt)
  have HY := hidOg (HG.out.put i (s, (q, t, d), n) HT2.out)
  have HLS : Hid (LB (L.set i (s, t, n))) := lb_set HLB.out HTL.out
  have HLen : Hid ((L.set i (s, t, n)).length = m) := by unfold Hid; rw [List.length_set, HM.out]
  have HMp : Hid ((X.set i (s, (q, t, d), n)).map eOf = L.set i (s, t, n)) := by unfold Hid; rw [map_set, HX.out]; rfl
  obtain ⟨L', hL'⟩ : ∃ L', L' = L.set i (s, t, n) := ⟨_, rfl⟩
  rw [← hL'] at HLS HLen HMp
  have HL' := hidOg hL'
  clear hL'
  clear g0 g1 g2 gf y0 y1 y2 yf
  go_loopw [22] (fun v wr => ∃ (k : Nat) (Y : List Ep), k ≤ m ∧ v = .int .i64 k ∧ ERG (w.heap.size + 1) m wr Y ∧ Y.map eOf = L' ∧ (∀ j, j < k → OwT (w.heap.size + 2) wr (gP Y j).2.1.1 (gP Y j).2.1.2.1 (gP Y j).2.1.2.2) ∧ Below w.heap.size w wr) (fun v _ => m - (intOf v).toNat)
  case atStart =>
    refine ⟨0, X.set i (s, (q, t, d), n), Nat.zero_le _, rfl, ?_, HMp.out, (fun j h => by omega), ((HB2.out.setCell (p := ⟨w.heap.size + 1, i * 3, none⟩) (by simp) _).setCell (p := ⟨w.heap.size + 1, i * 3 + 1, none⟩) (by simp) _).setCell (p := ⟨w.heap.size + 1, i * 3 + 2, none⟩) (by simp) _⟩
    rw [HLT.out]
    exact HY.out
  case round =>
    obtain ⟨k, Y, hk, rfl, hG, hYm, hOw, hB⟩ := hrel
    have HGk := hidOg hG
    have HYm := hidOg hYm
    have HB := hidOg hB
    have HOw := hidOg hOw
    clear hG hYm hB hOw HY HMp HG HT2
    by_cases hlt : k < m
    · obtain ⟨a0, a1, a2, af⟩ := HGk.out.cells hlt
      have hkY : k < Y.length := by rw [HGk.out.n]; exact hlt
      have hTG := HGk.out.t _ (gP_mem hkY)
      have hgE : gE L' k = eOf (gP Y k) := by rw [← HYm.out, gE_map hkY]
      have hlen : (gP Y k).2.1.2.1.length ≤ 1000 := by
        have := HLS.out k (by rw [HLen.out]; exact hlt)
        rw [hgE] at this; exact this
      have hgl := HGk.out.lt
      obtain ⟨y, hy⟩ : ∃ y, y = gP Y k := ⟨_, rfl⟩
      rw [← hy] at a0 a1 a2 hTG hlen hgE
      obtain ⟨s', ⟨q', t', d'⟩, n'⟩ := y
      have HgE := hidOg hgE
      simp only at a0 a1 a2 hTG hlen
      have CO := fun (W : World) (hb : Below wr.heap.size wr W) => own61 s' n' q' t' d' W ((hTG.t.below hb (Nat.le_refl _)).mono hb.size) hlen
      have hbal := fun (o : Obj) => (Below.refl wr.heap.size wr).alloc (Nat.le_refl _) o
      have HBal := hidOg hbal
      have G4 : Hid (∀ (o : Obj) (W : World), Below (wr.alloc o).heap.size (wr.alloc o) W → ERG (w.heap.size + 1) m W Y ∧ Below w.heap.size w W ∧ ∀ j, j < k → OwT (w.heap.size + 2) W (gP Y j).2.1.1 (gP Y j).2.1.2.1 (gP Y j).2.1.2.2) := fun o W hb => by
        have h1 := (hbal o).trans (hb.mono (hbal o).size)
        exact ⟨HGk.out.below h1, HB.out.trans (h1.mono HB.out.size), fun j hj => (HOw.out j hj).below h1⟩
      have FR : Hid (∀ (o : Obj) (W : World) (q4 : Option Addr) (c4 : Nat), OwT (wr.alloc o).heap.size W q4 t' c4 → TG (w.heap.size + 1) W q4 t' c4 ∧ OwT (w.heap.size + 2) W q4 t' c4) := fun o W q4 c4 h => ⟨⟨h.row, fun _ a ha => by
        have := h.fresh a ha
        simp at this; omega⟩, h.base (by simp; omega)⟩
      obtain ⟨lt', hlt'⟩ : ∃ lt', lt' = t'.length := ⟨_, rfl⟩
      rw [← hlt'] at a1 CO
      have HLT' := hidOg hlt'
      clear hy hTG hlen hgE hbal hlt'
      go_wp2_with (first | (go_at_call 61; refine Calls.mono (CO _ (HBal.out _)) ?_; rintro e w4 ⟨q4, c4, rfl, hO, hb4⟩; obtain ⟨hG4, hB4, hO4⟩ := G4.out _ _ hb4; have HO4 := hidOg hO4; clear hO4; obtain ⟨e0, e1, e2, ef⟩ := hG4.cells hlt; have HG4 := hidOg hG4; have HB4 := hidOg hB4; have HTG4 := hidOg (FR.out _ _ _ _ hO).1; have HOn := hidOg (FR.out _ _ _ _ hO).2; clear hG4 hB4 hb4 hO))
      go_roundw
      case rel =>
        refine ⟨k + 1, Y.set k (s', (q4, t', c4), n'), by omega, by go_num, ?_, ?_, ?_, ((HB4.out.setCell (p := ⟨w.heap.size + 1, k * 3, none⟩) (by simp) _).setCell (p := ⟨w.heap.size + 1, k * 3 + 1, none⟩) (by simp) _).setCell (p := ⟨w.heap.size + 1, k * 3 + 2, none⟩) (by simp) _⟩
        · rw [HLT'.out]
          exact HG4.out.put k (s', (q4, t', c4), n') HTG4.out
        · rw [map_set, HYm.out]
          have : eOf (s', (q4, t', c4), n') = gE L' k := by rw [HgE.out]; rfl
          rw [this, set_gE]
        · intro j hj
          have hkY : k < Y.length := by rw [HG4.out.n]; exact hlt
          have key : OwT (w.heap.size + 2) w4 (gP (Y.set k (s', (q4, t', c4), n')) j).2.1.1 (gP (Y.set k (s', (q4, t', c4), n')) j).2.1.2.1 (gP (Y.set k (s', (q4, t', c4), n')) j).2.1.2.2 := by
            by_cases e : j = k
            · subst e; rw [gP_set_same hkY]; exact HOn.out
            · rw [gP_set_ne e]; exact HO4.out j (by omega)
          have hne : ∀ x, (gP (Y.set k (s', (q4, t', c4), n')) j).2.1.1 = some x → x.block ≠ w.heap.size + 1 := fun x hx => by have := key.fresh x hx; omega
          exact ((key.setCell (a := ⟨w.heap.size + 1, k * 3, none⟩) hne _).setCell (a := ⟨w.heap.size + 1, k * 3 + 1, none⟩) hne _).setCell (a := ⟨w.heap.size + 1, k * 3 + 2, none⟩) hne _
      case measure => simp [intOf]; omega
    · obtain rfl : k = m := by omega
      go_wp2
      go_ret
      have fin : AnsE L' w (.returned (.slice (some ⟨w.heap.size + 1, 0, none⟩) k k)) wr :=
        ⟨some ⟨w.heap.size + 1, 0, none⟩, k, by rw [HLen.out], ⟨Y, HYm.out, by rw [HLen.out]; exact owns_base HGk.out.o (by omega), fun x hx => by
          obtain ⟨j, hj, rfl⟩ := gP_of_mem hx
          exact (HOw.out j (by rw [← HGk.out.n]; exact hj)).base (by omega)⟩, HB.out⟩
      rw [HL'.out] at fin
      exact fin
set_option maxRecDepth 20000 in
theorem new17 (w : World) : Calls Try.prog 17 #[] w fun e w' => ∃ p' c', e = .returned (.agg #[.slice p' 8 c']) ∧ EFr w.heap.size w' p' (frL 8) c' ∧ Below w.heap.size w w' := by
  obtain ⟨i0, hi0, hz0, hz1, hz2⟩ := info_parts Try.info39
  obtain ⟨wA, hA⟩ : ∃ wA, wA = w.alloc (.cells #[.slice none 0 0] 24) := ⟨_, rfl⟩
  have bA : Below w.heap.size w wA := by rw [hA]; exact (Below.refl _ _).alloc (Nat.le_refl _) _
  have sA : wA.heap.size = w.heap.size + 1 := by rw [hA]; simp
  have bB : Boxed wA w.heap.size 24 (.slice none 0 0) := by rw [hA]; exact Boxed.new w 24 _
  go_enter Try.func17, Try.ntmps17
  go_wp2_with (first | (at_make; rw [← hA]; refine wpList_make_full _ rfl _ _ 22 rfl wA.heap.size 39 i0 (.agg #[.int .i64 0, .slice none 0 0, .int .i64 0]) 3 Try.underlying22 hi0 hz0 hz1 .i64 .i64 _ _ 8 rfl rfl (by omega) (by omega) (by rw [hz2]; omega) (by unfold maxLen; omega) (Nat.le_refl _) ?_; intro w1 hown hgrow; clear hi0 hz0 hz1 hz2; have bC := bB.kept hgrow (by simp); have cC := bC.cell; have fC := bC.frozen; have HO := hidOg hown; have HGr := hidOg hgrow; clear hown hgrow))
  have hb1 : Below w.heap.size w w1 := bA.trans (((Below.refl _ _).grown HGr.out (Nat.le_refl _) (fun k e => by cases e)).mono bA.size)
  have ho := HO.out
  rw [cellsE_fr 8, sA] at ho
  have hE : EFr (w.heap.size + 1) w1 (some ⟨w.heap.size + 1, 0, none⟩) (frL 8) 8 := ⟨frX 8, frX_map 8, ho, fun x hx => by
    have : x = (0, (none, [], 0), 0) := by unfold frX at hx; exact (List.mem_replicate.1 hx).2
    rw [this]; exact ⟨World.ownsRow_nil _ _ _ _, fun y hy => by simp at hy⟩⟩
  refine bodyPost_ret (v := .agg #[.slice (some ⟨w.heap.size + 1, 0, none⟩) 8 8]) (by simp [results, Try.results17, go_sem, cC]) rfl ⟨_, _, rfl, ?_, ?_⟩
  · exact (hE.setCell (a := ⟨w.heap.size, 0, none⟩) (by simp) _).base (by omega)
  · exact hb1.setCell (p := ⟨w.heap.size, 0, none⟩) (by simp) _
end Go.Proofs.Ytjnhalomkmdcgaa
