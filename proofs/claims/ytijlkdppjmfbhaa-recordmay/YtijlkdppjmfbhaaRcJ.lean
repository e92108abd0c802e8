/- changed. -/
import Derived.Test.YtijlkdppjmfbhaaRcG
namespace Go.Proofs.Ytijlkdppjmfbhaa
open Go.RowKit Go.Sort
set_option maxRecDepth 20000 in
set_option maxHeartbeats 2000000 in
theorem changedP (p : Option Addr) (l : List Sp) (c i : Nat) (S1 S2 : Nat) (L1 : List Sp) (w : World) (hE : SRow w.heap.size w p l) (hl : l.length ≤ 1099511627776) (h1 : 1 ≤ i) (hi : i ≤ 1048578) (hL1 : L1.length = (extS l i).length)
    (HC : ∀ W, Below w.heap.size w W → BlkS W (w.heap.size + 1 + 1) (extS l i) → Calls Try.prog 47 #[.slice (some ⟨w.heap.size + 1 + 1, 0, none⟩) (extS l i).length (extS l i).length, .pointer (some ⟨S1, 0, none⟩), .pointer (some ⟨S2, 0, none⟩)] W fun e w' => e = .returned (.tuple #[]) ∧ BlkS w' (w.heap.size + 1 + 1) L1 ∧ OnG (w.heap.size + 1 + 1) W w') :
    Calls Try.prog 46 #[.agg #[.slice p l.length c], .int .i64 (i : Int), .func (.func 47) #[] #[.pointer (some ⟨S1, 0, none⟩), .pointer (some ⟨S2, 0, none⟩)]] w fun e w' => ∃ q d, e = .returned (.agg #[.slice q (cutL L1).length d]) ∧ GvS w.heap.size w' q (cutL L1) d ∧ Below w.heap.size w w' := by
  obtain ⟨i0, hii, hz0, hz1, hz2⟩ := info_parts Try.info34
  have HE := hidOg hE
  obtain ⟨n, hn⟩ : ∃ n, n = (extS l i).length := ⟨_, rfl⟩
  rw [extS_len] at hn
  obtain ⟨n0, hn0⟩ : ∃ n0, n0 = l.length := ⟨_, rfl⟩
  have hmx : max (n0 : Int) (i : Int) = (n : Int) := by rw [hn, hn0]; omega
  have HN0 := hidOg hn0
  have HL1 := hidOg (hL1.trans (by rw [extS_len]; exact hn.symm : (extS l i).length = n))
  have hexl : (extS l i).length = n := by rw [extS_len]; exact hn.symm
  rw [hexl] at HC
  have hn1 : n0 ≤ n := by omega
  have hnb : n ≤ 1099511627776 := by omega
  have hcut : cutN L1 L1.length ≤ n := by have := cutN_le L1 L1.length; have := HL1.out; omega
  have HX : Hid (splice (List.replicate (n * 2) (.int .i64 0)) 0 (cellsS l) = cellsS (extS l i)) := by rw [hn]; exact ext_splice l i
  have HCC := hidOg HC
  have CK := fun (W : World) (h : BlkS W (w.heap.size + 1 + 1) L1) => cut58 (some ⟨w.heap.size + 1 + 1, 0, none⟩) L1 n W (fun h0 => ⟨w.heap.size + 1 + 1, 0, rfl, (Array.getElem?_eq_some_iff.1 h).1, fun k hk => by
    obtain ⟨e1, e2, _⟩ := h.cells hk
    simp only [Nat.zero_add]; exact ⟨e1, e2⟩⟩) (by rw [HL1.out]; exact hnb) (by rw [HL1.out]; exact Nat.le_refl _)
  rw [HL1.out] at CK
  obtain ⟨N, hN⟩ : ∃ N, N = cutN L1 n := ⟨_, rfl⟩
  have HNc := hidOg hN
  rw [← hN] at CK
  rw [← hn0]
  clear hE hn hn0 hL1 hexl HC hN hcut
  obtain ⟨wm, hwm⟩ : ∃ wm, wm = (w.alloc (.cells #[.slice p n0 c] 24)).alloc (.cells #[.slice none 0 0] 24) := ⟨_, rfl⟩
  obtain ⟨q0, q1⟩ := al2 w (.cells #[.slice p n0 c] 24) (.cells #[.slice none 0 0] 24)
  have sm : wm.heap.size = w.heap.size + 1 + 1 := by rw [hwm]; simp
  have BM : Below w.heap.size w wm := by rw [hwm]; exact ((Below.refl _ w).alloc (Nat.le_refl _) _).alloc (by simp) _
  have HWM := hidOg hwm
  rw [← hwm] at q0 q1
  have Q1 := hidOg q1
  have BMM := hidOg BM
  have z0 := cell1_heap q0
  clear hwm q1 q0 BM
  have HMK : Hid (∀ w1, w1.ownsRow (w.heap.size + 1 + 1) 34 2 (.slice (some ⟨wm.heap.size, 0, none⟩) n n) n (madeCells (Value.cells (.agg #[.int .i64 0, .int .i64 0])) (n * 2)).toList → wm.grownBy w1 none → w1.cell? ⟨w.heap.size, 0, none⟩ = some (.slice p n0 c) ∧ ∃ w2, (Builtin.copy_ #[22, 22] 3 #[.slice (some ⟨w.heap.size + 1 + 1, 0, none⟩) n n, .slice p n0 c]).run Try.prog w1 = .ok (goInt (n0 : Nat)) w2 ∧ Hid (BlkS w2 (w.heap.size + 1 + 1) (extS l i)) ∧ Hid (Below (w.heap.size + 1 + 1) wm w2)) := fun w1 hown hgrow => by
    obtain ⟨hZ, hb1⟩ := made_rowG sm hown hgrow
    obtain ⟨w2, hr2, HZ2, hb2⟩ := copyK_ex (P := Try.prog) w1 22 22 3 34 2 Try.underlying22 Try.size34 (some ⟨w.heap.size + 1 + 1, 0, none⟩) p n n n0 c (w.heap.size + 1 + 1) 0 (List.replicate (n * 2) (.int .i64 0)) 34 hZ (cellsS l) n0 (Nat.min_eq_left (by omega)).symm (by rw [cellsS_len, HN0.out]) (fun h => ⟨rfl, srcS HE.out (BMM.out.trans (hb1.mono (by omega))) (Nat.le_refl _) (by rw [← HN0.out]; exact h)⟩) (by rw [cellsS_len, ← HN0.out]; simp; omega) (cellsS_one _) (w.heap.size + 1 + 1) wm hb1 (Nat.le_refl _)
    rw [HX.out] at HZ2
    exact ⟨(hb1.cell (p := ⟨w.heap.size, 0, none⟩) (by simp; omega)).trans z0, w2, hr2, HZ2, hb2⟩
  go_enter Try.func46, Try.ntmps46
  go_wp2_with (first
    | (at_make; rw [← HWM.out]; refine wpList_make_full _ rfl _ _ 22 rfl (w.heap.size + 1 + 1) 34 i0 (.agg #[.int .i64 0, .int .i64 0]) 2 Try.underlying22 hii hz0 hz1 .i64 .i64 _ _ n rfl rfl (by omega) (by omega) (by rw [hz2]; omega) (by unfold maxLen; omega) (by omega) ?_; intro w1 hown hgrow; obtain ⟨z1, w2, hr2, HB2, HK2⟩ := HMK.out w1 hown hgrow; rw [sm]; clear hown hgrow)
    | (go_at_call 47; refine Calls.mono (HCC.out _ (BMM.out.trans (HK2.out.mono (by omega))) HB2.out) ?_; rintro e w3 ⟨rfl, hb3, ho3⟩; have z3 := (ho3.2.2.2.2 (w.heap.size + 1) (by omega)).trans ((HK2.out.block _ (by omega)).trans Q1.out); obtain y3 := cell1_heap z3; obtain f3 := fr_heap z3; have HB3 := hidOg hb3; have HO3 := hidOg ho3; clear hb3 ho3 z3)
    | (go_at_call 58; refine Calls.mono (CK _ HB3.out) ?_; rintro e w4 ⟨rfl, hw⟩; rw [hw]; clear hw w4))
  all_goals
    have hsz : w.heap.size + 1 + 1 < w3.heap.size := (Array.getElem?_eq_some_iff.1 HB3.out).1
    refine bodyPost_ret (v := .agg #[.slice (some ⟨w.heap.size + 1 + 1, 0, none⟩) N N]) (by simp [results, Try.results46, go_sem, y3]) rfl ?_
    have hlen : (cutL L1).length = N := by
      unfold cutL
      rw [List.length_take, HL1.out, HNc.out]
      have := cutN_le L1 n
      omega
    have hbl : Below w.heap.size w w3 := HO3.out.below (BMM.out.trans (HK2.out.mono (by omega))) (by omega)
    refine ⟨some ⟨w.heap.size + 1 + 1, 0, none⟩, N, by rw [hlen], ⟨fun _ => ⟨w.heap.size + 1 + 1, _, rfl, by omega, (heap_setCell_other _ _ _ _ (by simp)).trans HB3.out, ?_⟩, by rw [hlen]; exact Nat.le_refl _, by rw [hlen, HNc.out]; have := cutN_le L1 n; omega⟩, hbl.setCell (p := ⟨w.heap.size + 1, 0, none⟩) (Nat.le_succ _) _⟩
    unfold cutL
    have e : ∀ (l : List Sp) (k : Nat), (cellsS l).take ((l.take k).length * 2) = cellsS (l.take k) := fun l k => by
      conv => lhs; rw [← List.take_append_drop k l, cellsS_append, List.take_append_drop]
      rw [← cellsS_len, List.take_left]
    simpa using e L1 _
set_option maxRecDepth 20000 in
set_option maxHeartbeats 2000000 in
theorem changedD (p : Option Addr) (l : List Sp) (c i : Nat) (S2 : Nat) (L1 : List Sp) (w : World) (hE : SRow w.heap.size w p l) (hl : l.length ≤ 1099511627776) (h1 : 1 ≤ i) (hi : i ≤ 1048578) (hL1 : L1.length = (extS l i).length)
    (HC : ∀ W, Below w.heap.size w W → BlkS W (w.heap.size + 1 + 1) (extS l i) → Calls Try.prog 50 #[.slice (some ⟨w.heap.size + 1 + 1, 0, none⟩) (extS l i).length (extS l i).length, .pointer (some ⟨S2, 0, none⟩)] W fun e w' => e = .returned (.tuple #[]) ∧ BlkS w' (w.heap.size + 1 + 1) L1 ∧ OnG (w.heap.size + 1 + 1) W w') :
    Calls Try.prog 46 #[.agg #[.slice p l.length c], .int .i64 (i : Int), .func (.func 50) #[] #[.pointer (some ⟨S2, 0, none⟩)]] w fun e w' => ∃ q d, e = .returned (.agg #[.slice q (cutL L1).length d]) ∧ GvS w.heap.size w' q (cutL L1) d ∧ Below w.heap.size w w' := by
  obtain ⟨i0, hii, hz0, hz1, hz2⟩ := info_parts Try.info34
  have HE := hidOg hE
  obtain ⟨n, hn⟩ : ∃ n, n = (extS l i).length := ⟨_, rfl⟩
  rw [extS_len] at hn
  obtain ⟨n0, hn0⟩ : ∃ n0, n0 = l.length := ⟨_, rfl⟩
  have hmx : max (n0 : Int) (i : Int) = (n : Int) := by rw [hn, hn0]; omega
  have HN0 := hidOg hn0
  have HL1 := hidOg (hL1.trans (by rw [extS_len]; exact hn.symm : (extS l i).length = n))
  have hexl : (extS l i).length = n := by rw [extS_len]; exact hn.symm
  rw [hexl] at HC
  have hn1 : n0 ≤ n := by omega
  have hnb : n ≤ 1099511627776 := by omega
  have hcut : cutN L1 L1.length ≤ n := by have := cutN_le L1 L1.length; have := HL1.out; omega
  have HX : Hid (splice (List.replicate (n * 2) (.int .i64 0)) 0 (cellsS l) = cellsS (extS l i)) := by rw [hn]; exact ext_splice l i
  have HCC := hidOg HC
  have CK := fun (W : World) (h : BlkS W (w.heap.size + 1 + 1) L1) => cut58 (some ⟨w.heap.size + 1 + 1, 0, none⟩) L1 n W (fun h0 => ⟨w.heap.size + 1 + 1, 0, rfl, (Array.getElem?_eq_some_iff.1 h).1, fun k hk => by
    obtain ⟨e1, e2, _⟩ := h.cells hk
    simp only [Nat.zero_add]; exact ⟨e1, e2⟩⟩) (by rw [HL1.out]; exact hnb) (by rw [HL1.out]; exact Nat.le_refl _)
  rw [HL1.out] at CK
  obtain ⟨N, hN⟩ : ∃ N, N = cutN L1 n := ⟨_, rfl⟩
  have HNc := hidOg hN
  rw [← hN] at CK
  rw [← hn0]
  clear hE hn hn0 hL1 hexl HC hN hcut
  obtain ⟨wm, hwm⟩ : ∃ wm, wm = (w.alloc (.cells #[.slice p n0 c] 24)).alloc (.cells #[.slice none 0 0] 24) := ⟨_, rfl⟩
  obtain ⟨q0, q1⟩ := al2 w (.cells #[.slice p n0 c] 24) (.cells #[.slice none 0 0] 24)
  have sm : wm.heap.size = w.heap.size + 1 + 1 := by rw [hwm]; simp
  have BM : Below w.heap.size w wm := by rw [hwm]; exact ((Below.refl _ w).alloc (Nat.le_refl _) _).alloc (by simp) _
  have HWM := hidOg hwm
  rw [← hwm] at q0 q1
  have Q1 := hidOg q1
  have BMM := hidOg BM
  have z0 := cell1_heap q0
  clear hwm q1 q0 BM
  have HMK : Hid (∀ w1, w1.ownsRow (w.heap.size + 1 + 1) 34 2 (.slice (some ⟨wm.heap.size, 0, none⟩) n n) n (madeCells (Value.cells (.agg #[.int .i64 0, .int .i64 0])) (n * 2)).toList → wm.grownBy w1 none → w1.cell? ⟨w.heap.size, 0, none⟩ = some (.slice p n0 c) ∧ ∃ w2, (Builtin.copy_ #[22, 22] 3 #[.slice (some ⟨w.heap.size + 1 + 1, 0, none⟩) n n, .slice p n0 c]).run Try.prog w1 = .ok (goInt (n0 : Nat)) w2 ∧ Hid (BlkS w2 (w.heap.size + 1 + 1) (extS l i)) ∧ Hid (Below (w.heap.size + 1 + 1) wm w2)) := fun w1 hown hgrow => by
    obtain ⟨hZ, hb1⟩ := made_rowG sm hown hgrow
    obtain ⟨w2, hr2, HZ2, hb2⟩ := copyK_ex (P := Try.prog) w1 22 22 3 34 2 Try.underlying22 Try.size34 (some ⟨w.heap.size + 1 + 1, 0, none⟩) p n n n0 c (w.heap.size + 1 + 1) 0 (List.replicate (n * 2) (.int .i64 0)) 34 hZ (cellsS l) n0 (Nat.min_eq_left (by omega)).symm (by rw [cellsS_len, HN0.out]) (fun h => ⟨rfl, srcS HE.out (BMM.out.trans (hb1.mono (by omega))) (Nat.le_refl _) (by rw [← HN0.out]; exact h)⟩) (by rw [cellsS_len, ← HN0.out]; simp; omega) (cellsS_one _) (w.heap.size + 1 + 1) wm hb1 (Nat.le_refl _)
    rw [HX.out] at HZ2
    exact ⟨(hb1.cell (p := ⟨w.heap.size, 0, none⟩) (by simp; omega)).trans z0, w2, hr2, HZ2, hb2⟩
  go_enter Try.func46, Try.ntmps46
  go_wp2_with (first
    | (at_make; rw [← HWM.out]; refine wpList_make_full _ rfl _ _ 22 rfl (w.heap.size + 1 + 1) 34 i0 (.agg #[.int .i64 0, .int .i64 0]) 2 Try.underlying22 hii hz0 hz1 .i64 .i64 _ _ n rfl rfl (by omega) (by omega) (by rw [hz2]; omega) (by unfold maxLen; omega) (by omega) ?_; intro w1 hown hgrow; obtain ⟨z1, w2, hr2, HB2, HK2⟩ := HMK.out w1 hown hgrow; rw [sm]; clear hown hgrow)
    | (go_at_call 50; refine Calls.mono (HCC.out _ (BMM.out.trans (HK2.out.mono (by omega))) HB2.out) ?_; rintro e w3 ⟨rfl, hb3, ho3⟩; have z3 := (ho3.2.2.2.2 (w.heap.size + 1) (by omega)).trans ((HK2.out.block _ (by omega)).trans Q1.out); obtain y3 := cell1_heap z3; obtain f3 := fr_heap z3; have HB3 := hidOg hb3; have HO3 := hidOg ho3; clear hb3 ho3 z3)
    | (go_at_call 58; refine Calls.mono (CK _ HB3.out) ?_; rintro e w4 ⟨rfl, hw⟩; rw [hw]; clear hw w4))
  all_goals
    have hsz : w.heap.size + 1 + 1 < w3.heap.size := (Array.getElem?_eq_some_iff.1 HB3.out).1
    refine bodyPost_ret (v := .agg #[.slice (some ⟨w.heap.size + 1 + 1, 0, none⟩) N N]) (by simp [results, Try.results46, go_sem, y3]) rfl ?_
    have hlen : (cutL L1).length = N := by
      unfold cutL
      rw [List.length_take, HL1.out, HNc.out]
      have := cutN_le L1 n
      omega
    have hbl : Below w.heap.size w w3 := HO3.out.below (BMM.out.trans (HK2.out.mono (by omega))) (by omega)
    refine ⟨some ⟨w.heap.size + 1 + 1, 0, none⟩, N, by rw [hlen], ⟨fun _ => ⟨w.heap.size + 1 + 1, _, rfl, by omega, (heap_setCell_other _ _ _ _ (by simp)).trans HB3.out, ?_⟩, by rw [hlen]; exact Nat.le_refl _, by rw [hlen, HNc.out]; have := cutN_le L1 n; omega⟩, hbl.setCell (p := ⟨w.heap.size + 1, 0, none⟩) (Nat.le_succ _) _⟩
    unfold cutL
    have e : ∀ (l : List Sp) (k : Nat), (cellsS l).take ((l.take k).length * 2) = cellsS (l.take k) := fun l k => by
      conv => lhs; rw [← List.take_append_drop k l, cellsS_append, List.take_append_drop]
      rw [← cellsS_len, List.take_left]
    simpa using e L1 _
set_option maxRecDepth 20000 in
set_option maxHeartbeats 2000000 in
theorem changedS (p : Option Addr) (l : List Sp) (c i : Nat) (S1 S2 S3 : Nat) (L1 : List Sp) (w : World) (hE : SRow w.heap.size w p l) (hl : l.length ≤ 1099511627776) (h1 : 1 ≤ i) (hi : i ≤ 1048578) (hL1 : L1.length = (extS l i).length)
    (HC : ∀ W, Below w.heap.size w W → BlkS W (w.heap.size + 1 + 1) (extS l i) → Calls Try.prog 53 #[.slice (some ⟨w.heap.size + 1 + 1, 0, none⟩) (extS l i).length (extS l i).length, .pointer (some ⟨S1, 0, none⟩), .pointer (some ⟨S2, 0, none⟩), .pointer (some ⟨S3, 0, none⟩)] W fun e w' => e = .returned (.tuple #[]) ∧ BlkS w' (w.heap.size + 1 + 1) L1 ∧ OnG (w.heap.size + 1 + 1) W w') :
    Calls Try.prog 46 #[.agg #[.slice p l.length c], .int .i64 (i : Int), .func (.func 53) #[] #[.pointer (some ⟨S1, 0, none⟩), .pointer (some ⟨S2, 0, none⟩), .pointer (some ⟨S3, 0, none⟩)]] w fun e w' => ∃ q d, e = .returned (.agg #[.slice q (cutL L1).length d]) ∧ GvS w.heap.size w' q (cutL L1) d ∧ Below w.heap.size w w' := by
  obtain ⟨i0, hii, hz0, hz1, hz2⟩ := info_parts Try.info34
  have HE := hidOg hE
  obtain ⟨n, hn⟩ : ∃ n, n = (extS l i).length := ⟨_, rfl⟩
  rw [extS_len] at hn
  obtain ⟨n0, hn0⟩ : ∃ n0, n0 = l.length := ⟨_, rfl⟩
  have hmx : max (n0 : Int) (i : Int) = (n : Int) := by rw [hn, hn0]; omega
  have HN0 := hidOg hn0
  have HL1 := hidOg (hL1.trans (by rw [extS_len]; exact hn.symm : (extS l i).length = n))
  have hexl : (extS l i).length = n := by rw [extS_len]; exact hn.symm
  rw [hexl] at HC
  have hn1 : n0 ≤ n := by omega
  have hnb : n ≤ 1099511627776 := by omega
  have hcut : cutN L1 L1.length ≤ n := by have := cutN_le L1 L1.length; have := HL1.out; omega
  have HX : Hid (splice (List.replicate (n * 2) (.int .i64 0)) 0 (cellsS l) = cellsS (extS l i)) := by rw [hn]; exact ext_splice l i
  have HCC := hidOg HC
  have CK := fun (W : World) (h : BlkS W (w.heap.size + 1 + 1) L1) => cut58 (some ⟨w.heap.size + 1 + 1, 0, none⟩) L1 n W (fun h0 => ⟨w.heap.size + 1 + 1, 0, rfl, (Array.getElem?_eq_some_iff.1 h).1, fun k hk => by
    obtain ⟨e1, e2, _⟩ := h.cells hk
    simp only [Nat.zero_add]; exact ⟨e1, e2⟩⟩) (by rw [HL1.out]; exact hnb) (by rw [HL1.out]; exact Nat.le_refl _)
  rw [HL1.out] at CK
  obtain ⟨N, hN⟩ : ∃ N, N = cutN L1 n := ⟨_, rfl⟩
  have HNc := hidOg hN
  rw [← hN] at CK
  rw [← hn0]
  clear hE hn hn0 hL1 hexl HC hN hcut
  obtain ⟨wm, hwm⟩ : ∃ wm, wm = (w.alloc (.cells #[.slice p n0 c] 24)).alloc (.cells #[.slice none 0 0] 24) := ⟨_, rfl⟩
  obtain ⟨q0, q1⟩ := al2 w (.cells #[.slice p n0 c] 24) (.cells #[.slice none 0 0] 24)
  have sm : wm.heap.size = w.heap.size + 1 + 1 := by rw [hwm]; simp
  have BM : Below w.heap.size w wm := by rw [hwm]; exact ((Below.refl _ w).alloc (Nat.le_refl _) _).alloc (by simp) _
  have HWM := hidOg hwm
  rw [← hwm] at q0 q1
  have Q1 := hidOg q1
  have BMM := hidOg BM
  have z0 := cell1_heap q0
  clear hwm q1 q0 BM
  have HMK : Hid (∀ w1, w1.ownsRow (w.heap.size + 1 + 1) 34 2 (.slice (some ⟨wm.heap.size, 0, none⟩) n n) n (madeCells (Value.cells (.agg #[.int .i64 0, .int .i64 0])) (n * 2)).toList → wm.grownBy w1 none → w1.cell? ⟨w.heap.size, 0, none⟩ = some (.slice p n0 c) ∧ ∃ w2, (Builtin.copy_ #[22, 22] 3 #[.slice (some ⟨w.heap.size + 1 + 1, 0, none⟩) n n, .slice p n0 c]).run Try.prog w1 = .ok (goInt (n0 : Nat)) w2 ∧ Hid (BlkS w2 (w.heap.size + 1 + 1) (extS l i)) ∧ Hid (Below (w.heap.size + 1 + 1) wm w2)) := fun w1 hown hgrow => by
    obtain ⟨hZ, hb1⟩ := made_rowG sm hown hgrow
    obtain ⟨w2, hr2, HZ2, hb2⟩ := copyK_ex (P := Try.prog) w1 22 22 3 34 2 Try.underlying22 Try.size34 (some ⟨w.heap.size + 1 + 1, 0, none⟩) p n n n0 c (w.heap.size + 1 + 1) 0 (List.replicate (n * 2) (.int .i64 0)) 34 hZ (cellsS l) n0 (Nat.min_eq_left (by omega)).symm (by rw [cellsS_len, HN0.out]) (fun h => ⟨rfl, srcS HE.out (BMM.out.trans (hb1.mono (by omega))) (Nat.le_refl _) (by rw [← HN0.out]; exact h)⟩) (by rw [cellsS_len, ← HN0.out]; simp; omega) (cellsS_one _) (w.heap.size + 1 + 1) wm hb1 (Nat.le_refl _)
    rw [HX.out] at HZ2
    exact ⟨(hb1.cell (p := ⟨w.heap.size, 0, none⟩) (by simp; omega)).trans z0, w2, hr2, HZ2, hb2⟩
  go_enter Try.func46, Try.ntmps46
  go_wp2_with (first
    | (at_make; rw [← HWM.out]; refine wpList_make_full _ rfl _ _ 22 rfl (w.heap.size + 1 + 1) 34 i0 (.agg #[.int .i64 0, .int .i64 0]) 2 Try.underlying22 hii hz0 hz1 .i64 .i64 _ _ n rfl rfl (by omega) (by omega) (by rw [hz2]; omega) (by unfold maxLen; omega) (by omega) ?_; intro w1 hown hgrow; obtain ⟨z1, w2, hr2, HB2, HK2⟩ := HMK.out w1 hown hgrow; rw [sm]; clear hown hgrow)
    | (go_at_call 53; refine Calls.mono (HCC.out _ (BMM.out.trans (HK2.out.mono (by omega))) HB2.out) ?_; rintro e w3 ⟨rfl, hb3, ho3⟩; have z3 := (ho3.2.2.2.2 (w.heap.size + 1) (by omega)).trans ((HK2.out.block _ (by omega)).trans Q1.out); obtain y3 := cell1_heap z3; obtain f3 := fr_heap z3; have HB3 := hidOg hb3; have HO3 := hidOg ho3; clear hb3 ho3 z3)
    | (go_at_call 58; refine Calls.mono (CK _ HB3.out) ?_; rintro e w4 ⟨rfl, hw⟩; rw [hw]; clear hw w4))
  all_goals
    have hsz : w.heap.size + 1 + 1 < w3.heap.size := (Array.getElem?_eq_some_iff.1 HB3.out).1
    refine bodyPost_ret (v := .agg #[.slice (some ⟨w.heap.size + 1 + 1, 0, none⟩) N N]) (by simp [results, Try.results46, go_sem, y3]) rfl ?_
    have hlen : (cutL L1).length = N := by
      unfold cutL
      rw [List.length_take, HL1.out, HNc.out]
      have := cutN_le L1 n
      omega
    have hbl : Below w.heap.size w w3 := HO3.out.below (BMM.out.trans (HK2.out.mono (by omega))) (by omega)
    refine ⟨some ⟨w.heap.size + 1 + 1, 0, none⟩, N, by rw [hlen], ⟨fun _ => ⟨w.heap.size + 1 + 1, _, rfl, by omega, (heap_setCell_other _ _ _ _ (by simp)).trans HB3.out, ?_⟩, by rw [hlen]; exact Nat.le_refl _, by rw [hlen, HNc.out]; have := cutN_le L1 n; omega⟩, hbl.setCell (p := ⟨w.heap.size + 1, 0, none⟩) (Nat.le_succ _) _⟩
    unfold cutL
    have e : ∀ (l : List Sp) (k : Nat), (cellsS l).take ((l.take k).length * 2) = cellsS (l.take k) := fun l k => by
      conv => lhs; rw [← List.take_append_drop k l, cellsS_append, List.take_append_drop]
      rw [← cellsS_len, List.take_left]
    simpa using e L1 _
end Go.Proofs.Ytijlkdppjmfbhaa
