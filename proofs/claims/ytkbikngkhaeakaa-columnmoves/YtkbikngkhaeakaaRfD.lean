/- The document's Of, Rows. -/
import Derived.Test.YtkbikngkhaeakaaRo
import Derived.Sort.Row
import Derived.Lib.AppendZeros
namespace Go.Proofs.Ytkbikngkhaeakaa
open Go.RowKit

theorem heap3_set2 {W : World} {B : Nat} {a b c : Value} {t : TypeId} (h : W.heap[B]? = some (.cells #[a, b, c] t (0, 0))) (v : Value) : (W.setCell ⟨B, 2, none⟩ v).heap[B]? = some (.cells #[a, b, v] t (0, 0)) := by
  rw [Go.Sort.setCell_eq]; simp [Go.Sort.mapBlock, Array.getElem?_modify, h, Go.Sort.onCells]
theorem heap1_set0 {W : World} {B : Nat} {a : Value} {t : TypeId} (h : W.heap[B]? = some (.cells #[a] t (0, 0))) (v : Value) : (W.setCell ⟨B, 0, none⟩ v).heap[B]? = some (.cells #[v] t (0, 0)) := by
  rw [Go.Sort.setCell_eq]; simp [Go.Sort.mapBlock, Array.getElem?_modify, h, Go.Sort.onCells]
theorem size_set (W : World) (a : Addr) (v : Value) : W.heap.size ≤ (W.setCell a v).heap.size := ((Below.refl 0 W).setCell (p := a) (Nat.zero_le _) v).size
theorem catN_succ (R : List RR) (k : Nat) : catN R (k + 1) = catN R k ++ rL R k := rfl
set_option maxRecDepth 20000 in
set_option maxHeartbeats 2000000 in
theorem of16 (wd : Int) (q : Option Addr) (R : List RR) (d : Nat) (w : World) (hR : VRow w.heap.size w q R) (hr : R.length ≤ 1000) (ht : (catN R R.length).length ≤ 1099511627776) :
    Calls Try.prog 16 #[.int .i64 wd, .slice q R.length d] w fun e w' => GivesC wd (R.length : Int) (lS R).flatten w e w' := by
  rw [← catN_all]
  have HR := hidOg hR
  obtain ⟨n, hn⟩ : ∃ n, n = R.length := ⟨_, rfl⟩
  have HN := hidOg hn
  rw [← hn] at hr ht ⊢
  have HT := hidOg ht
  obtain ⟨h1, h2⟩ := al2 w oZ (.cells #[.int .i64 wd, .int .i64 (n : Int), .slice none 0 0] 24)
  have KE : Be w.heap.size w ((w.alloc oZ).alloc (.cells #[.int .i64 wd, .int .i64 (n : Int), .slice none 0 0] 24)) := ((Be.refl (Nat.le_refl _)).al _).al _
  have HI : Hid (∃ p' c', ((w.alloc oZ).alloc (.cells #[.int .i64 wd, .int .i64 (n : Int), .slice none 0 0] 24)).heap[w.heap.size + 1]? = some (.cells #[.int .i64 wd, .int .i64 (n : Int), .slice p' (catN R 0).length c'] 24 (0, 0)) ∧ ((w.alloc oZ).alloc (.cells #[.int .i64 wd, .int .i64 (n : Int), .slice none 0 0] 24)).heap[w.heap.size]? = some oZ ∧ OwnR (w.heap.size + 2) ((w.alloc oZ).alloc (.cells #[.int .i64 wd, .int .i64 (n : Int), .slice none 0 0] 24)) p' (catN R 0) c' ∧ Be w.heap.size w ((w.alloc oZ).alloc (.cells #[.int .i64 wd, .int .i64 (n : Int), .slice none 0 0] 24)) ∧ w.heap.size + 2 ≤ ((w.alloc oZ).alloc (.cells #[.int .i64 wd, .int .i64 (n : Int), .slice none 0 0] 24)).heap.size) := ⟨none, 0, h2, h1, OwnR.nil _ _, KE, by simp⟩
  clear hR hn h1 h2 KE ht
  go_enter Try.func16, Try.ntmps16
  go_wp2
  go_loopw [14] (fun i wr => ∃ k : Nat, k ≤ n ∧ i = .int .i64 k ∧ ∃ p' c', wr.heap[w.heap.size + 1]? = some (.cells #[.int .i64 wd, .int .i64 (n : Int), .slice p' (catN R k).length c'] 24 (0, 0)) ∧ wr.heap[w.heap.size]? = some oZ ∧ OwnR (w.heap.size + 2) wr p' (catN R k) c' ∧ Be w.heap.size w wr ∧ w.heap.size + 2 ≤ wr.heap.size) (fun i _ => n - (intOf i).toNat)
  case atStart => exact ⟨0, Nat.zero_le _, rfl, HI.out⟩
  case round =>
    obtain ⟨k, hk, rfl, p', c', hx, hz, ho, hb, hs⟩ := hrel
    obtain ⟨x0, x1, x2, xf⟩ := heap3_cell hx
    have HB := hidOg hb
    have HO := hidOg ho
    have HZ := hidOg hz
    have HX := hidOg hx
    clear HI hx hz hb ho
    by_cases hlt : k < n
    · have hV := (HR.out.below HB.out.b (Nat.le_refl _)).mono HB.out.s
      obtain ⟨b, off, rfl, hbN, hcs⟩ := hV (by rw [← HN.out]; omega)
      obtain ⟨c0, hI⟩ := hcs k (by rw [← HN.out]; exact hlt)
      have hle : (catN R (k + 1)).length ≤ 1099511627776 := Nat.le_trans (catN_le R (by omega)) HT.out
      have e1 : (catN R (k + 1)).length = (catN R k).length + (rL R k).length := by rw [catN_succ]; simp
      obtain ⟨p2, c2, w2, hrun, ho2, hg2⟩ := app_words (t := 22) Try.underlying22 wr 22 (w.heap.size + 2) p' (catN R k) c' (rP R k) (rL R k) (rC R k) HO.out hI (by rw [← e1]; exact hle) hs
      rw [← app_mix, ← catN_succ] at hrun
      rw [← catN_succ] at ho2
      have hb2 : Below (w.heap.size + 2) wr w2 := grown_bel (Below.refl _ _) (fun a ha => HO.out.fr a ha) hs hg2
      obtain ⟨y0, y1, y2, yf⟩ := heap3_cell ((hb2.block (w.heap.size + 1) (by omega)).trans HX.out)
      have HB2 := hidOg hb2
      have HO2 := hidOg ho2
      obtain ⟨m, hm⟩ : ∃ m, m = (catN R (k + 1)).length := ⟨_, rfl⟩
      obtain ⟨m0, hm0⟩ : ∃ m0, m0 = (catN R k).length := ⟨_, rfl⟩
      obtain ⟨m1, hm1⟩ : ∃ m1, m1 = (rL R k).length := ⟨_, rfl⟩
      rw [← hm, ← hm0, ← hm1] at hrun
      rw [← hm0] at x2 y2
      rw [← hm1] at c0
      have HM := hidOg hm
      have HX2 : Hid (w2.heap[w.heap.size + 1]? = _ ∧ w2.heap[w.heap.size]? = _) := ⟨(hb2.block (w.heap.size + 1) (by omega)).trans HX.out, (hb2.block w.heap.size (by omega)).trans HZ.out⟩
      clear hm hm0 hm1 hcs hI hV hle e1 hg2 hb2 ho2 HX
      go_wp2_with (first | (at_builtin; refine Lib.wpList_append_run _ rfl _ _ 22 38 rfl _ _ rfl rfl _ w2 hrun ?_))
      go_roundw
      case rel =>
        have hq := HO2.out.fr
        refine ⟨k + 1, by omega, by go_num, p2, c2, ?_, ?_, ?_, ?_, ?_⟩
        · rw [← HM.out]; exact heap3_set2 HX2.out.1 _
        · exact (heap_setCell_other _ _ _ _ (by simp)).trans HX2.out.2
        · exact HO2.out.setCell (a := ⟨w.heap.size + 1, 2, none⟩) (fun x hx => by have := hq x hx; show x.block ≠ w.heap.size + 1; omega) _
        · exact (⟨HB.out.b.trans (HB2.out.mono (by omega)), Nat.le_trans HB.out.s HB2.out.size⟩ : Be w.heap.size w w2).st (a := ⟨w.heap.size + 1, 2, none⟩) (by simp) _
        · exact Nat.le_trans hs (Nat.le_trans HB2.out.size (size_set _ _ _))
      case measure => simp [intOf]; omega
    · obtain rfl : n = k := by omega
      obtain ⟨z0, z1, z2, zf⟩ := heap3_cell HZ.out
      obtain ⟨m, hm⟩ : ∃ m, m = catN R n := ⟨_, rfl⟩
      have HO' := HO.out
      rw [← hm] at x2 HO'
      have HM := hidOg hm
      have HO2 := hidOg HO'
      clear HO HX hm HO'
      go_wp2
      refine bodyPost_ret (v := .agg #[.int .i64 wd, .int .i64 (n : Int), .slice p' m.length c']) (by simp [results, Try.results16, go_sem, z0, z1, z2]) rfl (by rw [← HM.out]; refine ⟨p', c', rfl, ?_, set3 HB.out.b (Nat.le_refl _) _ _ _⟩; exact (HO2.out.set3 (B := w.heap.size) (by omega) _ _ _).weak (by omega))
/-- What the document's Rows answers. -/
def GivesV (rows : List (List Int)) (w : World) (e : Ending) (w' : World) : Prop := ∃ q c X, e = .returned (.slice q X.length c) ∧ lS X = rows ∧ RV w.heap.size X q c w' ∧ Below w.heap.size w w'
theorem chK_take {W : Nat} {l : List Int} {k j : Nat} (h : j ≤ W) : ((l.drop (k * W)).take W).take j = (l.drop (k * W)).take j := by rw [List.take_take, Nat.min_eq_left h]
theorem take_sn {l : List Int} {a j : Nat} (h : a + j < l.length) : (l.drop a).take (j + 1) = (l.drop a).take j ++ [iG l (a + j)] := by
  rw [List.take_succ_eq_append_getElem (by rw [List.length_drop]; omega)]
  congr 2
  rw [List.getElem_drop, iG_eq h]
set_option maxRecDepth 20000 in
set_option maxHeartbeats 4000000 in
theorem rows18 (W R : Nat) (p : Option Addr) (l : List Int) (c : Nat) (w : World) (hC : CV w W R p l c) (hR : R ≤ 1000) :
    Calls Try.prog 18 #[.agg #[.int .i64 (W : Int), .int .i64 (R : Int), .slice p l.length c]] w fun e w' => GivesV (chK W R l) w e w' := by
  have hw4 := hC.w4
  have HC := hidOg hC
  have HL : Hid (l.length = W * R) := hC.n
  obtain ⟨n0, hn0⟩ : ∃ n0, n0 = l.length := ⟨_, rfl⟩
  have HN0 := hidOg hn0
  have hz := heap_alloc_new w (.cells #[.int .i64 (W : Int), .int .i64 (R : Int), .slice p l.length c] 24)
  have hbl := bal w (.cells #[.int .i64 (W : Int), .int .i64 (R : Int), .slice p l.length c] 24)
  have hs1 : w.heap.size + 1 ≤ (w.alloc (.cells #[.int .i64 (W : Int), .int .i64 (R : Int), .slice p l.length c] 24)).heap.size := by simp
  rw [← hn0] at hz hbl hs1 ⊢
  have HI : Hid (∃ q c' X, (Value.slice none 0 0) = .slice q X.length c' ∧ lS X = chK W 0 l ∧ RV (w.heap.size + 1) X q c' (w.alloc (.cells #[.int .i64 (W : Int), .int .i64 (R : Int), .slice p n0 c] 24)) ∧ (w.alloc (.cells #[.int .i64 (W : Int), .int .i64 (R : Int), .slice p n0 c] 24)).heap[w.heap.size]? = some (.cells #[.int .i64 (W : Int), .int .i64 (R : Int), .slice p n0 c] 24 (0, 0)) ∧ Below w.heap.size w (w.alloc (.cells #[.int .i64 (W : Int), .int .i64 (R : Int), .slice p n0 c] 24)) ∧ w.heap.size + 1 ≤ (w.alloc (.cells #[.int .i64 (W : Int), .int .i64 (R : Int), .slice p n0 c] 24)).heap.size) := ⟨none, 0, [], rfl, rfl, RV.nil _ _, hz, hbl, hs1⟩
  clear hC hz hbl hs1 hn0
  go_enter Try.func18, Try.ntmps18
  go_wp2
  go_loopw [3, 9] (fun o i wr => ∃ k : Nat, k ≤ R ∧ i = .int .i64 k ∧ ∃ q c' X, o = .slice q X.length c' ∧ lS X = chK W k l ∧ RV (w.heap.size + 1) X q c' wr ∧ wr.heap[w.heap.size]? = some (.cells #[.int .i64 (W : Int), .int .i64 (R : Int), .slice p n0 c] 24 (0, 0)) ∧ Below w.heap.size w wr ∧ w.heap.size + 1 ≤ wr.heap.size) (fun _ i _ => R - (intOf i).toNat)
  case atStart => exact ⟨0, Nat.zero_le _, rfl, HI.out⟩
  case round =>
    obtain ⟨k, hk, rfl, q, c', X, rfl, hX, hV, hx, hb, hs⟩ := hrel
    obtain ⟨x0, x1, x2, xf⟩ := heap3_cell hx
    have HX := hidOg hX
    have HV := hidOg hV
    have HX0 := hidOg hx
    have HB := hidOg hb
    clear HI hX hV hx hb
    obtain ⟨nx, hnx⟩ : ∃ nx, nx = X.length := ⟨_, rfl⟩
    have hnk : nx = k := by rw [hnx, ← lS_len, HX.out, chK_len]
    have HNX := hidOg hnx
    have HNK := hidOg hnk
    rw [← hnx]
    clear hnx hnk
    by_cases hlt : k < R
    · have hkW : k * W + W ≤ W * R := by
        have := Nat.mul_le_mul_right W (show k + 1 ≤ R by omega)
        rw [Nat.succ_mul, Nat.mul_comm R W] at this; exact this
      have HKW := hidOg hkW
      have hm := mul_nat (f := (k : Int)) (wd := (W : Int)) (a := k * W) (by push_cast; rfl) (by unfold maxLen; have := Nat.mul_le_mul (Nat.le_of_lt hlt) hw4; omega)
      obtain ⟨q1, q2⟩ := hm
      obtain ⟨kW, hkW2⟩ : ∃ kW, kW = k * W := ⟨_, rfl⟩
      rw [← hkW2] at q1 q2
      have HKW2 := hidOg hkW2
      have hkb : kW ≤ 4000 := by rw [hkW2]; have := Nat.mul_le_mul (Nat.le_of_lt hlt) hw4; omega
      clear hkW hkW2
      go_wp2
      obtain ⟨wa, hwa⟩ : ∃ wa, wa = wr := ⟨_, rfl⟩
      have HWA : Hid (RV (w.heap.size + 1) X q c' wa ∧ Below w.heap.size w wa ∧ w.heap.size + 1 ≤ wa.heap.size ∧ wa.heap[w.heap.size]? = some (.cells #[.int .i64 (W : Int), .int .i64 (R : Int), .slice p n0 c] 24 (0, 0))) := by rw [hwa]; exact ⟨HV.out, HB.out, hs, HX0.out⟩
      have HST : Hid (∃ pv cv, (Value.slice none 0 0) = .slice pv ((l.drop kW).take 0).length cv ∧ OwnR wa.heap.size wr pv ((l.drop kW).take 0) cv ∧ Below wa.heap.size wa wr) := ⟨none, 0, by simp, by simpa using OwnR.nil _ _, by rw [hwa]; exact Below.refl _ _⟩
      clear HV HB hs HX0 hwa
      go_loopw [5, 14] (fun v i wr => ∃ j : Nat, j ≤ W ∧ i = .int .i64 j ∧ ∃ pv cv, v = .slice pv ((l.drop kW).take j).length cv ∧ OwnR wa.heap.size wr pv ((l.drop kW).take j) cv ∧ Below wa.heap.size wa wr) (fun _ i _ => W - (intOf i).toNat)
      case atStart => exact ⟨0, Nat.zero_le _, rfl, HST.out⟩
      case round =>
        obtain ⟨j, hj, rfl, pv, cv, rfl, ho, hbw⟩ := hrel
        have HO := hidOg ho
        have HBW := hidOg hbw
        obtain ⟨u0, u1, u2, uf⟩ := heap3_cell ((hbw.block w.heap.size (Nat.lt_of_lt_of_le (Nat.lt_succ_self _) HWA.out.2.2.1)).trans HWA.out.2.2.2)
        clear HST ho hbw x0 x1 x2 xf
        by_cases hjl : j < W
        · have hidx : kW + j < l.length := by rw [HL.out, HKW2.out]; have := HKW.out; omega
          obtain ⟨b, off, hpe, hbN, hcs⟩ := ((HC.out.to (HWA.out.2.1.trans (HBW.out.mono (Nat.le_trans (Nat.le_succ _) HWA.out.2.2.1)))).r.i) (by omega)
          have c0 := hcs (kW + j) hidx
          rw [hpe] at u2 ⊢
          obtain ⟨y, hy⟩ : ∃ y, y = iG l (kW + j) := ⟨_, rfl⟩
          rw [← hy] at c0
          have E1 : Hid ((l.drop kW).take (j + 1) = (l.drop kW).take j ++ [y]) := by unfold Hid; rw [take_sn hidx, hy]
          have hI1 : IRow .u64 (wr.alloc (.cells #[.int .u64 y] 40)).heap.size (wr.alloc (.cells #[.int .u64 y] 40)) (some ⟨wr.heap.size, 0, none⟩) [y] := irow_heap .u64 (t := 40) (by simpa [cellsI] using heap_alloc_new wr (.cells #[.int .u64 y] 40))
          have hlj : ((l.drop kW).take j).length = j := by rw [List.length_take, List.length_drop]; omega
          obtain ⟨p2, c2, w2, hrun, ho2, hg2⟩ := app_words (t := 38) Try.underlying38 (wr.alloc (.cells #[.int .u64 y] 40)) 38 wa.heap.size pv ((l.drop kW).take j) cv (some ⟨wr.heap.size, 0, none⟩) [y] 1 (HO.out.to (bal _ _)) hI1 (by rw [hlj]; simp; omega) (Nat.le_trans HBW.out.size (bal wr _).size)
          have hb2 : Below wa.heap.size wr w2 := (((Below.refl _ _).alloc HBW.out.size _)).trans (grown_bel (Below.refl _ _) (fun a ha => HO.out.fr a ha) (Nat.le_trans HBW.out.size (bal wr _).size) hg2)
          have hn1 : (n0 : Int) = (l.length : Int) := by rw [HN0.out]
          have hidx2 : kW + j < n0 := by rw [HN0.out]; exact hidx
          rw [← E1.out] at hrun ho2
          have HO2 := hidOg ho2
          have HB2 := hidOg hb2
          rw [hlj] at hrun ⊢
          obtain ⟨m, hm⟩ : ∃ m, m = ((l.drop kW).take (j + 1)).length := ⟨_, rfl⟩
          rw [← hm] at hrun
          have HM := hidOg hm
          clear hm hy hcs hpe hI1 ho2 hg2 hb2 hidx hlj hn1
          go_wp2_with (first | (at_builtin; refine Lib.wpList_append_run _ rfl _ _ 38 38 rfl _ _ rfl rfl _ w2 hrun ?_))
          go_roundw
          case rel => exact ⟨j + 1, by omega, by go_num, p2, c2, by rw [← HM.out], HO2.out, HBW.out.trans (HB2.out.mono (Nat.le_refl _))⟩
          case measure => simp [intOf]; omega
        · obtain rfl : W = j := by omega
          have ev : (l.drop kW).take W = (chK W (k + 1) l)[k]'(by rw [chK_len]; omega) := by rw [chK_at _ _ (by omega), HKW2.out]
          have hlv : ((l.drop kW).take W).length = W := by rw [List.length_take, List.length_drop, HL.out, HKW2.out]; have := HKW.out; omega
          have hV2 : RV (w.heap.size + 1) X q c' wr := HWA.out.1.to HBW.out
          obtain ⟨v, hv⟩ : ∃ v, v = (l.drop kW).take W := ⟨_, rfl⟩
          rw [← hv] at ev hlv
          have HO' := HO.out
          rw [← hv] at HO'
          have hs2 : w.heap.size + 1 ≤ wr.heap.size := Nat.le_trans HWA.out.2.2.1 HBW.out.size
          obtain ⟨p2, c2, w2, hrun, ho2, hg2⟩ := app_rv (wr.alloc (.cells #[.slice pv v.length cv] 38)) 35 (w.heap.size + 1) q X c' [(pv, v, cv)] ⟨wr.heap.size, 0, none⟩ 1 (hV2.to (bal _ _)) (cell_new1 wr _ 38) (fun x hx => by rw [List.mem_singleton.1 hx]; exact (HO'.weak (Nat.zero_le _)).to (bal _ _)) (by rw [← HNX.out, HNK.out]; simp; omega) (Nat.le_trans hs2 (bal wr _).size)
          have hb2 : Below (w.heap.size + 1) wr w2 := ((Below.refl _ _).alloc hs2 _).trans (grown_bel (Below.refl _ _) (fun a ha => owns_fresh hV2.o a ha) (Nat.le_trans hs2 (bal wr _).size) hg2)
          have HX2 : Hid (lS (X ++ [(pv, v, cv)]) = chK W (k + 1) l) := by
            unfold Hid
            have : lS (X ++ [(pv, v, cv)]) = lS X ++ [v] := by simp [lS]
            rw [this, HX.out, chK_succ]
            congr 2
            rw [ev, chK_at _ _ (by omega)]
          have HV2 := hidOg ho2
          have HBA : Hid (Below w.heap.size w w2) := (HWA.out.2.1.trans (HBW.out.mono (Nat.le_trans (Nat.le_succ _) HWA.out.2.2.1))).trans (hb2.mono (Nat.le_succ _))
          have HS2 : Hid (w.heap.size + 1 ≤ w2.heap.size) := Nat.le_trans hs2 hb2.size
          have HZ2 : Hid (w2.heap[w.heap.size]? = some (.cells #[.int .i64 (W : Int), .int .i64 (R : Int), .slice p n0 c] 24 (0, 0))) := (hb2.block w.heap.size (Nat.lt_succ_self _)).trans ((HBW.out.block w.heap.size (Nat.lt_of_lt_of_le (Nat.lt_succ_self _) HWA.out.2.2.1)).trans HWA.out.2.2.2)
          rw [← HNX.out] at hrun
          rw [← hv]
          obtain ⟨m, hm⟩ : ∃ m, m = (X ++ [(pv, v, cv)]).length := ⟨_, rfl⟩
          obtain ⟨lv, hlv2⟩ : ∃ lv, lv = v.length := ⟨_, rfl⟩
          have HM := hidOg hm
          rw [← hm, ← hlv2] at hrun
          rw [← hlv2]
          clear hm hlv2 hv HO HO' hV2 ho2 hg2 hb2 hlv ev hs2 HBW
          go_wp2_with (first | (at_builtin; refine Lib.wpList_append_run _ rfl _ _ 35 35 rfl _ _ rfl rfl _ w2 hrun ?_))
          go_roundw
          case rel => exact ⟨k + 1, by omega, by go_num, p2, c2, _, by rw [← HM.out], HX2.out, HV2.out, HZ2.out, HBA.out, HS2.out⟩
          case measure => simp [intOf]; omega
    · obtain rfl : R = k := by omega
      go_wp2
      go_ret
      exact ⟨q, c', X, by rw [HNX.out]; rfl, HX.out, HV.out.base (Nat.le_succ _), HB.out⟩
end Go.Proofs.Ytkbikngkhaeakaa
