/- ColumnBack: the column may be, and is small: pushed and taken back; where Swap refuses. -/
import Derived.Test.YtkbikngkhaeakaaBk
import Derived.Deep.CutBlock
namespace Go.Proofs.Ytkbikngkhaeakaa
open Go.RowKit

theorem vrow_one {X : World} {K : Nat} {pv : Option Addr} {v : List Int} {d : Nat} (h : X.heap[K]? = some (.cells #[.slice pv v.length d] 38 (0, 0))) (hi : IRow .u64 X.heap.size X pv v) : VRow X.heap.size X (some ⟨K, 0, none⟩) [(pv, v, d)] := fun _ =>
  ⟨K, 0, rfl, (Array.getElem?_eq_some_iff.1 h).1, fun k hk => by
    obtain rfl : k = 0 := by simp at hk; omega
    exact ⟨cell1_heap h, hi⟩⟩
set_option maxRecDepth 20000 in
set_option maxHeartbeats 8000000 in
theorem back_out (W R : Nat) (p : Option Addr) (l : List Int) (c : Nat) (row : Int) (pv : Option Addr) (v : List Int) (d : Nat) (w : World) (h : InR w p l c) (hv : IRow .u64 w.heap.size w pv v) (hvm : v.length ≤ maxLen) (hm : mayB (W : Int) (R : Int) (l.take 60).length = true) (hR : R ≤ 200) (hsw : ¬ (sA (W : Int) (R : Int) (l.take 60) row).2 = 0) :
    Calls Try.prog 6 #[.agg #[.int .i64 (W : Int), .int .i64 (R : Int), .slice p l.length c], .int .i64 row, .slice pv v.length d] w fun e w' => e = .returned (.bool true) ∧ Below w.heap.size w w' := by
  have CO := fun (X : World) (hb : Below w.heap.size w X) => own10 (W : Int) (R : Int) p l c X (h.to hb)
  have hs : smB (W : Int) (R : Int) (l.take 60).length = true := by unfold smB; simp; omega
  obtain ⟨L, hL⟩ : ∃ L, L = l.take 60 := ⟨_, rfl⟩
  have h60 : L.length ≤ 60 := by rw [hL]; simp; omega
  rw [← hL] at CO hs hm hsw
  have hW4 : W ≤ 4 := by have := (mayB_t hm).2.1; omega
  have hl1 : L.length = W * R := by have := (mayB_t hm).2.2.2.2; exact_mod_cast this
  have h0 := heap_alloc_new w (.cells #[.int .i64 (W : Int), .int .i64 (R : Int), .slice p l.length c] 24)
  have H0 := hidOg h0
  have CS := fun (q : Option Addr) (k : Nat) (X : World) => small17 (W : Int) (R : Int) q L.length k X
  rw [hs] at CS
  have C20 := fun (q : Option Addr) (k : Nat) (X : World) (h1 : Row X q L k) (h2 : k ≤ maxLen) => rows20 (W : Int) (R : Int) q L k X h1 h2 hs
  rw [roS_of hm] at C20
  have CK := fun (q : Option Addr) (k : Nat) (X : World) => check11 (W : Int) (R : Int) q L k X (by unfold maxLen; omega)
  rw [show chkE (W : Int) (R : Int) L = 0 from by unfold chkE; rw [if_pos hm]] at CK
  have CP := fun (q : Option Addr) (k : Nat) (q2 : Option Addr) (X : World) (h1 : Row X q L k) (h2 : k ≤ maxLen) (h3 : VRow X.heap.size X q2 [(pv, v, d)]) => push29 (W : Int) (R : Int) q L k q2 [(pv, v, d)] 1 X h1 h2 h3 (by simp)
  have HV : Hid (∀ X, Below w.heap.size w X → IRow .u64 X.heap.size X pv v) := fun X hb => hv.to hb
  have HB0 : Hid (Be w.heap.size w (w.alloc (.cells #[.int .i64 (W : Int), .int .i64 (R : Int), .slice p l.length c] 24))) := (Be.refl (Nat.le_refl _)).al _
  obtain ⟨nv, hnv⟩ : ∃ nv, nv = v.length := ⟨_, rfl⟩
  have HNV := hidOg hnv
  have HM := hidOg hm
  have HL1 := hidOg hl1
  have HW4 := hidOg hW4
  have HS := hidOg hs
  have hnv63 : nv ≤ 9223372036854775807 := by rw [hnv]; unfold maxLen at hvm; exact hvm
  have hvw := Classical.em (v.length = W)
  rw [← hnv]
  clear h hL hs h0 hm h60 hv hl1 hW4 hnv hvm
  go_enter Try.func6, Try.ntmps6
  go_upto_region 9 with (first
    | (go_at_call 9; refine Calls.mono (wakes9 _) ?_; rintro e w1 ⟨rfl, hb1⟩; obtain ⟨a0, a1, a2, _⟩ := heap3_cell ((hb1.block w.heap.size (by simp)).trans H0.out); have HB1 := hidOg (HB0.out.to hb1); clear hb1)
    | (go_at_call 10; refine Calls.mono (CO _ HB1.out.b) ?_; rintro e w2 ⟨q2, c2, rfl, ho2, hb2⟩; have B7 := hidOg (BC.new (wd := (W : Int)) (rs := (R : Int)) ho2.row ho2.cm); have HB2 := hidOg ((HB1.out.to hb2).al (.cells #[.int .i64 (W : Int), .int .i64 (R : Int), .slice q2 L.length c2] 24)); clear ho2 hb2 a0 a1 a2)
    | (go_at_call 17; refine Calls.mono (CS _ _ _) ?_; rintro e w3 ⟨rfl, hb3⟩; have B73 := hidOg (B7.out.to hb3); obtain ⟨y0, y1, y2⟩ := B73.out.cells; have HB3 := hidOg (HB2.out.to hb3); clear hb3)
    | (go_at_call 20; refine Calls.mono (C20 _ _ _ B73.out.r B73.out.m) ?_; rintro e w4 ⟨q4, c4, X4, rfl, hX, hRX, hb4⟩; have HX4 := hidOg hX; have HRX := hidOg hRX; have B74 := hidOg (B73.out.to hb4); obtain ⟨z0, z1, z2⟩ := B74.out.cells; have HB4 := hidOg (HB3.out.to hb4); clear hb4 hX hRX y0 y1 y2)
    | (go_at_call 11; refine Calls.mono (CK _ _ _) ?_; rintro e w5 ⟨rfl, hb5⟩; have HB5 := hidOg (HB4.out.to hb5); have B75 := hidOg (B74.out.to hb5); have HRX5 := hidOg (HRX.out.to hb5); clear hb5 z0 z1 z2))
  have KS : Hid (∀ X, Below w5.heap.size w5 X → BC w2.heap.size (W : Int) (R : Int) q2 L c2 X ∧ Be w.heap.size w X) := fun X hb => ⟨B75.out.to hb, HB5.out.to hb⟩
  obtain ⟨y0, y1, y2⟩ := B75.out.cells
  clear CO CS C20 CK B7 B73 B74 HB0 HB1 HB2 HB3 HB4 HRX H0
  have CQ2 := fun (q : Option Addr) (k : Nat) (X : World) (h1 : Row X q L k) (h2 : k ≤ maxLen) => swap24 (W : Int) (R : Int) q L k row X h1 h2
  have hno := sw_no HM.out hsw
  obtain ⟨⟨⟨b1, b2, M⟩, er⟩, hbb⟩ : ∃ b, b = sA (W : Int) (R : Int) L row := ⟨_, rfl⟩
  rw [← hbb] at CQ2 hsw
  have e0 : (er != 0) = true := by simpa using hsw
  clear hbb hsw
  rcases hvw with hvw | hvw
  · obtain ⟨i1, hi1⟩ : ∃ i : Int, i = ((R + 1 : Nat) : Int) := ⟨_, rfl⟩
    have hpu := pu_yes (pv := pv) (d := d) HM.out hR hvw
    have hsp := sw_pushed HW4.out hR HL1.out hvw
    have hgp := get_pushed HW4.out hR HL1.out hvw
    obtain ⟨p1, p2⟩ := push_one HL1.out hvw
    have hck : chkE (W : Int) i1 (L ++ v) = 0 := by rw [hi1]; unfold chkE; rw [if_pos (mayB_nat HW4.out (by omega) p1)]
    rw [← hi1] at hpu hsp hgp
    rw [hpu] at CP
    obtain ⟨Lp, hLp⟩ : ∃ Lp, Lp = L ++ v := ⟨_, rfl⟩
    rw [← hLp] at CP hsp hgp hck p1
    have CQ := fun (q : Option Addr) (k : Nat) (X : World) (h1 : Row X q Lp k) (h2 : k ≤ maxLen) => swap24 (W : Int) i1 q Lp k (R : Int) X h1 h2
    rw [hsp] at CQ
    have CG := fun (q : Option Addr) (k : Nat) (X : World) (h1 : Row X q Lp k) (h2 : k ≤ maxLen) => get23 (W : Int) i1 q Lp k (R : Int) X h1 h2
    rw [hgp] at CG
    replace CG : ∀ (q : Option Addr) (k : Nat) (X : World), Row X q Lp k → k ≤ maxLen → Calls Try.prog 23 #[.agg #[.int .i64 (W : Int), .int .i64 i1, .slice q Lp.length k], .int .i64 (R : Int)] X fun e w' => ∃ q' c', e = .returned (.tuple #[.slice q' nv c', .int .i64 0]) ∧ OwnR X.heap.size w' q' v c' ∧ Below X.heap.size X w' := by rw [HNV.out]; exact CG
    have CK := fun (q : Option Addr) (k : Nat) (X : World) => check11 (W : Int) i1 q Lp k X (by rw [p1]; have := Nat.mul_le_mul HW4.out (show R + 1 ≤ 201 by omega); unfold maxLen; omega)
    rw [hck] at CK
    have CX := fun (q : Option Addr) (k : Nat) (X : World) (h1 : Row X q L k) (h2 : Row X q2 L c2) => same13 (W : Int) (R : Int) q L k (W : Int) (R : Int) q2 L c2 X h1.i h2.i (by rw [HL1.out]; have := Nat.mul_le_mul HW4.out hR; omega)
    rw [samC_refl] at CX
    have CE := fun (q : Option Addr) (k : Nat) (X : World) (h1 : IRow .u64 X.heap.size X q v) (h2 : IRow .u64 X.heap.size X pv v) => equal21 q v k pv v d X h1 h2 (by rw [hvw]; have := HW4.out; omega)
    rw [samI_refl] at CE
    rw [← HNV.out] at CE
    have HVW : Hid (nv = W) := HNV.out.trans hvw
    clear hpu hsp hgp p1 p2 hck hLp hvw hi1
    by_cases h0 : row < 0
    · clear hno
      go_wp2_with (first
        | (go_at_call 29; refine Calls.mono (CP _ _ _ _ (B75.out.r.to (bal _ _)) B75.out.m (vrow_one (by rw [← HNV.out]; exact heap_at rfl) (HV.out _ (HB5.out.al _).b))) ?_; rintro e w6 ⟨q6, c6, rfl, ho, hb⟩; have B9 := hidOg (BC.new (wd := (W : Int)) (rs := i1) ho.row ho.cm); have HC6 := hidOg ((((⟨Below.refl _ _, Nat.le_refl _⟩ : Be w5.heap.size w5 w5).al (.cells #[.slice pv nv d] 38)).to hb).al (.cells #[.int .i64 (W : Int), .int .i64 i1, .slice q6 Lp.length c6] 24)); obtain ⟨z0, z1, z2⟩ := (KS.out _ HC6.out.b).1.cells; clear ho hb y0 y1 y2)
        | (go_at_call_has 24 q6; refine Calls.mono (CQ _ _ _ B9.out.r B9.out.m) ?_; rintro e w7 ⟨q7, c7, rfl, ho, hb⟩; have hx := bal w7 (.cells #[.int .i64 (W : Int), .int .i64 (R : Int), .slice q7 L.length c7] 24); have B97 := hidOg ((B9.out.to hb).to hx); have B11 := hidOg (BC.new (wd := (W : Int)) (rs := (R : Int)) ho.row ho.cm); have HC7 := hidOg ((HC6.out.to hb).al (.cells #[.int .i64 (W : Int), .int .i64 (R : Int), .slice q7 L.length c7] 24)); obtain ⟨x0, x1, x2⟩ := B97.out.cells; obtain ⟨t0, t1, t2⟩ := (KS.out _ HC7.out.b).1.cells; clear ho hb hx z0 z1 z2)
        | (go_at_call_has 23 q6; refine Calls.mono (CG _ _ _ B97.out.r B97.out.m) ?_; rintro e w8 ⟨q8, c8, rfl, ho, hb⟩; have B98 := hidOg (B97.out.to hb); have B118 := hidOg (B11.out.to hb); have HO8 := hidOg ho.row; have HC8 := hidOg (HC7.out.to hb); obtain ⟨g0, g1, g2⟩ := B118.out.cells; obtain ⟨t0, t1, t2⟩ := (KS.out _ HC8.out.b).1.cells; clear ho hb x0 x1 x2)
        | (go_at_call 13; refine Calls.mono (CX _ _ _ B118.out.r (KS.out _ HC8.out.b).1.r) ?_; rintro e w9 ⟨rfl, hb⟩; have B99 := hidOg (B98.out.to hb); have HO9 := hidOg (HO8.out.to hb); have HC9 := hidOg (HC8.out.to hb); clear hb)
        | (go_at_call 21; refine Calls.mono (CE _ _ _ HO9.out.i (HV.out _ (KS.out _ HC9.out.b).2.b)) ?_; rintro e w10 ⟨rfl, hb⟩; have B910 := hidOg (B99.out.to hb); have HC10 := hidOg (HC9.out.to hb); obtain ⟨x0, x1, x2⟩ := B910.out.cells; clear hb)
        | (go_at_call_has 11 q6; refine Calls.mono (CK _ _ _) ?_; rintro e w11 ⟨rfl, hb⟩; have HC11 := hidOg (HC10.out.to hb); obtain ⟨n0, n1, n2⟩ := (KS.out _ HC11.out.b).1.cells; clear hb)
        | (go_at_call_has 24 q2; refine Calls.mono (CQ2 _ _ _ (KS.out _ HC11.out.b).1.r (KS.out _ HC11.out.b).1.m) ?_; rintro e wy ⟨qy, cy, rfl, _, hb⟩; have HY := hidOg ((HC11.out.to hb).al (.cells #[.int .i64 b1, .int .i64 b2, .slice qy M.length cy] 24)); clear hb))
      go_ret
      exact ⟨rfl, (KS.out _ HY.out.b).2.b⟩
    · have h1 : (R : Int) ≤ row := by omega
      clear hno
      go_wp2_with (first
        | (go_at_call 29; refine Calls.mono (CP _ _ _ _ (B75.out.r.to (bal _ _)) B75.out.m (vrow_one (by rw [← HNV.out]; exact heap_at rfl) (HV.out _ (HB5.out.al _).b))) ?_; rintro e w6 ⟨q6, c6, rfl, ho, hb⟩; have B9 := hidOg (BC.new (wd := (W : Int)) (rs := i1) ho.row ho.cm); have HC6 := hidOg ((((⟨Below.refl _ _, Nat.le_refl _⟩ : Be w5.heap.size w5 w5).al (.cells #[.slice pv nv d] 38)).to hb).al (.cells #[.int .i64 (W : Int), .int .i64 i1, .slice q6 Lp.length c6] 24)); obtain ⟨z0, z1, z2⟩ := (KS.out _ HC6.out.b).1.cells; clear ho hb y0 y1 y2)
        | (go_at_call_has 24 q6; refine Calls.mono (CQ _ _ _ B9.out.r B9.out.m) ?_; rintro e w7 ⟨q7, c7, rfl, ho, hb⟩; have hx := bal w7 (.cells #[.int .i64 (W : Int), .int .i64 (R : Int), .slice q7 L.length c7] 24); have B97 := hidOg ((B9.out.to hb).to hx); have B11 := hidOg (BC.new (wd := (W : Int)) (rs := (R : Int)) ho.row ho.cm); have HC7 := hidOg ((HC6.out.to hb).al (.cells #[.int .i64 (W : Int), .int .i64 (R : Int), .slice q7 L.length c7] 24)); obtain ⟨x0, x1, x2⟩ := B97.out.cells; obtain ⟨t0, t1, t2⟩ := (KS.out _ HC7.out.b).1.cells; clear ho hb hx z0 z1 z2)
        | (go_at_call_has 23 q6; refine Calls.mono (CG _ _ _ B97.out.r B97.out.m) ?_; rintro e w8 ⟨q8, c8, rfl, ho, hb⟩; have B98 := hidOg (B97.out.to hb); have B118 := hidOg (B11.out.to hb); have HO8 := hidOg ho.row; have HC8 := hidOg (HC7.out.to hb); obtain ⟨g0, g1, g2⟩ := B118.out.cells; obtain ⟨t0, t1, t2⟩ := (KS.out _ HC8.out.b).1.cells; clear ho hb x0 x1 x2)
        | (go_at_call 13; refine Calls.mono (CX _ _ _ B118.out.r (KS.out _ HC8.out.b).1.r) ?_; rintro e w9 ⟨rfl, hb⟩; have B99 := hidOg (B98.out.to hb); have HO9 := hidOg (HO8.out.to hb); have HC9 := hidOg (HC8.out.to hb); clear hb)
        | (go_at_call 21; refine Calls.mono (CE _ _ _ HO9.out.i (HV.out _ (KS.out _ HC9.out.b).2.b)) ?_; rintro e w10 ⟨rfl, hb⟩; have B910 := hidOg (B99.out.to hb); have HC10 := hidOg (HC9.out.to hb); obtain ⟨x0, x1, x2⟩ := B910.out.cells; clear hb)
        | (go_at_call_has 11 q6; refine Calls.mono (CK _ _ _) ?_; rintro e w11 ⟨rfl, hb⟩; have HC11 := hidOg (HC10.out.to hb); obtain ⟨n0, n1, n2⟩ := (KS.out _ HC11.out.b).1.cells; clear hb)
        | (go_at_call_has 24 q2; refine Calls.mono (CQ2 _ _ _ (KS.out _ HC11.out.b).1.r (KS.out _ HC11.out.b).1.m) ?_; rintro e wy ⟨qy, cy, rfl, _, hb⟩; have HY := hidOg ((HC11.out.to hb).al (.cells #[.int .i64 b1, .int .i64 b2, .slice qy M.length cy] 24)); obtain ⟨m0, m1, m2⟩ := (KS.out _ HY.out.b).1.cells; clear hb))
      go_ret
      exact ⟨rfl, (KS.out _ HY.out.b).2.b⟩
  · have hpu := pu_no (pv := pv) (d := d) HM.out hvw
    rw [hpu] at CP
    replace CP : ∀ (q : Option Addr) (k : Nat) (q2 : Option Addr) (X : World), Row X q L k → k ≤ maxLen → VRow X.heap.size X q2 [(pv, v, d)] → Calls Try.prog 29 #[.agg #[.int .i64 (W : Int), .int .i64 (R : Int), .slice q L.length k], .slice q2 1 1] X fun e w' => ∃ q' c', e = .returned (.tuple #[.agg #[.int .i64 0, .int .i64 0, .slice q' 0 c'], .int .i64 140]) ∧ OwnR X.heap.size w' q' [] c' ∧ Below X.heap.size X w' := CP
    have d1 : ((nv : Int) == (W : Int)) = false := by rw [HNV.out]; simp; omega
    clear hpu hvw
    by_cases h0 : row < 0
    · clear hno
      go_wp2_with (first
        | (go_at_call 29; refine Calls.mono (CP _ _ _ _ (B75.out.r.to (bal _ _)) B75.out.m (vrow_one (by rw [← HNV.out]; exact heap_at rfl) (HV.out _ (HB5.out.al _).b))) ?_; rintro e w6 ⟨q6, c6, rfl, _, hb⟩; have HC6 := hidOg ((((⟨Below.refl _ _, Nat.le_refl _⟩ : Be w5.heap.size w5 w5).al (.cells #[.slice pv nv d] 38)).to hb).al (.cells #[.int .i64 0, .int .i64 0, .slice q6 0 c6] 24)); obtain ⟨z0, z1, z2⟩ := (KS.out _ HC6.out.b).1.cells; clear hb y0 y1 y2)
        | (go_at_call_has 24 q2; refine Calls.mono (CQ2 _ _ _ (KS.out _ HC6.out.b).1.r (KS.out _ HC6.out.b).1.m) ?_; rintro e wy ⟨qy, cy, rfl, _, hb⟩; have HY := hidOg ((HC6.out.to hb).al (.cells #[.int .i64 b1, .int .i64 b2, .slice qy M.length cy] 24)); clear hb))
      go_ret
      exact ⟨rfl, (KS.out _ HY.out.b).2.b⟩
    · have h1 : (R : Int) ≤ row := by omega
      clear hno
      go_wp2_with (first
        | (go_at_call 29; refine Calls.mono (CP _ _ _ _ (B75.out.r.to (bal _ _)) B75.out.m (vrow_one (by rw [← HNV.out]; exact heap_at rfl) (HV.out _ (HB5.out.al _).b))) ?_; rintro e w6 ⟨q6, c6, rfl, _, hb⟩; have HC6 := hidOg ((((⟨Below.refl _ _, Nat.le_refl _⟩ : Be w5.heap.size w5 w5).al (.cells #[.slice pv nv d] 38)).to hb).al (.cells #[.int .i64 0, .int .i64 0, .slice q6 0 c6] 24)); obtain ⟨z0, z1, z2⟩ := (KS.out _ HC6.out.b).1.cells; clear hb y0 y1 y2)
        | (go_at_call_has 24 q2; refine Calls.mono (CQ2 _ _ _ (KS.out _ HC6.out.b).1.r (KS.out _ HC6.out.b).1.m) ?_; rintro e wy ⟨qy, cy, rfl, _, hb⟩; have HY := hidOg ((HC6.out.to hb).al (.cells #[.int .i64 b1, .int .i64 b2, .slice qy M.length cy] 24)); obtain ⟨m0, m1, m2⟩ := (KS.out _ HY.out.b).1.cells; clear hb))
      go_ret
      exact ⟨rfl, (KS.out _ HY.out.b).2.b⟩
end Go.Proofs.Ytkbikngkhaeakaa
