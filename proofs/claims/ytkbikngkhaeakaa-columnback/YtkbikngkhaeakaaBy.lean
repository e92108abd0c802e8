/- ColumnBack: where Swap gives. -/
import Derived.Test.YtkbikngkhaeakaaBo
namespace Go.Proofs.Ytkbikngkhaeakaa
open Go.RowKit

/-- An append at a step of a region that draws its order, whose run is known. -/
theorem step_append_run {P : Program} (w : World) {ops : Array Oper} {o : Oper} {a : Act} {K : Act → World → Prop} {Q : Exit → Act → World → Prop} {E : Prop} (hgd : o.guard = none) (s x : Operand) (t : TypeId)
    (ho : o.op = .call { callee := .builtin .append, args := #[s, x], argTypes := #[t, t] }) (vs vx : Value) (hs : a.eval s = vs) (hx : a.eval x = vx) (ty : TypeId) (hty : o.type = ty) (v' : Value) (w' : World) (hr : (Builtin.append_ #[t, t] ty #[vs, vx]).run P w = .ok v' w')
    (h : K (a.put o.dst v') w') : if Region.wanted o (yielded ops a.tmps) = true then Oper.wp P o a w K Q else E := by
  subst hty
  have hw : Region.wanted o (yielded ops a.tmps) = true := by simp [Region.wanted, hgd]
  rw [if_pos hw]
  unfold Oper.wp execOp
  simp only [ho, resolve, invoke, builtin, Sem.run_bind, Sem.run_pure, Result.andThen_ok, List.map_toArray, List.map_cons, List.map_nil, hs, hx, hr]
  exact h
theorem bd1' {w1 w2 : World} {o : Obj} (hb : Below (w1.drew.alloc o).heap.size (w1.drew.alloc o) w2) : Below w1.heap.size w1 w2 := bd0 (be1 hb)
theorem two_k : 200 ≤ 1000 := by decide
theorem left_ne {X Y : List RR} {A : List (List Int)} {r k : Nat} (hX : lS X = swO A r) (hY : lS Y = A) (hk : k < X.length) (hk' : k < Y.length) (hne : k ≠ r) : rL X k = rL Y k := by
  have hl : k < A.length - 1 := by
    have := congrArg List.length hX
    rw [lS_len, swO_len] at this; omega
  rw [← lS_at hk, ← lS_at hk']
  simp only [hX, hY]
  rw [swO_at hl, if_neg hne]
set_option maxRecDepth 20000 in
set_option maxHeartbeats 8000000 in
theorem back_yes (W R : Nat) (p : Option Addr) (l : List Int) (c : Nat) (r : Nat) (pv : Option Addr) (v : List Int) (d : Nat) (w : World) (h : InR w p l c) (hv : IRow .u64 w.heap.size w pv v) (hvm : v.length ≤ maxLen) (hm : mayB (W : Int) (R : Int) (l.take 60).length = true) (hR : R ≤ 200) (hr : r < R) (hsa : sA (W : Int) (R : Int) (l.take 60) (r : Int) = (((W : Int), ((R - 1 : Nat) : Int), (swO (chK W R (l.take 60)) r).flatten), 0)) :
    Calls Try.prog 6 #[.agg #[.int .i64 (W : Int), .int .i64 (R : Int), .slice p l.length c], .int .i64 (r : Int), .slice pv v.length d] w fun e w' => e = .returned (.bool true) ∧ Below w.heap.size w w' := by
  have CO := fun (X : World) (hb : Below w.heap.size w X) => own10 (W : Int) (R : Int) p l c X (h.to hb)
  have hs : smB (W : Int) (R : Int) (l.take 60).length = true := by unfold smB; simp; omega
  obtain ⟨L, hL⟩ : ∃ L, L = l.take 60 := ⟨_, rfl⟩
  have h60 : L.length ≤ 60 := by rw [hL]; simp; omega
  rw [← hL] at CO hs hm hsa
  have hW4 : W ≤ 4 := by have := (mayB_t hm).2.1; omega
  have hl1 : L.length = W * R := by have := (mayB_t hm).2.2.2.2; exact_mod_cast this
  have h0 := heap_alloc_new w (.cells #[.int .i64 (W : Int), .int .i64 (R : Int), .slice p l.length c] 24)
  have H0 := hidOg h0
  have CS := fun (q : Option Addr) (k : Nat) (X : World) => small17 (W : Int) (R : Int) q L.length k X
  rw [hs] at CS
  have C20 := fun (q : Option Addr) (k : Nat) (X : World) (h1 : Row X q L k) (h2 : k ≤ maxLen) => rows20 (W : Int) (R : Int) q L k X h1 h2 hs
  rw [roS_of hm] at C20
  have CK := fun (q : Option Addr) (k : Nat) (X : World) => check11 (W : Int) (R : Int) q L k X (by unfold maxLen; omega)
  rw [show chkE (W : Int) (R : Int) L = 0 from by unfold chkE; rw [if_pos hm]] at CK
  have CP := fun (q : Option Addr) (k : Nat) (q2 : Option Addr) (X : World) (h1 : Row X q L k) (h2 : k ≤ maxLen) (h3 : VRow X.heap.size X q2 [(pv, v, d)]) => push29 (W : Int) (R : Int) q L k q2 [(pv, v, d)] 1 X h1 h2 h3 (by simp)
  have HV : Hid (∀ X, Below w.heap.size w X → IRow .u64 X.heap.size X pv v) := fun X hb => hv.to hb
  have HB0 : Hid (Be w.heap.size w (w.alloc (.cells #[.int .i64 (W : Int), .int .i64 (R : Int), .slice p l.length c] 24))) := (Be.refl (Nat.le_refl _)).al _
  obtain ⟨nv, hnv⟩ : ∃ nv, nv = v.length := ⟨_, rfl⟩
  have HNV := hidOg hnv
  have HM := hidOg hm
  have HL1 := hidOg hl1
  have HW4 := hidOg hW4
  have HS := hidOg hs
  have hnv63 : nv ≤ 9223372036854775807 := by rw [hnv]; unfold maxLen at hvm; exact hvm
  have hvw := Classical.em (v.length = W)
  rw [← hnv]
  clear h hL hs h0 hm h60 hv hl1 hW4 hnv hvm
  go_enter Try.func6, Try.ntmps6
  go_upto_region 9 with (first
    | (go_at_call 9; refine Calls.mono (wakes9 _) ?_; rintro e w1 ⟨rfl, hb1⟩; obtain ⟨a0, a1, a2, _⟩ := heap3_cell ((hb1.block w.heap.size (by simp)).trans H0.out); have HB1 := hidOg (HB0.out.to hb1); clear hb1)
    | (go_at_call 10; refine Calls.mono (CO _ HB1.out.b) ?_; rintro e w2 ⟨q2, c2, rfl, ho2, hb2⟩; have B7 := hidOg (BC.new (wd := (W : Int)) (rs := (R : Int)) ho2.row ho2.cm); have HB2 := hidOg ((HB1.out.to hb2).al (.cells #[.int .i64 (W : Int), .int .i64 (R : Int), .slice q2 L.length c2] 24)); clear ho2 hb2 a0 a1 a2)
    | (go_at_call 17; refine Calls.mono (CS _ _ _) ?_; rintro e w3 ⟨rfl, hb3⟩; have B73 := hidOg (B7.out.to hb3); obtain ⟨y0, y1, y2⟩ := B73.out.cells; have HB3 := hidOg (HB2.out.to hb3); clear hb3)
    | (go_at_call 20; refine Calls.mono (C20 _ _ _ B73.out.r B73.out.m) ?_; rintro e w4 ⟨q4, c4, X4, rfl, hX, hRX, hb4⟩; have HX4 := hidOg hX; have HRX := hidOg hRX; have B74 := hidOg (B73.out.to hb4); obtain ⟨z0, z1, z2⟩ := B74.out.cells; have HB4 := hidOg (HB3.out.to hb4); clear hb4 hX hRX y0 y1 y2)
    | (go_at_call 11; refine Calls.mono (CK _ _ _) ?_; rintro e w5 ⟨rfl, hb5⟩; have HB5 := hidOg (HB4.out.to hb5); have B75 := hidOg (B74.out.to hb5); have HRX5 := hidOg (HRX.out.to hb5); clear hb5 z0 z1 z2))
  have KS : Hid (∀ X, Below w5.heap.size w5 X → BC w2.heap.size (W : Int) (R : Int) q2 L c2 X ∧ Be w.heap.size w X) := fun X hb => ⟨B75.out.to hb, HB5.out.to hb⟩
  obtain ⟨y0, y1, y2⟩ := B75.out.cells
  clear CO CS C20 CK B7 B73 B74 HB0 HB1 HB2 HB3 HB4 HRX H0
  have CQ2 := fun (q : Option Addr) (k : Nat) (X : World) (h1 : Row X q L k) (h2 : k ≤ maxLen) => swap24 (W : Int) (R : Int) q L k (r : Int) X h1 h2
  rw [hsa] at CQ2
  obtain ⟨p1, p2⟩ := left_rows HL1.out hr
  have hmy := mayB_nat HW4.out (show R - 1 ≤ 1048578 by omega) p1
  obtain ⟨i2, hi2⟩ : ∃ i : Int, i = ((R - 1 : Nat) : Int) := ⟨_, rfl⟩
  have C15 := fun (q : Option Addr) (k : Nat) (X : World) (h1 : Row X q ((swO (chK W R L) r).flatten) k) (h2 : k ≤ maxLen) => rows20 (W : Int) ((R - 1 : Nat) : Int) q ((swO (chK W R L) r).flatten) k X h1 h2 (by unfold smB; simp; omega)
  rw [roS_of hmy, p2] at C15
  have CK2 := fun (q : Option Addr) (k : Nat) (X : World) => check11 (W : Int) ((R - 1 : Nat) : Int) q ((swO (chK W R L) r).flatten) k X (by rw [p1]; have := Nat.mul_le_mul HW4.out (show R - 1 ≤ 200 by omega); unfold maxLen; omega)
  rw [show chkE (W : Int) ((R - 1 : Nat) : Int) ((swO (chK W R L) r).flatten) = 0 from by unfold chkE; rw [if_pos hmy]] at CK2
  rw [← hi2] at CQ2 C15 CK2
  obtain ⟨La, hLa⟩ : ∃ La, La = (swO (chK W R L) r).flatten := ⟨_, rfl⟩
  rw [← hLa] at CQ2 C15 CK2
  have HFEW : Hid (∀ X : List RR, (lS X).Perm (chK W R L) → X.length ≤ 1000 ∧ ∀ x ∈ X, x.2.1.length ≤ 1000) := fun X h => few_of h (by rw [chK_len]; omega) (fun y hy => by rw [chK_mem HL1.out hy]; have := HW4.out; omega)
  have HA0l : Hid ((chK W R L).length = R) := chK_len _ _ _
  obtain ⟨A0, hA0⟩ : ∃ A0, A0 = chK W R L := ⟨_, rfl⟩
  rw [← hA0] at HFEW C15 HX4 HA0l
  have HRr := hidOg hr
  clear hsa p1 p2 hmy hi2 hLa hA0 hr
  rcases hvw with hvw | hvw
  · obtain ⟨i1, hi1⟩ : ∃ i : Int, i = ((R + 1 : Nat) : Int) := ⟨_, rfl⟩
    have hpu := pu_yes (pv := pv) (d := d) HM.out hR hvw
    have hsp := sw_pushed HW4.out hR HL1.out hvw
    have hgp := get_pushed HW4.out hR HL1.out hvw
    obtain ⟨p1, p2⟩ := push_one HL1.out hvw
    have hck : chkE (W : Int) i1 (L ++ v) = 0 := by rw [hi1]; unfold chkE; rw [if_pos (mayB_nat HW4.out (by omega) p1)]
    rw [← hi1] at hpu hsp hgp
    rw [hpu] at CP
    obtain ⟨Lp, hLp⟩ : ∃ Lp, Lp = L ++ v := ⟨_, rfl⟩
    rw [← hLp] at CP hsp hgp hck p1
    have CQ := fun (q : Option Addr) (k : Nat) (X : World) (h1 : Row X q Lp k) (h2 : k ≤ maxLen) => swap24 (W : Int) i1 q Lp k (R : Int) X h1 h2
    rw [hsp] at CQ
    have CG := fun (q : Option Addr) (k : Nat) (X : World) (h1 : Row X q Lp k) (h2 : k ≤ maxLen) => get23 (W : Int) i1 q Lp k (R : Int) X h1 h2
    rw [hgp] at CG
    replace CG : ∀ (q : Option Addr) (k : Nat) (X : World), Row X q Lp k → k ≤ maxLen → Calls Try.prog 23 #[.agg #[.int .i64 (W : Int), .int .i64 i1, .slice q Lp.length k], .int .i64 (R : Int)] X fun e w' => ∃ q' c', e = .returned (.tuple #[.slice q' nv c', .int .i64 0]) ∧ OwnR X.heap.size w' q' v c' ∧ Below X.heap.size X w' := by rw [HNV.out]; exact CG
    have CK := fun (q : Option Addr) (k : Nat) (X : World) => check11 (W : Int) i1 q Lp k X (by rw [p1]; have := Nat.mul_le_mul HW4.out (show R + 1 ≤ 201 by omega); unfold maxLen; omega)
    rw [hck] at CK
    have CX := fun (q : Option Addr) (k : Nat) (X : World) (h1 : Row X q L k) (h2 : Row X q2 L c2) => same13 (W : Int) (R : Int) q L k (W : Int) (R : Int) q2 L c2 X h1.i h2.i (by rw [HL1.out]; have := Nat.mul_le_mul HW4.out hR; omega)
    rw [samC_refl] at CX
    have CE := fun (q : Option Addr) (k : Nat) (X : World) (h1 : IRow .u64 X.heap.size X q v) (h2 : IRow .u64 X.heap.size X pv v) => equal21 q v k pv v d X h1 h2 (by rw [hvw]; have := HW4.out; omega)
    rw [samI_refl] at CE
    rw [← HNV.out] at CE
    have HVW : Hid (nv = W) := HNV.out.trans hvw
    clear hpu hsp hgp p1 p2 hck hLp hvw hi1
    go_wp2_with (first
      | (go_at_call 29; refine Calls.mono (CP _ _ _ _ (B75.out.r.to (bal _ _)) B75.out.m (vrow_one (by rw [← HNV.out]; exact heap_at rfl) (HV.out _ (HB5.out.al _).b))) ?_; rintro e w6 ⟨q6, c6, rfl, ho, hb⟩; have B9 := hidOg (BC.new (wd := (W : Int)) (rs := i1) ho.row ho.cm); have HC6 := hidOg ((((⟨Below.refl _ _, Nat.le_refl _⟩ : Be w5.heap.size w5 w5).al (.cells #[.slice pv nv d] 38)).to hb).al (.cells #[.int .i64 (W : Int), .int .i64 i1, .slice q6 Lp.length c6] 24)); obtain ⟨z0, z1, z2⟩ := (KS.out _ HC6.out.b).1.cells; clear ho hb y0 y1 y2)
      | (go_at_call_has 24 q6; refine Calls.mono (CQ _ _ _ B9.out.r B9.out.m) ?_; rintro e w7 ⟨q7, c7, rfl, ho, hb⟩; have hx := bal w7 (.cells #[.int .i64 (W : Int), .int .i64 (R : Int), .slice q7 L.length c7] 24); have B97 := hidOg ((B9.out.to hb).to hx); have B11 := hidOg (BC.new (wd := (W : Int)) (rs := (R : Int)) ho.row ho.cm); have HC7 := hidOg ((HC6.out.to hb).al (.cells #[.int .i64 (W : Int), .int .i64 (R : Int), .slice q7 L.length c7] 24)); obtain ⟨x0, x1, x2⟩ := B97.out.cells; obtain ⟨t0, t1, t2⟩ := (KS.out _ HC7.out.b).1.cells; clear ho hb hx z0 z1 z2)
      | (go_at_call_has 23 q6; refine Calls.mono (CG _ _ _ B97.out.r B97.out.m) ?_; rintro e w8 ⟨q8, c8, rfl, ho, hb⟩; have B98 := hidOg (B97.out.to hb); have B118 := hidOg (B11.out.to hb); have HO8 := hidOg ho.row; have HC8 := hidOg (HC7.out.to hb); obtain ⟨g0, g1, g2⟩ := B118.out.cells; obtain ⟨t0, t1, t2⟩ := (KS.out _ HC8.out.b).1.cells; clear ho hb x0 x1 x2)
      | (go_at_call 13; refine Calls.mono (CX _ _ _ B118.out.r (KS.out _ HC8.out.b).1.r) ?_; rintro e w9 ⟨rfl, hb⟩; have B99 := hidOg (B98.out.to hb); have HO9 := hidOg (HO8.out.to hb); have HC9 := hidOg (HC8.out.to hb); clear hb)
      | (go_at_call 21; refine Calls.mono (CE _ _ _ HO9.out.i (HV.out _ (KS.out _ HC9.out.b).2.b)) ?_; rintro e w10 ⟨rfl, hb⟩; have B910 := hidOg (B99.out.to hb); have HC10 := hidOg (HC9.out.to hb); obtain ⟨x0, x1, x2⟩ := B910.out.cells; clear hb)
      | (go_at_call_has 11 q6; refine Calls.mono (CK _ _ _) ?_; rintro e w11 ⟨rfl, hb⟩; have HC11 := hidOg (HC10.out.to hb); obtain ⟨n0, n1, n2⟩ := (KS.out _ HC11.out.b).1.cells; clear hb)
      | (go_at_call_has 24 q2; refine Calls.mono (CQ2 _ _ _ (KS.out _ HC11.out.b).1.r (KS.out _ HC11.out.b).1.m) ?_; rintro e wy ⟨qy, cy, rfl, ho, hb⟩; have B15 := hidOg (BC.new (wd := (W : Int)) (rs := i2) ho.row ho.cm); have HY := hidOg ((HC11.out.to hb).al (.cells #[.int .i64 (W : Int), .int .i64 i2, .slice qy La.length cy] 24)); clear ho hb)
      | (go_at_call_has 20 qy; refine Calls.mono (C15 _ _ _ B15.out.r B15.out.m) ?_; rintro e wz ⟨qz, cz, XB, rfl, hXB, hRB, hb⟩; have HXB := hidOg hXB; have HRB := hidOg (hRB.base (Nat.zero_le _)); have B15z := hidOg (B15.out.to hb); have HZ := hidOg (HY.out.to hb); have HRX6 := hidOg (HRX5.out.to HZ.out.b); clear hXB hRB hb))
    have hl4 : X4.length = R := by rw [← lS_len, HX4.out, HA0l.out]
    have hlB : XB.length = R - 1 := by rw [← lS_len, HXB.out, swO_len, HA0l.out]
    have hr4 : r < X4.length := by rw [hl4]; exact HRr.out
    obtain ⟨G4, rfl, _, hG4, hc4, _⟩ := HRX6.out.cells hr4
    have hel : (gR X4 r).2.1 = A0[r]'(by rw [HA0l.out]; exact HRr.out) := by
      rw [gR_lS hr4]; simp only [HX4.out]
    have hE0 : OwnR 0 wz (gR X4 r).1 (gR X4 r).2.1 (gR X4 r).2.2 := HRX6.out.t _ (by rw [gR_eq hr4]; exact List.getElem_mem _)
    obtain ⟨⟨ep, el, ec⟩, he⟩ : ∃ e, e = gR X4 r := ⟨_, rfl⟩
    rw [← he] at hc4 hel hE0
    simp only at hc4 hel hE0
    have HPB : Hid ((lS XB ++ [el]).Perm A0) := by rw [HXB.out, hel]; exact swO_perm (by rw [HA0l.out]; exact HRr.out)
    have hb200 : XB.length ≤ 200 := by rw [hlB]; omega
    have KEY : Hid (∀ (vc : World) (qc : Option Addr) (cc : Nat), RV wz.heap.size XB qc cc vc → Below wz.heap.size wz vc → ∃ (Y : List RR) (pY : Option Addr) (cY : Nat) (wY : World), (Builtin.append_ #[35, 35] 35 #[.slice qc XB.length cc, .slice (some ⟨vc.heap.size, 0, none⟩) 1 1]).run Try.prog (vc.alloc (.cells #[.slice ep el.length ec] 38)) = .ok (.slice pY Y.length cY) wY ∧ Hid ((lS Y).Perm A0) ∧ Hid (RV 0 Y pY cY wY) ∧ Hid (Below wz.heap.size wz wY)) := fun vc qc cc ho hb => by
      obtain ⟨p', c', w', hrun, hR, hg⟩ := app_rv (vc.alloc (.cells #[.slice ep el.length ec] 38)) 35 wz.heap.size qc XB cc [(ep, el, ec)] ⟨vc.heap.size, 0, none⟩ 1 (ho.to (bal _ _)) (cell_new1 vc _ 38) (fun x hx => by rw [List.mem_singleton.1 hx]; exact (hE0.to hb).to (bal _ _)) (by simp; omega) (Nat.le_trans hb.size (bal vc _).size)
      exact ⟨_, p', c', w', hrun, by rw [show lS (XB ++ [(ep, el, ec)]) = lS XB ++ [el] by simp [lS]]; exact HPB.out, hR.base (Nat.zero_le _), (hb.trans ((Below.refl _ _).alloc hb.size _)).trans (grown_bel (Below.refl _ _) (fun a ha => owns_fresh ho.o a ha) (Nat.le_trans hb.size (bal vc _).size) hg)⟩
    have KEY2 : Hid (∀ (vc : World) (qc : Option Addr) (cc : Nat), RV (wz.drew.alloc (.cells #[.slice ep el.length ec] 38)).heap.size XB qc cc vc → Below (wz.drew.alloc (.cells #[.slice ep el.length ec] 38)).heap.size (wz.drew.alloc (.cells #[.slice ep el.length ec] 38)) vc → ∃ (Y : List RR) (pY : Option Addr) (cY : Nat) (wY : World), (Builtin.append_ #[35, 35] 35 #[.slice qc XB.length cc, .slice (some ⟨wz.heap.size, 0, none⟩) 1 1]).run Try.prog vc = .ok (.slice pY Y.length cY) wY ∧ Hid ((lS Y).Perm A0) ∧ Hid (RV 0 Y pY cY wY) ∧ Hid (Below wz.heap.size wz wY)) := fun vc qc cc ho hb => by
      have hsz : wz.heap.size ≤ (wz.drew.alloc (.cells #[.slice ep el.length ec] 38)).heap.size := by rw [World.size_alloc]; exact Nat.le_succ _
      have ho2 := ho.base hsz
      have hb0 : Below wz.heap.size wz vc := bd1' hb
      obtain ⟨p', c', w', hrun, hR, hg⟩ := app_rv vc 35 wz.heap.size qc XB cc [(ep, el, ec)] ⟨wz.heap.size, 0, none⟩ 1 ho2 (fun j u hj => by
        have hj0 : j = 0 := by have := (List.getElem?_eq_some_iff.1 hj).1; simp at this; exact this
        subst hj0
        rw [addr_add]
        have h1 : (wz.drew.alloc (.cells #[.slice ep el.length ec] 38)).cell? ⟨wz.heap.size, 0, none⟩ = some (.slice ep el.length ec) := cell1_heap (heap_alloc_new wz.drew _)
        have h2 := (hb.cell (p := ⟨wz.heap.size, 0, none⟩) (by rw [World.size_alloc]; exact Nat.lt_succ_self _)).trans h1
        rw [h2]; simpa [vR] using hj) (fun x hx => by rw [List.mem_singleton.1 hx]; exact hE0.to hb0) (by simp; omega) hb0.size
      exact ⟨_, p', c', w', hrun, by rw [show lS (XB ++ [(ep, el, ec)]) = lS XB ++ [el] by simp [lS]]; exact HPB.out, hR.base (Nat.zero_le _), hb0.trans (grown_bel (Below.refl _ _) (fun a ha => owns_fresh ho2.o a ha) hb0.size hg)⟩
    have KZ : Hid (∀ X, Below wz.heap.size wz X → X.cell? ⟨G4, r, none⟩ = some (.slice ep el.length ec)) := fun X hb => (hb.cell (p := ⟨G4, r, none⟩) hG4).trans hc4
    have HRBd := hidOg (HRB.out.to ((Below.refl _ wz).drew))
    have HRBe := hidOg (HRBd.out.to (bal _ (.cells #[.slice ep el.length ec] 38)))
    have HB2 := hidOg hb200
    have HLB := hidOg hlB
    have HL4 := hidOg hl4
    have hd : ((XB.length : Int) != (X4.length : Int) - 1) = false := by rw [hlB, hl4]; have := HRr.out; simp; omega
    have h4b : X4.length ≤ 1000 := by omega
    have hri0 : (0 : Int) ≤ (r : Int) := by omega
    have hri1 : (r : Int) < (X4.length : Int) := by omega
    have hri2 : (r : Int) ≤ (X4.length : Int) := by omega
    clear hel hE0 he hl4 hlB hr4 hb200 CP CQ2 C15
    first | (go_region_held3 (fun w' => w'.cell? ⟨G4, r, none⟩ = some (.slice ep el.length ec)) (first | with_reducible exact k0 | with_reducible exact kY | go_keep) (first
      | (go_at_call 31; refine Calls.mono (clone31 _ _ _ _ HRBd.out (Nat.le_trans HB2.out two_k)) ?_; rintro e vc ⟨qc, cc, rfl, hRC, hb⟩; obtain ⟨Y, pY, cY, wY, hrun, HPY, HRY, HBY⟩ := KEY.out vc qc cc hRC (bd0 hb); have k0 := KZ.out _ (bd0 hb); have kY := KZ.out _ HBY.out; clear hRC hb)
      | (go_at_call 31; refine Calls.mono (clone31 _ _ _ _ HRBe.out (Nat.le_trans HB2.out two_k)) ?_; rintro e vc ⟨qc, cc, rfl, hRC, hb⟩; obtain ⟨Y, pY, cY, wY, hrun, HPY, HRY, HBY⟩ := KEY2.out vc qc cc hRC hb; have k0 := KZ.out _ (bd1' hb); have kY := KZ.out _ HBY.out; clear hRC hb)
      | (refine step_append_run _ (by rfl) _ _ 35 (by rfl) _ _ (by rfl) (by rfl) 35 (by rfl) _ wY hrun ?_)
      | fail)) | fail
    all_goals
      have KK : Hid (∀ X, Below wz.heap.size wz X → RV 0 X4 (some ⟨G4, 0, none⟩) c4 X ∧ RV 0 XB qz cz X ∧ BC wy.heap.size (W : Int) i2 qy La cy X ∧ Be w.heap.size w X) := fun X hb => ⟨(HRX6.out.to hb).base (Nat.zero_le _), HRB.out.to hb, B15z.out.to hb, (KS.out _ (HZ.out.to hb).b).2⟩
      have HP4 : Hid ((lS X4).Perm A0) := by rw [HX4.out]; exact List.Perm.refl _
      have HWY : Hid (Below wY.heap.size wY wY.drew) := (Below.refl _ _).drew
      have HNE : Hid (∀ k, k < XB.length → k ≠ r → rL XB k = rL X4 k) := fun k hk hne => left_ne HXB.out HX4.out hk (by rw [HL4.out]; rw [HLB.out] at hk; omega) hne
      have HLE : Hid (∀ k, k < XB.length → k ≠ r → (rL XB k).length ≤ 1000) := fun k hk hne => by
        rw [HNE.out k hk hne]
        have hk4 : k < X4.length := by rw [HL4.out]; rw [HLB.out] at hk; omega
        have := (HFEW.out _ HP4.out).2 _ (List.getElem_mem hk4)
        simpa [rL, hk4] using this
      clear HRB HRX6 B15z HXB HX4 hrun KZ KEY KEY2 k0 kY hc4 HRBe HRBd
      go_wp2_with (first
        | (go_at_call_has 32 pY; refine Calls.mono (sort_ord _ _ _ _ HRY.out (HFEW.out _ HPY.out).1 (HFEW.out _ HPY.out).2) ?_; rintro e v3 ⟨qs, cs, XS, rfl, hps, hos, hrs, hb⟩; have HD3 := hidOg (HBY.out.trans (hb.mono HBY.out.size)); have HPS : Hid ((lS XS).Perm A0) := (lS_perm hps).trans HPY.out; have HOS := hidOg hos; have HRS := hidOg hrs; clear hps hos hrs hb)
        | (go_at_call_has 32 c4; refine Calls.mono (sort_ord _ _ _ _ (KK.out _ HD3.out).1 (HFEW.out _ HP4.out).1 (HFEW.out _ HP4.out).2) ?_; rintro e v4 ⟨qt, ct, YS, rfl, hps, hos, hrs, hb⟩; have HD4 := hidOg (HD3.out.trans (hb.mono HD3.out.size)); have HPT : Hid ((lS YS).Perm A0) := (lS_perm hps).trans HP4.out; have HOT := hidOg hos; have HRT := hidOg hrs; have HRS4 := hidOg (HRS.out.to hb); clear hps hos hrs hb)
        | (go_at_call 19; refine Calls.mono (eqf_yes _ _ _ _ _ _ _ HRS4.out HRT.out (HFEW.out _ HPS.out).1 (HFEW.out _ HPS.out).2 (ord_eq HOS.out HOT.out (HPS.out.trans HPT.out.symm))) ?_; rintro e v5 ⟨rfl, hb⟩; have HD5 := hidOg (HD4.out.trans (hb.mono HD4.out.size)); obtain ⟨f0, f1, f2⟩ := (KK.out _ HD5.out).2.2.1.cells; clear hb)
        | (go_at_call_has 11 qy; refine Calls.mono (CK2 _ _ _) ?_; rintro e v6 ⟨rfl, hb⟩; have HD6 := hidOg (HD5.out.trans (hb.mono HD5.out.size)); clear hb f0 f1 f2))
      go_loopw [134] (fun i wr => ∃ k : Nat, k ≤ XB.length ∧ i = .int .i64 k ∧ Below wz.heap.size wz wr) (fun i _ => XB.length - (intOf i).toNat)
      case atStart => exact ⟨0, Nat.zero_le _, rfl, HD6.out⟩
      case round =>
        obtain ⟨k, hk, rfl, hB⟩ := hrel
        have HB := hidOg hB
        have hb2 := HB2.out
        clear hd
        by_cases hlt : k < XB.length
        · obtain ⟨b, off, hq, hbN, hcs⟩ := (KK.out _ hB).2.1.row (by omega)
          subst hq
          obtain ⟨c0, hI⟩ := hcs k hlt
          clear hB hcs
          by_cases hkr : k = r
          · subst hkr
            have hd : ((k : Int) != (k : Int)) = false := by simp
            go_wp2
            go_roundw
            case rel => exact ⟨k + 1, by omega, by go_num, HB.out⟩
            case measure => simp [intOf]; omega
          · have hd : ((k : Int) != (r : Int)) = true := by simp; omega
            have hk4 : k < X4.length := by rw [HL4.out]; rw [HLB.out] at hlt; omega
            obtain ⟨b', off', hq', hbN', hcs'⟩ := (KK.out _ HB.out).1.row (by omega)
            obtain ⟨c0', hI'⟩ := hcs' k hk4
            injection hq' with hq'
            injection hq' with e1 e2
            subst e1 e2
            have CE1 := equal21 (rP XB k) (rL XB k) (rC XB k) (rP X4 k) (rL X4 k) (rC X4 k) wr hI hI' (by have := HLE.out k hlt hkr; omega)
            rw [← HNE.out k hlt hkr, samI_refl] at CE1
            rw [← HNE.out k hlt hkr] at c0'
            rw [Nat.zero_add] at c0'
            have hk41 : (k : Int) < (X4.length : Int) := by omega
            have hk42 : (k : Int) ≤ (X4.length : Int) := by omega
            clear hI hI' hcs' hbN'
            go_wp2_with (first | (go_at_call 21; refine Calls.mono CE1 ?_; rintro e v7 ⟨rfl, hb⟩; have HB7 := hidOg (HB.out.trans (hb.mono HB.out.size)); clear hb))
            go_roundw
            case rel => exact ⟨k + 1, by omega, by go_num, HB7.out⟩
            case measure => simp [intOf]; omega
        · obtain rfl : k = XB.length := by omega
          go_wp2
          go_ret
          exact ⟨rfl, (KK.out _ HB.out).2.2.2.b⟩
  · have hpu := pu_no (pv := pv) (d := d) HM.out hvw
    rw [hpu] at CP
    replace CP : ∀ (q : Option Addr) (k : Nat) (q2 : Option Addr) (X : World), Row X q L k → k ≤ maxLen → VRow X.heap.size X q2 [(pv, v, d)] → Calls Try.prog 29 #[.agg #[.int .i64 (W : Int), .int .i64 (R : Int), .slice q L.length k], .slice q2 1 1] X fun e w' => ∃ q' c', e = .returned (.tuple #[.agg #[.int .i64 0, .int .i64 0, .slice q' 0 c'], .int .i64 140]) ∧ OwnR X.heap.size w' q' [] c' ∧ Below X.heap.size X w' := CP
    have d1 : ((nv : Int) == (W : Int)) = false := by rw [HNV.out]; simp; omega
    clear hpu hvw
    go_wp2_with (first
      | (go_at_call 29; refine Calls.mono (CP _ _ _ _ (B75.out.r.to (bal _ _)) B75.out.m (vrow_one (by rw [← HNV.out]; exact heap_at rfl) (HV.out _ (HB5.out.al _).b))) ?_; rintro e w6 ⟨q6, c6, rfl, _, hb⟩; have HC6 := hidOg ((((⟨Below.refl _ _, Nat.le_refl _⟩ : Be w5.heap.size w5 w5).al (.cells #[.slice pv nv d] 38)).to hb).al (.cells #[.int .i64 0, .int .i64 0, .slice q6 0 c6] 24)); obtain ⟨z0, z1, z2⟩ := (KS.out _ HC6.out.b).1.cells; clear hb y0 y1 y2)
      | (go_at_call_has 24 q2; refine Calls.mono (CQ2 _ _ _ (KS.out _ HC6.out.b).1.r (KS.out _ HC6.out.b).1.m) ?_; rintro e wy ⟨qy, cy, rfl, ho, hb⟩; have B15 := hidOg (BC.new (wd := (W : Int)) (rs := i2) ho.row ho.cm); have HY := hidOg ((HC6.out.to hb).al (.cells #[.int .i64 (W : Int), .int .i64 i2, .slice qy La.length cy] 24)); clear ho hb)
      | (go_at_call_has 20 qy; refine Calls.mono (C15 _ _ _ B15.out.r B15.out.m) ?_; rintro e wz ⟨qz, cz, XB, rfl, hXB, hRB, hb⟩; have HXB := hidOg hXB; have HRB := hidOg (hRB.base (Nat.zero_le _)); have B15z := hidOg (B15.out.to hb); have HZ := hidOg (HY.out.to hb); have HRX6 := hidOg (HRX5.out.to HZ.out.b); clear hXB hRB hb))
    have hl4 : X4.length = R := by rw [← lS_len, HX4.out, HA0l.out]
    have hlB : XB.length = R - 1 := by rw [← lS_len, HXB.out, swO_len, HA0l.out]
    have hr4 : r < X4.length := by rw [hl4]; exact HRr.out
    obtain ⟨G4, rfl, _, hG4, hc4, _⟩ := HRX6.out.cells hr4
    have hel : (gR X4 r).2.1 = A0[r]'(by rw [HA0l.out]; exact HRr.out) := by
      rw [gR_lS hr4]; simp only [HX4.out]
    have hE0 : OwnR 0 wz (gR X4 r).1 (gR X4 r).2.1 (gR X4 r).2.2 := HRX6.out.t _ (by rw [gR_eq hr4]; exact List.getElem_mem _)
    obtain ⟨⟨ep, el, ec⟩, he⟩ : ∃ e, e = gR X4 r := ⟨_, rfl⟩
    rw [← he] at hc4 hel hE0
    simp only at hc4 hel hE0
    have HPB : Hid ((lS XB ++ [el]).Perm A0) := by rw [HXB.out, hel]; exact swO_perm (by rw [HA0l.out]; exact HRr.out)
    have hb200 : XB.length ≤ 200 := by rw [hlB]; omega
    have KEY : Hid (∀ (vc : World) (qc : Option Addr) (cc : Nat), RV wz.heap.size XB qc cc vc → Below wz.heap.size wz vc → ∃ (Y : List RR) (pY : Option Addr) (cY : Nat) (wY : World), (Builtin.append_ #[35, 35] 35 #[.slice qc XB.length cc, .slice (some ⟨vc.heap.size, 0, none⟩) 1 1]).run Try.prog (vc.alloc (.cells #[.slice ep el.length ec] 38)) = .ok (.slice pY Y.length cY) wY ∧ Hid ((lS Y).Perm A0) ∧ Hid (RV 0 Y pY cY wY) ∧ Hid (Below wz.heap.size wz wY)) := fun vc qc cc ho hb => by
      obtain ⟨p', c', w', hrun, hR, hg⟩ := app_rv (vc.alloc (.cells #[.slice ep el.length ec] 38)) 35 wz.heap.size qc XB cc [(ep, el, ec)] ⟨vc.heap.size, 0, none⟩ 1 (ho.to (bal _ _)) (cell_new1 vc _ 38) (fun x hx => by rw [List.mem_singleton.1 hx]; exact (hE0.to hb).to (bal _ _)) (by simp; omega) (Nat.le_trans hb.size (bal vc _).size)
      exact ⟨_, p', c', w', hrun, by rw [show lS (XB ++ [(ep, el, ec)]) = lS XB ++ [el] by simp [lS]]; exact HPB.out, hR.base (Nat.zero_le _), (hb.trans ((Below.refl _ _).alloc hb.size _)).trans (grown_bel (Below.refl _ _) (fun a ha => owns_fresh ho.o a ha) (Nat.le_trans hb.size (bal vc _).size) hg)⟩
    have KEY2 : Hid (∀ (vc : World) (qc : Option Addr) (cc : Nat), RV (wz.drew.alloc (.cells #[.slice ep el.length ec] 38)).heap.size XB qc cc vc → Below (wz.drew.alloc (.cells #[.slice ep el.length ec] 38)).heap.size (wz.drew.alloc (.cells #[.slice ep el.length ec] 38)) vc → ∃ (Y : List RR) (pY : Option Addr) (cY : Nat) (wY : World), (Builtin.append_ #[35, 35] 35 #[.slice qc XB.length cc, .slice (some ⟨wz.heap.size, 0, none⟩) 1 1]).run Try.prog vc = .ok (.slice pY Y.length cY) wY ∧ Hid ((lS Y).Perm A0) ∧ Hid (RV 0 Y pY cY wY) ∧ Hid (Below wz.heap.size wz wY)) := fun vc qc cc ho hb => by
      have hsz : wz.heap.size ≤ (wz.drew.alloc (.cells #[.slice ep el.length ec] 38)).heap.size := by rw [World.size_alloc]; exact Nat.le_succ _
      have ho2 := ho.base hsz
      have hb0 : Below wz.heap.size wz vc := bd1' hb
      obtain ⟨p', c', w', hrun, hR, hg⟩ := app_rv vc 35 wz.heap.size qc XB cc [(ep, el, ec)] ⟨wz.heap.size, 0, none⟩ 1 ho2 (fun j u hj => by
        have hj0 : j = 0 := by have := (List.getElem?_eq_some_iff.1 hj).1; simp at this; exact this
        subst hj0
        rw [addr_add]
        have h1 : (wz.drew.alloc (.cells #[.slice ep el.length ec] 38)).cell? ⟨wz.heap.size, 0, none⟩ = some (.slice ep el.length ec) := cell1_heap (heap_alloc_new wz.drew _)
        have h2 := (hb.cell (p := ⟨wz.heap.size, 0, none⟩) (by rw [World.size_alloc]; exact Nat.lt_succ_self _)).trans h1
        rw [h2]; simpa [vR] using hj) (fun x hx => by rw [List.mem_singleton.1 hx]; exact hE0.to hb0) (by simp; omega) hb0.size
      exact ⟨_, p', c', w', hrun, by rw [show lS (XB ++ [(ep, el, ec)]) = lS XB ++ [el] by simp [lS]]; exact HPB.out, hR.base (Nat.zero_le _), hb0.trans (grown_bel (Below.refl _ _) (fun a ha => owns_fresh ho2.o a ha) hb0.size hg)⟩
    have KZ : Hid (∀ X, Below wz.heap.size wz X → X.cell? ⟨G4, r, none⟩ = some (.slice ep el.length ec)) := fun X hb => (hb.cell (p := ⟨G4, r, none⟩) hG4).trans hc4
    have HRBd := hidOg (HRB.out.to ((Below.refl _ wz).drew))
    have HRBe := hidOg (HRBd.out.to (bal _ (.cells #[.slice ep el.length ec] 38)))
    have HB2 := hidOg hb200
    have HLB := hidOg hlB
    have HL4 := hidOg hl4
    have hd : ((XB.length : Int) != (X4.length : Int) - 1) = false := by rw [hlB, hl4]; have := HRr.out; simp; omega
    have h4b : X4.length ≤ 1000 := by omega
    have hri0 : (0 : Int) ≤ (r : Int) := by omega
    have hri1 : (r : Int) < (X4.length : Int) := by omega
    have hri2 : (r : Int) ≤ (X4.length : Int) := by omega
    clear hel hE0 he hl4 hlB hr4 hb200 CP CQ2 C15
    first | (go_region_held3 (fun w' => w'.cell? ⟨G4, r, none⟩ = some (.slice ep el.length ec)) (first | with_reducible exact k0 | with_reducible exact kY | go_keep) (first
      | (go_at_call 31; refine Calls.mono (clone31 _ _ _ _ HRBd.out (Nat.le_trans HB2.out two_k)) ?_; rintro e vc ⟨qc, cc, rfl, hRC, hb⟩; obtain ⟨Y, pY, cY, wY, hrun, HPY, HRY, HBY⟩ := KEY.out vc qc cc hRC (bd0 hb); have k0 := KZ.out _ (bd0 hb); have kY := KZ.out _ HBY.out; clear hRC hb)
      | (go_at_call 31; refine Calls.mono (clone31 _ _ _ _ HRBe.out (Nat.le_trans HB2.out two_k)) ?_; rintro e vc ⟨qc, cc, rfl, hRC, hb⟩; obtain ⟨Y, pY, cY, wY, hrun, HPY, HRY, HBY⟩ := KEY2.out vc qc cc hRC hb; have k0 := KZ.out _ (bd1' hb); have kY := KZ.out _ HBY.out; clear hRC hb)
      | (refine step_append_run _ (by rfl) _ _ 35 (by rfl) _ _ (by rfl) (by rfl) 35 (by rfl) _ wY hrun ?_)
      | fail)) | fail
    all_goals
      have KK : Hid (∀ X, Below wz.heap.size wz X → RV 0 X4 (some ⟨G4, 0, none⟩) c4 X ∧ RV 0 XB qz cz X ∧ BC wy.heap.size (W : Int) i2 qy La cy X ∧ Be w.heap.size w X) := fun X hb => ⟨(HRX6.out.to hb).base (Nat.zero_le _), HRB.out.to hb, B15z.out.to hb, (KS.out _ (HZ.out.to hb).b).2⟩
      have HP4 : Hid ((lS X4).Perm A0) := by rw [HX4.out]; exact List.Perm.refl _
      have HWY : Hid (Below wY.heap.size wY wY.drew) := (Below.refl _ _).drew
      have HNE : Hid (∀ k, k < XB.length → k ≠ r → rL XB k = rL X4 k) := fun k hk hne => left_ne HXB.out HX4.out hk (by rw [HL4.out]; rw [HLB.out] at hk; omega) hne
      have HLE : Hid (∀ k, k < XB.length → k ≠ r → (rL XB k).length ≤ 1000) := fun k hk hne => by
        rw [HNE.out k hk hne]
        have hk4 : k < X4.length := by rw [HL4.out]; rw [HLB.out] at hk; omega
        have := (HFEW.out _ HP4.out).2 _ (List.getElem_mem hk4)
        simpa [rL, hk4] using this
      clear HRB HRX6 B15z HXB HX4 hrun KZ KEY KEY2 k0 kY hc4 HRBe HRBd
      go_wp2_with (first
        | (go_at_call_has 32 pY; refine Calls.mono (sort_ord _ _ _ _ HRY.out (HFEW.out _ HPY.out).1 (HFEW.out _ HPY.out).2) ?_; rintro e v3 ⟨qs, cs, XS, rfl, hps, hos, hrs, hb⟩; have HD3 := hidOg (HBY.out.trans (hb.mono HBY.out.size)); have HPS : Hid ((lS XS).Perm A0) := (lS_perm hps).trans HPY.out; have HOS := hidOg hos; have HRS := hidOg hrs; clear hps hos hrs hb)
        | (go_at_call_has 32 c4; refine Calls.mono (sort_ord _ _ _ _ (KK.out _ HD3.out).1 (HFEW.out _ HP4.out).1 (HFEW.out _ HP4.out).2) ?_; rintro e v4 ⟨qt, ct, YS, rfl, hps, hos, hrs, hb⟩; have HD4 := hidOg (HD3.out.trans (hb.mono HD3.out.size)); have HPT : Hid ((lS YS).Perm A0) := (lS_perm hps).trans HP4.out; have HOT := hidOg hos; have HRT := hidOg hrs; have HRS4 := hidOg (HRS.out.to hb); clear hps hos hrs hb)
        | (go_at_call 19; refine Calls.mono (eqf_yes _ _ _ _ _ _ _ HRS4.out HRT.out (HFEW.out _ HPS.out).1 (HFEW.out _ HPS.out).2 (ord_eq HOS.out HOT.out (HPS.out.trans HPT.out.symm))) ?_; rintro e v5 ⟨rfl, hb⟩; have HD5 := hidOg (HD4.out.trans (hb.mono HD4.out.size)); obtain ⟨f0, f1, f2⟩ := (KK.out _ HD5.out).2.2.1.cells; clear hb)
        | (go_at_call_has 11 qy; refine Calls.mono (CK2 _ _ _) ?_; rintro e v6 ⟨rfl, hb⟩; have HD6 := hidOg (HD5.out.trans (hb.mono HD5.out.size)); clear hb f0 f1 f2))
      go_loopw [134] (fun i wr => ∃ k : Nat, k ≤ XB.length ∧ i = .int .i64 k ∧ Below wz.heap.size wz wr) (fun i _ => XB.length - (intOf i).toNat)
      case atStart => exact ⟨0, Nat.zero_le _, rfl, HD6.out⟩
      case round =>
        obtain ⟨k, hk, rfl, hB⟩ := hrel
        have HB := hidOg hB
        have hb2 := HB2.out
        clear hd
        by_cases hlt : k < XB.length
        · obtain ⟨b, off, hq, hbN, hcs⟩ := (KK.out _ hB).2.1.row (by omega)
          subst hq
          obtain ⟨c0, hI⟩ := hcs k hlt
          clear hB hcs
          by_cases hkr : k = r
          · subst hkr
            have hd : ((k : Int) != (k : Int)) = false := by simp
            go_wp2
            go_roundw
            case rel => exact ⟨k + 1, by omega, by go_num, HB.out⟩
            case measure => simp [intOf]; omega
          · have hd : ((k : Int) != (r : Int)) = true := by simp; omega
            have hk4 : k < X4.length := by rw [HL4.out]; rw [HLB.out] at hlt; omega
            obtain ⟨b', off', hq', hbN', hcs'⟩ := (KK.out _ HB.out).1.row (by omega)
            obtain ⟨c0', hI'⟩ := hcs' k hk4
            injection hq' with hq'
            injection hq' with e1 e2
            subst e1 e2
            have CE1 := equal21 (rP XB k) (rL XB k) (rC XB k) (rP X4 k) (rL X4 k) (rC X4 k) wr hI hI' (by have := HLE.out k hlt hkr; omega)
            rw [← HNE.out k hlt hkr, samI_refl] at CE1
            rw [← HNE.out k hlt hkr] at c0'
            rw [Nat.zero_add] at c0'
            have hk41 : (k : Int) < (X4.length : Int) := by omega
            have hk42 : (k : Int) ≤ (X4.length : Int) := by omega
            clear hI hI' hcs' hbN'
            go_wp2_with (first | (go_at_call 21; refine Calls.mono CE1 ?_; rintro e v7 ⟨rfl, hb⟩; have HB7 := hidOg (HB.out.trans (hb.mono HB.out.size)); clear hb))
            go_roundw
            case rel => exact ⟨k + 1, by omega, by go_num, HB7.out⟩
            case measure => simp [intOf]; omega
        · obtain rfl : k = XB.length := by omega
          go_wp2
          go_ret
          exact ⟨rfl, (KK.out _ HB.out).2.2.2.b⟩
end Go.Proofs.Ytkbikngkhaeakaa
