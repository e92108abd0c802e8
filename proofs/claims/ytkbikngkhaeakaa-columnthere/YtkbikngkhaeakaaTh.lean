/- ColumnThere: the walk. -/
import Derived.Test.YtkbikngkhaeakaaThM
namespace Go.Proofs.Ytkbikngkhaeakaa
open Go.RowKit

set_option maxRecDepth 20000 in
set_option maxHeartbeats 8000000 in
theorem there_yes (wd rs : Int) (p : Option Addr) (l : List Int) (c : Nat) (wd2 rs2 : Int) (p2 : Option Addr) (l2 : List Int) (c2 : Nat) (row : Int) (w : World) (h : InR w p l c) (h2 : InR w p2 l2 c2) :
    Calls Try.prog 7 #[.agg #[.int .i64 wd, .int .i64 rs, .slice p l.length c], .agg #[.int .i64 wd2, .int .i64 rs2, .slice p2 l2.length c2], .int .i64 row] w fun e w' => e = .returned (.bool true) ∧ Below w.heap.size w w' := by
  have CO := fun (X : World) (hb : Below w.heap.size w X) => own10 wd rs p l c X (h.to hb)
  have CO2 := fun (X : World) (hb : Below w.heap.size w X) => own10 wd2 rs2 p2 l2 c2 X (h2.to hb)
  obtain ⟨L, hL⟩ : ∃ L, L = l.take 60 := ⟨_, rfl⟩
  obtain ⟨L2, hL2⟩ : ∃ L2, L2 = l2.take 60 := ⟨_, rfl⟩
  rw [← hL] at CO
  rw [← hL2] at CO2
  obtain ⟨n, hn⟩ : ∃ n, n = l.length := ⟨_, rfl⟩
  obtain ⟨n2, hn2⟩ : ∃ n2, n2 = l2.length := ⟨_, rfl⟩
  rw [← hn] at CO ⊢
  rw [← hn2] at CO2 ⊢
  have T0 := hidOg (Tw.start w (.int .i64 wd) (.int .i64 rs) (.slice p n c) (.int .i64 wd2) (.int .i64 rs2) (.slice p2 n2 c2))
  clear h h2 hL hL2 hn hn2
  replace CO : ∀ (X : World), Below w.heap.size w X → Calls Try.prog 10 #[.agg #[.int .i64 wd, .int .i64 rs, .slice p n c]] X fun e w' => ∃ q k, e = .returned (.agg #[.int .i64 wd, .int .i64 rs, .slice q L.length k]) ∧ OwnR X.heap.size w' q L k ∧ Below X.heap.size X w' := CO
  replace CO2 : ∀ (X : World), Below w.heap.size w X → Calls Try.prog 10 #[.agg #[.int .i64 wd2, .int .i64 rs2, .slice p2 n2 c2]] X fun e w' => ∃ q k, e = .returned (.agg #[.int .i64 wd2, .int .i64 rs2, .slice q L2.length k]) ∧ OwnR X.heap.size w' q L2 k ∧ Below X.heap.size X w' := CO2
  go_enter Try.func7, Try.ntmps7
  go_wp2_with (first | (go_at_call 9; refine Calls.mono (wakes9 _) ?_; rintro e w1 ⟨rfl, hb1⟩; have T1 := hidOg (T0.out.below hb1); obtain ⟨a0, a1, a2, _, az⟩ := cells3 T1.out.a; obtain ⟨b0, b1, b2, _, bz⟩ := cells3 T1.out.r; clear hb1))
  have T2 := T1
  have T3 := T1
  go_cut [7, 8] from 14 to 17 (fun s7 s8 wx => ∃ A qa ca B qb cb, s7 = .pointer (some ⟨A, 0, none⟩) ∧ s8 = .pointer (some ⟨B, 0, none⟩) ∧ BC A wd rs qa L ca wx ∧ BC B wd2 rs2 qb L2 cb wx ∧ Tw w wx (.int .i64 wd) (.int .i64 rs) (.slice p n c) (.int .i64 wd2) (.int .i64 rs2) (.slice p2 n2 c2))
  case first =>
    go_region_held3 (fun w' => w'.cell? ⟨w.heap.size, 0, none⟩ = some (.int .i64 wd) ∧ w'.cell? ⟨w.heap.size, 1, none⟩ = some (.int .i64 rs) ∧ w'.cell? ⟨w.heap.size, 2, none⟩ = some (.slice p n c) ∧ w'.cell? ⟨w.heap.size + 1, 0, none⟩ = some (.int .i64 wd2) ∧ w'.cell? ⟨w.heap.size + 1, 1, none⟩ = some (.int .i64 rs2) ∧ w'.cell? ⟨w.heap.size + 1, 2, none⟩ = some (.slice p2 n2 c2)) (first | (refine Tw.s6 (x := .int .i64 wd) (y := .int .i64 rs) (z := .slice p n c) (x' := .int .i64 wd2) (y' := .int .i64 rs2) (z' := .slice p2 n2 c2) ?_; (repeat (first | with_reducible exact T3.out | with_reducible exact T2.out | with_reducible exact T1.out | with_reducible apply Tw.alloc | with_reducible apply Tw.drew | (with_reducible refine Tw.set3 ?_ (by omega)))); done) | fail) (first | (go_at_call_has 10 p; (with_reducible refine Calls.mono (CO _ ?_) ?_); (focus (refine Tw.b (x := .int .i64 wd) (y := .int .i64 rs) (z := .slice p n c) (x' := .int .i64 wd2) (y' := .int .i64 rs2) (z' := .slice p2 n2 c2) ?_; (repeat (first | with_reducible exact T3.out | with_reducible exact T2.out | with_reducible exact T1.out | with_reducible apply Tw.alloc | with_reducible apply Tw.drew | (with_reducible refine Tw.set3 ?_ (by omega)))); done)); rintro e w2 ⟨qa, ca, rfl, hx, hb2⟩; obtain ⟨F1, hF1, hA2⟩ := oe0x hx; (try rw [size_drew] at hF1); (try rw [World.size_alloc] at hF1); (try rw [World.size_alloc] at hF1); have A2 := hidOg hA2; clear hA2; clear hx; have T2 := hidOg (show Tw w w2 (.int .i64 wd) (.int .i64 rs) (.slice p n c) (.int .i64 wd2) (.int .i64 rs2) (.slice p2 n2 c2) by refine Tw.below ?_ hb2; (repeat (first | with_reducible exact T3.out | with_reducible exact T2.out | with_reducible exact T1.out | with_reducible apply Tw.alloc | with_reducible apply Tw.drew | (with_reducible refine Tw.set3 ?_ (by omega)))); done); have HB12 := hidOg (show Below w1.heap.size w1 w2 by first | with_reducible exact bd0 hb2 | with_reducible exact bd1 hb2 | with_reducible exact bd2 hb2); have hz2 := HB12.out.size; (first | (have HYY := hidOg (zz2 hb2); obtain ⟨y0, y1, y2, yf, y3⟩ := cells3 HYY.out.1; obtain ⟨z0, z1, z2, zf, z3⟩ := cells3 HYY.out.2) | (have HY := hidOg (zz1 hb2); obtain ⟨y0, y1, y2, yf, y3⟩ := cells3 HY.out) | skip)) | (go_at_call_has 10 p2; (with_reducible refine Calls.mono (CO2 _ ?_) ?_); (focus (refine Tw.b (x := .int .i64 wd) (y := .int .i64 rs) (z := .slice p n c) (x' := .int .i64 wd2) (y' := .int .i64 rs2) (z' := .slice p2 n2 c2) ?_; (repeat (first | with_reducible exact T3.out | with_reducible exact T2.out | with_reducible exact T1.out | with_reducible apply Tw.alloc | with_reducible apply Tw.drew | (with_reducible refine Tw.set3 ?_ (by omega)))); done)); rintro e w3 ⟨qb, cb, rfl, hx, hb3⟩; obtain ⟨F2, hF2, hA4⟩ := oe0x hx; (try rw [size_drew] at hF2); (try rw [World.size_alloc] at hF2); (try rw [World.size_alloc] at hF2); have A4 := hidOg hA4; clear hA4; clear hx; have T3 := hidOg (show Tw w w3 (.int .i64 wd) (.int .i64 rs) (.slice p n c) (.int .i64 wd2) (.int .i64 rs2) (.slice p2 n2 c2) by refine Tw.below ?_ hb3; (repeat (first | with_reducible exact T3.out | with_reducible exact T2.out | with_reducible exact T1.out | with_reducible apply Tw.alloc | with_reducible apply Tw.drew | (with_reducible refine Tw.set3 ?_ (by omega)))); done); have HB23 := hidOg (show Below w2.heap.size w2 w3 by first | with_reducible exact hb3 | with_reducible exact be1 hb3 | with_reducible exact be2 hb3); have hz3 := HB23.out.size; have A3 := hidOg (OF.below A2.out HB23.out); (first | (have UU := hidOg (atW HB23.out HYY.out.1); have UV := hidOg (atW HB23.out HYY.out.2); obtain ⟨u0, u1, u2, uf, u3⟩ := cells3 UU.out; obtain ⟨v0, v1, v2, vf, v3⟩ := cells3 UV.out) | (have UU := hidOg (atW HB23.out HY.out); obtain ⟨u0, u1, u2, uf, u3⟩ := cells3 UU.out) | skip); (first | (have VV := hidOg (ze2 hb3); obtain ⟨r0, r1, r2, rf, r3⟩ := cells3 VV.out.1; obtain ⟨t0, t1, t2, tf, t3⟩ := cells3 VV.out.2) | (have V := hidOg (ze1 hb3); obtain ⟨r0, r1, r2, rf, r3⟩ := cells3 V.out) | skip)))
    all_goals go_wp2
    all_goals go_meet
    all_goals
      refine ⟨_, qa, ca, _, qb, cb, rfl, rfl, BC.of (F := F1) (N := w2.heap.size) ?_ ?_, BC.of (F := F2) (N := w3.heap.size) ?_ ?_, ?_⟩
      · (repeat (first | with_reducible exact UU.out | with_reducible exact UV.out | with_reducible exact V.out | with_reducible exact VV.out.1 | with_reducible exact VV.out.2 | with_reducible exact heap_at rfl | with_reducible exact heap_at (by first | omega | (simp only [World.size_alloc]; omega) | (simp; done)) | with_reducible refine set3_same (x := .int .i64 0) (y := .int .i64 0) (z := .slice none 0 0) ?_ | with_reducible refine (set3_other (by omega)).trans ?_ | with_reducible refine (heap_alloc_old (by first | omega | (simp only [World.size_alloc]; omega) | (simp; omega) | (simp; done))).trans ?_))
      · repeat (first | with_reducible exact A3.out | with_reducible apply OF.alloc | with_reducible refine OF.set3 ?_ (by omega))
      · (repeat (first | with_reducible exact UU.out | with_reducible exact UV.out | with_reducible exact V.out | with_reducible exact VV.out.1 | with_reducible exact VV.out.2 | with_reducible exact heap_at rfl | with_reducible exact heap_at (by first | omega | (simp only [World.size_alloc]; omega) | (simp; done)) | with_reducible refine set3_same (x := .int .i64 0) (y := .int .i64 0) (z := .slice none 0 0) ?_ | with_reducible refine (set3_other (by omega)).trans ?_ | with_reducible refine (heap_alloc_old (by first | omega | (simp only [World.size_alloc]; omega) | (simp; omega) | (simp; done))).trans ?_))
      · repeat (first | with_reducible exact A4.out | with_reducible apply OF.alloc | with_reducible refine OF.set3 ?_ (by omega))
      · (repeat (first | with_reducible exact T3.out | with_reducible exact T2.out | with_reducible exact T1.out | with_reducible apply Tw.alloc | with_reducible apply Tw.drew | (with_reducible refine Tw.set3 ?_ (by omega))))
  case rest =>
    obtain ⟨A, qa, ca, B, qb, cb, rfl, rfl, hBA, hBB, hT⟩ := hcut
    have HBA := hidOg hBA
    have HBB := hidOg hBB
    have HW : Hid (Be w.heap.size w wc) := ⟨hT.b, hT.b.size⟩
    obtain ⟨g0, g1, g2⟩ := hBA.cells
    clear hBA hBB hT T0 T1 T2 T3 a0 a1 a2 b0 b1 b2 az bz CO CO2
    have CS := fun (q : Option Addr) (k : Nat) (X : World) => small17 wd rs q L.length k X
    have CS2 := fun (q : Option Addr) (k : Nat) (X : World) => small17 wd2 rs2 q L2.length k X
    have CM := fun (q : Option Addr) (k : Nat) (q2 : Option Addr) (k2 : Nat) (X : World) (h1 : Row X q L k) (h2 : k ≤ maxLen) (h3 : Row X q2 L2 k2) (h4 : k2 ≤ maxLen) => move30 wd rs q L k wd2 rs2 q2 L2 k2 row X h1 h2 h3 h4
    cases hs1 : smB wd rs L.length
    · rw [hs1] at CS
      go_wp2_with (first | (go_at_call_has 17 qa; refine Calls.mono (CS _ _ _) ?_; rintro e w2 ⟨rfl, hb2⟩; have HW2 := hidOg (HW.out.to hb2); clear hb2))
      go_ret
      exact ⟨rfl, HW2.out.b⟩
    · rw [hs1] at CS
      cases hs2 : smB wd2 rs2 L2.length
      · rw [hs2] at CS2
        go_wp2_with (first
          | (go_at_call_has 17 qa; refine Calls.mono (CS _ _ _) ?_; rintro e w2 ⟨rfl, hb2⟩; have HW2 := hidOg (HW.out.to hb2); have HBB2 := hidOg (HBB.out.to hb2); obtain ⟨y0, y1, y2⟩ := HBB2.out.cells; clear hb2)
          | (go_at_call_has 17 qb; refine Calls.mono (CS2 _ _ _) ?_; rintro e w3 ⟨rfl, hb3⟩; have HW3 := hidOg (HW2.out.to hb3); clear hb3))
        go_ret
        exact ⟨rfl, HW3.out.b⟩
      · rw [hs2] at CS2
        have HS1 := hidOg hs1
        have HS2 := hidOg hs2
        clear hs1 hs2
        by_cases hm : (mA wd rs L wd2 rs2 L2 row).2.2 = 0
        · obtain ⟨W, R, R2, r, hr, rfl, rfl, rfl, rfl, rfl, hm1, hm2, hl1, hl2, hmv⟩ := mv_yes hm
          rw [hmv] at CM
          have hW4 : W ≤ 4 := by have := (mayB_t hm1).2.1; omega
          have hR200 : R ≤ 200 := by
            have := HS1.out; unfold smB at this; rw [hm1] at this
            have : (R : Int) ≤ 200 := by simpa using this
            omega
          have hR2200 : R2 ≤ 200 := by
            have := HS2.out; unfold smB at this; rw [hm2] at this
            have : (R2 : Int) ≤ 200 := by simpa using this
            omega
          have hL2b : L2.length ≤ 1000 := by rw [hl2]; exact Nat.le_trans (Nat.mul_le_mul hW4 hR2200) (by omega)
          have hbk := mv_back hW4 hR200 hR2200 hl1 hl2 hr
          have hrows := back_rows hl1 hr
          have hlr := left_rows hl1 hr
          have hperm := swO_perm (rows := chK W R L) (k := r) (by rw [chK_len]; exact hr)
          have hal : ((chK W R L)[r]'(by rw [chK_len]; exact hr)).length = W := chK_mem hl1 (List.getElem_mem _)
          obtain ⟨a, ha⟩ : ∃ a, a = (chK W R L)[r]'(by rw [chK_len]; exact hr) := ⟨_, rfl⟩
          obtain ⟨La, hLa⟩ : ∃ La, La = (swO (chK W R L) r).flatten := ⟨_, rfl⟩
          rw [← ha] at hbk hrows hperm hal CM
          rw [← hLa] at hbk hrows hlr CM
          have hc1 : chkE (W : Int) ((R - 1 : Nat) : Int) La = 0 := by unfold chkE; rw [if_pos (mayB_nat hW4 (by omega) hlr.1)]
          obtain ⟨Lb, hLb⟩ : ∃ Lb, Lb = L2 ++ a := ⟨_, rfl⟩
          have hlb : Lb.length = W * (R2 + 1) := by rw [hLb]; exact (push_one hl2 hal).1
          have hc2 : chkE (W : Int) ((R2 + 1 : Nat) : Int) Lb = 0 := by unfold chkE; rw [if_pos (mayB_nat hW4 (by omega) hlb)]
          obtain ⟨Lc, hLc⟩ : ∃ Lc, Lc = La ++ a := ⟨_, rfl⟩
          have hlc : Lc.length = W * R := by
            have := (push_one hlr.1 hal).1
            rw [show R - 1 + 1 = R by omega] at this
            rw [hLc]; exact this
          rw [← hLb] at CM hbk
          rw [← hLc] at hbk hrows
          have hmc : mayB (W : Int) (R : Int) Lc.length = true := mayB_nat hW4 (by omega) hlc
          have hsc : smB (W : Int) (R : Int) Lc.length = true := by unfold smB; simp; omega
          obtain ⟨i1, hi1⟩ : ∃ i : Int, i = ((R - 1 : Nat) : Int) := ⟨_, rfl⟩
          obtain ⟨j1, hj1⟩ : ∃ j : Int, j = ((R2 + 1 : Nat) : Int) := ⟨_, rfl⟩
          rw [← hi1] at CM hbk hc1
          rw [← hj1] at CM hbk hc2
          have CK1 := fun (q : Option Addr) (k : Nat) (X : World) => check11 (W : Int) i1 q La k X (by rw [hlr.1]; have := Nat.mul_le_mul hW4 (show R - 1 ≤ 200 by omega); unfold maxLen; omega)
          have CK2 := fun (q : Option Addr) (k : Nat) (X : World) => check11 (W : Int) j1 q Lb k X (by rw [hlb]; have := Nat.mul_le_mul hW4 (show R2 + 1 ≤ 201 by omega); unfold maxLen; omega)
          rw [hc1] at CK1
          rw [hc2] at CK2
          have CN := fun (q : Option Addr) (k : Nat) (q' : Option Addr) (k' : Nat) (X : World) (h1 : Row X q Lb k) (h2 : k ≤ maxLen) (h3 : Row X q' La k') (h4 : k' ≤ maxLen) => move30 (W : Int) j1 q Lb k (W : Int) i1 q' La k' (R2 : Int) X h1 h2 h3 h4
          rw [hbk] at CN
          have hi2 : i1 = (R : Int) - 1 := by rw [hi1]; omega
          have hj2 : j1 = (R2 : Int) + 1 := by rw [hj1]; push_cast; rfl
          have d1 : (i1 != (R : Int) - 1) = false := by simp [hi2]
          have d2 : (j1 != (R2 : Int) + 1) = false := by simp [hj2]
          have HR := hidOg hrows
          have HP := hidOg hperm
          have HL1 := hidOg hl1
          have HW4 := hidOg hW4
          have HMC := hidOg hmc
          have HSC := hidOg hsc
          have HM1 := hidOg hm1
          have HL2B := hidOg hL2b
          clear hL2b hm hmv hbk hrows hlr hperm hal ha hLa hc1 hLb hlb hc2 hLc hlc hmc hsc hi1 hj1 hm1 hm2 hl1 hl2 hW4 hi2 hj2
          go_wp2_with (first
            | (go_at_call_has 17 qa; refine Calls.mono (CS _ _ _) ?_; rintro e w2 ⟨rfl, hb2⟩; have HW2 := hidOg (HW.out.to hb2); have HBA2 := hidOg (HBA.out.to hb2); have HBB2 := hidOg (HBB.out.to hb2); obtain ⟨y0, y1, y2⟩ := HBB2.out.cells; clear hb2)
            | (go_at_call_has 17 qb; refine Calls.mono (CS2 _ _ _) ?_; rintro e w3 ⟨rfl, hb3⟩; have HW3 := hidOg (HW2.out.to hb3); have HBA3 := hidOg (HBA2.out.to hb3); have HBB3 := hidOg (HBB2.out.to hb3); obtain ⟨z0, z1, z2⟩ := HBA3.out.cells; obtain ⟨y0, y1, y2⟩ := HBB3.out.cells; clear hb3)
            | (go_at_call_has 30 qa; refine Calls.mono (CM _ _ _ _ _ HBA3.out.r HBA3.out.m HBB3.out.r HBB3.out.m) ?_; rintro e w4 ⟨q1, c1, q2, c2', rfl, ho1, ho2, _, hb4⟩; have HZ4 : Hid (Be w3.heap.size w3 ((w4.alloc (.cells #[.int .i64 (W : Int), .int .i64 i1, .slice q1 La.length c1] 24)).alloc (.cells #[.int .i64 (W : Int), .int .i64 j1, .slice q2 Lb.length c2'] 24))) := ((⟨hb4, hb4.size⟩ : Be w3.heap.size w3 w4).al _).al _; have B9 : Hid (BC w4.heap.size (W : Int) i1 q1 La c1 ((w4.alloc (.cells #[.int .i64 (W : Int), .int .i64 i1, .slice q1 La.length c1] 24)).alloc (.cells #[.int .i64 (W : Int), .int .i64 j1, .slice q2 Lb.length c2'] 24))) := (BC.new ho1.row ho1.cm).to (bal _ _); have B10 : Hid (BC (w4.heap.size + 1) (W : Int) j1 q2 Lb c2' ((w4.alloc (.cells #[.int .i64 (W : Int), .int .i64 i1, .slice q1 La.length c1] 24)).alloc (.cells #[.int .i64 (W : Int), .int .i64 j1, .slice q2 Lb.length c2'] 24))) := ⟨heap_at (by simp), (ho2.to (bal _ _)).row.to (bal _ _), ho2.cm⟩; have HS4 := hidOg hb4.size; obtain ⟨y0, y1, y2⟩ := (HBA3.out.to HZ4.out.b).cells; obtain ⟨z0, z1, z2⟩ := (HBB3.out.to HZ4.out.b).cells; clear ho1 ho2 hb4)
            | (go_at_call_has 11 q1; refine Calls.mono (CK1 _ _ _) ?_; rintro e w5 ⟨rfl, hb5⟩; have B95 := hidOg (B9.out.to hb5); have B105 := hidOg (B10.out.to hb5); have HZ5 := hidOg (HZ4.out.to hb5); obtain ⟨x0, x1, x2⟩ := B105.out.cells; clear hb5)
            | (go_at_call_has 11 q2; refine Calls.mono (CK2 _ _ _) ?_; rintro e w6 ⟨rfl, hb6⟩; have B96 := hidOg (B95.out.to hb6); have B106 := hidOg (B105.out.to hb6); have HZ6 := hidOg (HZ5.out.to hb6); obtain ⟨x0, x1, x2⟩ := B106.out.cells; obtain ⟨v0, v1, v2⟩ := B96.out.cells; obtain ⟨z0, z1, z2⟩ := (HBB3.out.to HZ6.out.b).cells; clear hb6)
            | (go_at_call_has 30 q2; refine Calls.mono (CN _ _ _ _ _ B106.out.r B106.out.m B96.out.r B96.out.m) ?_; rintro e w7 ⟨q5, c5, q6, c6, rfl, ho5, ho6, _, hb7⟩; have HZ7 := hidOg (HZ6.out.to hb7); have B97 := hidOg (B96.out.to hb7); have B107 := hidOg (B106.out.to hb7); obtain ⟨x0, x1, x2, xf⟩ := heap3_cell B107.out.b; obtain ⟨v0, v1, v2, vf⟩ := heap3_cell B97.out.b; have HO5 := hidOg ho5; have HO6 := hidOg ho6; have HLT := hidOg (show w4.heap.size + 1 < w6.heap.size from B106.out.lt); clear ho5 ho6 hb7))
          have HB8 : Hid (BC (w4.heap.size + 1) (W : Int) (R2 : Int) q5 L2 c5 ((((((w7.setCell ⟨w4.heap.size + 1, 0, none⟩ (.int .i64 (W : Int))).setCell ⟨w4.heap.size + 1, 1, none⟩ (.int .i64 (R2 : Int))).setCell ⟨w4.heap.size + 1, 2, none⟩ (.slice q5 L2.length c5)).setCell ⟨w4.heap.size, 0, none⟩ (.int .i64 (W : Int))).setCell ⟨w4.heap.size, 1, none⟩ (.int .i64 (R : Int))).setCell ⟨w4.heap.size, 2, none⟩ (.slice q6 Lc.length c6))) := ⟨(set3_other (by omega)).trans (set3_same B107.out.b), ((HO5.out.set3 (by have := HLT.out; omega) _ _ _).set3 (by have := HLT.out; omega) _ _ _).row, HO5.out.cm⟩
          have HB9 : Hid (BC w4.heap.size (W : Int) (R : Int) q6 Lc c6 ((((((w7.setCell ⟨w4.heap.size + 1, 0, none⟩ (.int .i64 (W : Int))).setCell ⟨w4.heap.size + 1, 1, none⟩ (.int .i64 (R2 : Int))).setCell ⟨w4.heap.size + 1, 2, none⟩ (.slice q5 L2.length c5)).setCell ⟨w4.heap.size, 0, none⟩ (.int .i64 (W : Int))).setCell ⟨w4.heap.size, 1, none⟩ (.int .i64 (R : Int))).setCell ⟨w4.heap.size, 2, none⟩ (.slice q6 Lc.length c6))) := ⟨set3_same ((set3_other (by omega)).trans B97.out.b), ((HO6.out.set3 (by have := HLT.out; omega) _ _ _).set3 (by have := HLT.out; omega) _ _ _).row, HO6.out.cm⟩
          have HZ8 : Hid (Be w3.heap.size w3 ((((((w7.setCell ⟨w4.heap.size + 1, 0, none⟩ (.int .i64 (W : Int))).setCell ⟨w4.heap.size + 1, 1, none⟩ (.int .i64 (R2 : Int))).setCell ⟨w4.heap.size + 1, 2, none⟩ (.slice q5 L2.length c5)).setCell ⟨w4.heap.size, 0, none⟩ (.int .i64 (W : Int))).setCell ⟨w4.heap.size, 1, none⟩ (.int .i64 (R : Int))).setCell ⟨w4.heap.size, 2, none⟩ (.slice q6 Lc.length c6))) := (HZ7.out.st3 (by have := HS4.out; omega) _ _ _).st3 HS4.out _ _ _
          obtain ⟨w8, hw8⟩ : ∃ w8, w8 = ((((((w7.setCell ⟨w4.heap.size + 1, 0, none⟩ (.int .i64 (W : Int))).setCell ⟨w4.heap.size + 1, 1, none⟩ (.int .i64 (R2 : Int))).setCell ⟨w4.heap.size + 1, 2, none⟩ (.slice q5 L2.length c5)).setCell ⟨w4.heap.size, 0, none⟩ (.int .i64 (W : Int))).setCell ⟨w4.heap.size, 1, none⟩ (.int .i64 (R : Int))).setCell ⟨w4.heap.size, 2, none⟩ (.slice q6 Lc.length c6)) := ⟨_, rfl⟩
          rw [← hw8] at HB8 HB9 HZ8 ⊢
          have KS : Hid (∀ X, Below w8.heap.size w8 X → (BC (w4.heap.size + 1) (W : Int) (R2 : Int) q5 L2 c5 X ∧ BC B (W : Int) (R2 : Int) qb L2 cb X ∧ BC w4.heap.size (W : Int) (R : Int) q6 Lc c6 X ∧ BC A (W : Int) (R : Int) qa L ca X ∧ Be w.heap.size w X) ∧ X.cell? ⟨w4.heap.size + 1, 0, none⟩ = some (.int .i64 (W : Int)) ∧ X.cell? ⟨w4.heap.size + 1, 1, none⟩ = some (.int .i64 (R2 : Int)) ∧ X.cell? ⟨w4.heap.size + 1, 2, none⟩ = some (.slice q5 L2.length c5) ∧ X.cell? ⟨B, 0, none⟩ = some (.int .i64 (W : Int)) ∧ X.cell? ⟨B, 1, none⟩ = some (.int .i64 (R2 : Int)) ∧ X.cell? ⟨B, 2, none⟩ = some (.slice qb L2.length cb) ∧ X.cell? ⟨w4.heap.size, 0, none⟩ = some (.int .i64 (W : Int)) ∧ X.cell? ⟨w4.heap.size, 1, none⟩ = some (.int .i64 (R : Int)) ∧ X.cell? ⟨w4.heap.size, 2, none⟩ = some (.slice q6 Lc.length c6) ∧ X.cell? ⟨A, 0, none⟩ = some (.int .i64 (W : Int)) ∧ X.cell? ⟨A, 1, none⟩ = some (.int .i64 (R : Int)) ∧ X.cell? ⟨A, 2, none⟩ = some (.slice qa L.length ca)) := fun X hb => by
            have hz := HZ8.out.to hb
            have f1 := HB8.out.to hb
            have f2 := HBB3.out.to hz.b
            have f3 := HB9.out.to hb
            have f4 := HBA3.out.to hz.b
            obtain ⟨k0, k1, k2⟩ := f1.cells
            obtain ⟨k3, k4, k5⟩ := f2.cells
            obtain ⟨k6, k7, k8⟩ := f3.cells
            obtain ⟨k9, k10, k11⟩ := f4.cells
            exact ⟨⟨f1, f2, f3, f4, HW3.out.to hz.b⟩, k0, k1, k2, k3, k4, k5, k6, k7, k8, k9, k10, k11⟩
          have HD0 : Hid (Below w8.heap.size w8 w8.drew) := (Below.refl _ _).drew
          obtain ⟨_, j0, j1, j2, j3, j4, j5, j6, j7, j8, j9, j10, j11⟩ := KS.out _ (Below.refl _ _)
          have CX := fun (q : Option Addr) (k : Nat) (q' : Option Addr) (k' : Nat) (X : World) (h1 : Row X q L2 k) (h2 : Row X q' L2 k') => same13 (W : Int) (R2 : Int) q L2 k (W : Int) (R2 : Int) q' L2 k' X h1.i h2.i (Nat.le_trans HL2B.out (by omega))
          rw [samC_refl] at CX
          have CRc := fun (q : Option Addr) (k : Nat) (X : World) (hR : Row X q Lc k) (hc : k ≤ maxLen) => rows20 (W : Int) (R : Int) q Lc k X hR hc HSC.out
          have CRa := fun (q : Option Addr) (k : Nat) (X : World) (hR : Row X q L k) (hc : k ≤ maxLen) => rows20 (W : Int) (R : Int) q L k X hR hc HS1.out
          rw [roS_of HMC.out, HR.out] at CRc
          rw [roS_of HM1.out] at CRa
          have HFEW : Hid (∀ X : List RR, (lS X).Perm (chK W R L) → X.length ≤ 1000 ∧ ∀ x ∈ X, x.2.1.length ≤ 1000) := fun X h => few_of h (by rw [chK_len]; omega) (fun y hy => by rw [chK_mem HL1.out hy]; have := HW4.out; omega)
          have HP0 := hidOg HP.out
          obtain ⟨A0, hA0⟩ : ∃ A0, A0 = chK W R L := ⟨_, rfl⟩
          rw [← hA0] at HFEW CRa CRc HP0
          obtain ⟨D0, hD0⟩ : ∃ D0, D0 = swO A0 r ++ [a] := ⟨_, rfl⟩
          rw [← hD0] at CRc HP0
          clear hw8 HB8 HB9 HZ8 HP HR HMC HSC HM1 hA0 hD0 HL1 HS1 HS2 x0 x1 x2 xf v0 v1 v2 vf y0 y1 y2 z0 z1 z2 CM CN CK1 CK2 CS CS2 d1 d2
          go_region_held3 (fun w' => w'.cell? ⟨w4.heap.size + 1, 0, none⟩ = some (.int .i64 (W : Int)) ∧ w'.cell? ⟨w4.heap.size + 1, 1, none⟩ = some (.int .i64 (R2 : Int)) ∧ w'.cell? ⟨w4.heap.size + 1, 2, none⟩ = some (.slice q5 L2.length c5) ∧ w'.cell? ⟨B, 0, none⟩ = some (.int .i64 (W : Int)) ∧ w'.cell? ⟨B, 1, none⟩ = some (.int .i64 (R2 : Int)) ∧ w'.cell? ⟨B, 2, none⟩ = some (.slice qb L2.length cb) ∧ w'.cell? ⟨w4.heap.size, 0, none⟩ = some (.int .i64 (W : Int)) ∧ w'.cell? ⟨w4.heap.size, 1, none⟩ = some (.int .i64 (R : Int)) ∧ w'.cell? ⟨w4.heap.size, 2, none⟩ = some (.slice q6 Lc.length c6) ∧ w'.cell? ⟨A, 0, none⟩ = some (.int .i64 (W : Int)) ∧ w'.cell? ⟨A, 1, none⟩ = some (.int .i64 (R : Int)) ∧ w'.cell? ⟨A, 2, none⟩ = some (.slice qa L.length ca)) (first | with_reducible exact ⟨k0, k1, k2, k3, k4, k5, k6, k7, k8, k9, k10, k11⟩ | go_keep) (first
            | (go_at_call 13; refine Calls.mono (CX _ _ _ _ _ (KS.out _ HD0.out).1.1.r (KS.out _ HD0.out).1.2.1.r) ?_; rintro e v1 ⟨rfl, hb⟩; have HD1 := hidOg (HD0.out.trans (hb.mono HD0.out.size)); obtain ⟨_, k0, k1, k2, k3, k4, k5, k6, k7, k8, k9, k10, k11⟩ := KS.out _ HD1.out; clear hb)
            | (go_at_call_has 20 q6; refine Calls.mono (CRc _ _ _ (KS.out _ HD1.out).1.2.2.1.r (KS.out _ HD1.out).1.2.2.1.m) ?_; rintro e v2 ⟨qx, cx, XX, rfl, hXX, hRX, hb⟩; have HD2 := hidOg (HD1.out.trans (hb.mono HD1.out.size)); obtain ⟨_, k0, k1, k2, k3, k4, k5, k6, k7, k8, k9, k10, k11⟩ := KS.out _ HD2.out; have HPX : Hid ((lS XX).Perm A0) := (by rw [hXX]; exact HP0.out); have HRX := hidOg (hRX.base (Nat.zero_le _)); clear hXX hRX; clear hb)
            | (go_at_call_has 32 qx; refine Calls.mono (sort_ord _ _ _ _ HRX.out (HFEW.out _ HPX.out).1 (HFEW.out _ HPX.out).2) ?_; rintro e v3 ⟨qs, cs, XS, rfl, hps, hos, hrs, hb⟩; have HD3 := hidOg (HD2.out.trans (hb.mono HD2.out.size)); obtain ⟨_, k0, k1, k2, k3, k4, k5, k6, k7, k8, k9, k10, k11⟩ := KS.out _ HD3.out; have HPS : Hid ((lS XS).Perm A0) := (lS_perm hps).trans HPX.out; have HOS := hidOg hos; have HRS := hidOg hrs; clear hps hos hrs; clear hb)
            | (go_at_call_has 20 qa; refine Calls.mono (CRa _ _ _ (KS.out _ HD3.out).1.2.2.2.1.r (KS.out _ HD3.out).1.2.2.2.1.m) ?_; rintro e v4 ⟨qy, cy, YY, rfl, hYY, hRY, hb⟩; have HD4 := hidOg (HD3.out.trans (hb.mono HD3.out.size)); obtain ⟨_, k0, k1, k2, k3, k4, k5, k6, k7, k8, k9, k10, k11⟩ := KS.out _ HD4.out; have HPY : Hid ((lS YY).Perm A0) := (by rw [hYY]; exact List.Perm.refl _); have HRY := hidOg (hRY.base (Nat.zero_le _)); have HRS4 := hidOg (HRS.out.to hb); clear hYY hRY; clear hb)
            | (go_at_call_has 32 qy; refine Calls.mono (sort_ord _ _ _ _ HRY.out (HFEW.out _ HPY.out).1 (HFEW.out _ HPY.out).2) ?_; rintro e v5 ⟨qt, ct, YS, rfl, hps, hos, hrs, hb⟩; have HD5 := hidOg (HD4.out.trans (hb.mono HD4.out.size)); obtain ⟨_, k0, k1, k2, k3, k4, k5, k6, k7, k8, k9, k10, k11⟩ := KS.out _ HD5.out; have HPT : Hid ((lS YS).Perm A0) := (lS_perm hps).trans HPY.out; have HOT := hidOg hos; have HRT := hidOg hrs; have HRS5 := hidOg (HRS4.out.to hb); clear hps hos hrs; clear hb)
            | (go_at_call 19; refine Calls.mono (eqf_yes _ _ _ _ _ _ _ HRS5.out HRT.out (HFEW.out _ HPS.out).1 (HFEW.out _ HPS.out).2 (ord_eq HOS.out HOT.out (HPS.out.trans HPT.out.symm))) ?_; rintro e v6 ⟨rfl, hb⟩; have HD6 := hidOg (HD5.out.trans (hb.mono HD5.out.size)); obtain ⟨_, k0, k1, k2, k3, k4, k5, k6, k7, k8, k9, k10, k11⟩ := KS.out _ HD6.out; clear hb))
          all_goals
            go_wp2
            go_ret
            exact ⟨rfl, (KS.out _ HD6.out).1.2.2.2.2.b⟩
        · obtain ⟨e5, e6⟩ := mv_no hm
          obtain ⟨⟨⟨x1, x2, M1⟩, ⟨⟨x4, x5, M2⟩, er⟩⟩, hr⟩ : ∃ m, m = mA wd rs L wd2 rs2 L2 row := ⟨_, rfl⟩
          rw [← hr] at CM hm e5 e6
          have e0 : (er != 0) = true := by simpa using hm
          have e5' : x2 = 0 := e5
          have e6' : x5 = 0 := e6
          subst e5' e6'
          clear e5 e6 hr hm
          go_wp2_with (first
            | (go_at_call_has 17 qa; refine Calls.mono (CS _ _ _) ?_; rintro e w2 ⟨rfl, hb2⟩; have HW2 := hidOg (HW.out.to hb2); have HBA2 := hidOg (HBA.out.to hb2); have HBB2 := hidOg (HBB.out.to hb2); obtain ⟨y0, y1, y2⟩ := HBB2.out.cells; clear hb2)
            | (go_at_call_has 17 qb; refine Calls.mono (CS2 _ _ _) ?_; rintro e w3 ⟨rfl, hb3⟩; have HW3 := hidOg (HW2.out.to hb3); have HBA3 := hidOg (HBA2.out.to hb3); have HBB3 := hidOg (HBB2.out.to hb3); obtain ⟨z0, z1, z2⟩ := HBA3.out.cells; obtain ⟨y0, y1, y2⟩ := HBB3.out.cells; clear hb3)
            | (go_at_call 30; refine Calls.mono (CM _ _ _ _ _ HBA3.out.r HBA3.out.m HBB3.out.r HBB3.out.m) ?_; rintro e w4 ⟨q1, c1, q2, c2', rfl, ho1, ho2, _, hb4⟩; have HW4 := hidOg (HW3.out.to hb4); clear ho1 ho2 hb4 y0 y1 y2 z0 z1 z2))
          go_ret
          exact ⟨rfl, ((HW4.out.al _).al _).b⟩
end Go.Proofs.Ytkbikngkhaeakaa
