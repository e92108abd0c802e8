/- AllocMay's walk: the two copies. -/
import Derived.Test.YtaglhajlgnjhcaaDoorMaT
namespace Go.Proofs.YtaglhajlgnjhcaaDoor
open Go.RowKit

set_option maxRecDepth 20000 in
set_option maxHeartbeats 8000000 in
theorem may_a (m : Int) (p : Option Addr) (l : List (Int × Bool)) (c : Nat) (q : Option Addr) (f : List Int) (d : Nat) (m2 : Int) (p2 : Option Addr) (l2 : List (Int × Bool)) (c2 : Nat) (q2 : Option Addr) (f2 : List Int) (d2 : Nat) (r : Option Addr) (ns : List Int) (e : Nat) (w : World) (hF : Fr w)
    (hs : SRow w.heap.size w p l) (hi : IRow .i64 w.heap.size w q f) (hp : AdOk p ∨ l.length = 0) (hq : AdOk q ∨ f.length = 0) (c1 : l.length ≤ c) (d1 : f.length ≤ d)
    (hs2 : SRow w.heap.size w p2 l2) (hi2 : IRow .i64 w.heap.size w q2 f2) (hp2 : AdOk p2 ∨ l2.length = 0) (hq2 : AdOk q2 ∨ f2.length = 0) (c12 : l2.length ≤ c2) (d12 : f2.length ≤ d2) (hn : IRow .i64 w.heap.size w r ns) :
    Calls Tryd.prog 3 #[.agg #[.int .i64 m, .slice p l.length c, .slice q f.length d], .agg #[.int .i64 m2, .slice p2 l2.length c2, .slice q2 f2.length d2], .slice r ns.length e] w fun e w' => e = .returned (.bool true) ∧ Below w.heap.size w w' := by
  have CW := fun (o o' : Obj) => wakes_any ((w.alloc o).alloc o') ((hF.alloc o).alloc o')
  have CO := fun (W : World) (hb : Below w.heap.size w W) => own10f m p l c q f d W (hF.below hb hF.lt) ((hs.below hb (Nat.le_refl _)).mono hb.size) ((hi.below hb (Nat.le_refl _)).mono hb.size) hp hq c1 d1
  have CO2 := fun (W : World) (hb : Below w.heap.size w W) => own10f m2 p2 l2 c2 q2 f2 d2 W (hF.below hb hF.lt) ((hs2.below hb (Nat.le_refl _)).mono hb.size) ((hi2.below hb (Nat.le_refl _)).mono hb.size) hp2 hq2 c12 d12
  obtain ⟨l4, hl4⟩ : ∃ l4, l4 = l.take 40 := ⟨_, rfl⟩
  obtain ⟨f4, hf4⟩ : ∃ f4, f4 = f.take 40 := ⟨_, rfl⟩
  obtain ⟨l5, hl5⟩ : ∃ l5, l5 = l2.take 40 := ⟨_, rfl⟩
  obtain ⟨f5, hf5⟩ : ∃ f5, f5 = f2.take 40 := ⟨_, rfl⟩
  rw [← hl4, ← hf4] at CO
  rw [← hl5, ← hf5] at CO2
  clear hl4 hf4 hl5 hf5
  have T0 : Hid _ := Tw.start w (.int .i64 m) (.slice p l.length c) (.slice q f.length d) (.int .i64 m2) (.slice p2 l2.length c2) (.slice q2 f2.length d2)
  have HN := hidOf hn
  clear hF hs hi hp hq c1 d1 hs2 hi2 hp2 hq2 c12 d12 hn
  go_enter Tryd.func3, Tryd.ntmps3
  go_wp2_with (first | (go_at_call 9; refine Calls.mono (CW _ _) ?_; rintro e w1 ⟨rfl, hb1⟩; have T1 : Hid (Tw w w1 (.int .i64 m) (.slice p l.length c) (.slice q f.length d) (.int .i64 m2) (.slice p2 l2.length c2) (.slice q2 f2.length d2)) := T0.out.below hb1; obtain ⟨a0, a1, a2, _, az⟩ := cells3 T1.out.a; obtain ⟨b0, b1, b2, _, bz⟩ := cells3 T1.out.r; clear hb1))
  clear CW
  have T2 := T1
  have T3 := T1
  go_cut [7, 8] (fun s7 s8 wx => ∃ A pa ca qa da B pb cb qb db, s7 = .pointer (some ⟨A, 0, none⟩) ∧ s8 = .pointer (some ⟨B, 0, none⟩) ∧ M4 w wx (.int .i64 m) (.slice p l.length c) (.slice q f.length d) (.int .i64 m2) (.slice p2 l2.length c2) (.slice q2 f2.length d2) m l4 f4 m2 l5 f5 A pa ca qa da B pb cb qb db)
  case first =>
    go_region_held3 (fun w' => w'.cell? ⟨w.heap.size, 0, none⟩ = some (.int .i64 m) ∧ w'.cell? ⟨w.heap.size, 1, none⟩ = some (.slice p l.length c) ∧ w'.cell? ⟨w.heap.size, 2, none⟩ = some (.slice q f.length d) ∧ w'.cell? ⟨w.heap.size + 1, 0, none⟩ = some (.int .i64 m2) ∧ w'.cell? ⟨w.heap.size + 1, 1, none⟩ = some (.slice p2 l2.length c2) ∧ w'.cell? ⟨w.heap.size + 1, 2, none⟩ = some (.slice q2 f2.length d2)) (first | (refine Tw.s6 (x := .int .i64 m) (y := .slice p l.length c) (z := .slice q f.length d) (x' := .int .i64 m2) (y' := .slice p2 l2.length c2) (z' := .slice q2 f2.length d2) ?_; (repeat (first | with_reducible exact T3.out | with_reducible exact T2.out | with_reducible exact T1.out | with_reducible apply Tw.alloc | with_reducible apply Tw.drew | (with_reducible refine Tw.set3 ?_ (by omega)))); done) | fail) (first | (go_at_call 10; with_reducible refine Calls.mono (CO _ ?_) ?_; (focus (refine Tw.b (x := .int .i64 m) (y := .slice p l.length c) (z := .slice q f.length d) (x' := .int .i64 m2) (y' := .slice p2 l2.length c2) (z' := .slice q2 f2.length d2) ?_; (repeat (first | with_reducible exact T3.out | with_reducible exact T2.out | with_reducible exact T1.out | with_reducible apply Tw.alloc | with_reducible apply Tw.drew | (with_reducible refine Tw.set3 ?_ (by omega)))); done)); rintro e w2 ⟨pa, ca, qa, da, rfl, hx, hb2⟩; (first | (obtain ⟨F1, hF1, hA2⟩ := ad2x hx) | (obtain ⟨F1, hF1, hA2⟩ := ad1x hx) | (obtain ⟨F1, hF1, hA2⟩ := ad0x hx)); have A2 := hidOf hA2; clear hA2; clear hx; have T2 := hidOf (show Tw w w2 (.int .i64 m) (.slice p l.length c) (.slice q f.length d) (.int .i64 m2) (.slice p2 l2.length c2) (.slice q2 f2.length d2) by refine Tw.below ?_ hb2; (repeat (first | with_reducible exact T3.out | with_reducible exact T2.out | with_reducible exact T1.out | with_reducible apply Tw.alloc | with_reducible apply Tw.drew | (with_reducible refine Tw.set3 ?_ (by omega)))); done); have HB12 := hidOf (show Below w1.heap.size w1 w2 by first | with_reducible exact bd0 hb2 | with_reducible exact bd1 hb2 | with_reducible exact bd2 hb2); have hz2 := HB12.out.size; (first | (have HYY := hidOf (zz2 hb2); obtain ⟨y0, y1, y2, yf, y3⟩ := cells3 HYY.out.1; obtain ⟨z0, z1, z2, zf, z3⟩ := cells3 HYY.out.2) | (have HY := hidOf (zz1 hb2); obtain ⟨y0, y1, y2, yf, y3⟩ := cells3 HY.out) | skip)) | (go_at_call 10; with_reducible refine Calls.mono (CO2 _ ?_) ?_; (focus (refine Tw.b (x := .int .i64 m) (y := .slice p l.length c) (z := .slice q f.length d) (x' := .int .i64 m2) (y' := .slice p2 l2.length c2) (z' := .slice q2 f2.length d2) ?_; (repeat (first | with_reducible exact T3.out | with_reducible exact T2.out | with_reducible exact T1.out | with_reducible apply Tw.alloc | with_reducible apply Tw.drew | (with_reducible refine Tw.set3 ?_ (by omega)))); done)); rintro e w3 ⟨pb, cb, qb, db, rfl, hx, hb3⟩; (first | (obtain ⟨F2, hF2, hA4⟩ := ae2x hx) | (obtain ⟨F2, hF2, hA4⟩ := ae1x hx) | (obtain ⟨F2, hF2, hA4⟩ := ae0x hx)); have A4 := hidOf hA4; clear hA4; clear hx; have T3 := hidOf (show Tw w w3 (.int .i64 m) (.slice p l.length c) (.slice q f.length d) (.int .i64 m2) (.slice p2 l2.length c2) (.slice q2 f2.length d2) by refine Tw.below ?_ hb3; (repeat (first | with_reducible exact T3.out | with_reducible exact T2.out | with_reducible exact T1.out | with_reducible apply Tw.alloc | with_reducible apply Tw.drew | (with_reducible refine Tw.set3 ?_ (by omega)))); done); have HB23 := hidOf (show Below w2.heap.size w2 w3 by first | with_reducible exact hb3 | with_reducible exact below1 hb3 | with_reducible exact below2 hb3); have hz3 := HB23.out.size; have A3 := hidOf (AF.below A2.out HB23.out); (first | (have UU := hidOf (atW HB23.out HYY.out.1); have UV := hidOf (atW HB23.out HYY.out.2); obtain ⟨u0, u1, u2, uf, u3⟩ := cells3 UU.out; obtain ⟨v0, v1, v2, vf, v3⟩ := cells3 UV.out) | (have UU := hidOf (atW HB23.out HY.out); obtain ⟨u0, u1, u2, uf, u3⟩ := cells3 UU.out) | skip); (first | (have VV := hidOf (ze2 hb3); obtain ⟨r0, r1, r2, rf, r3⟩ := cells3 VV.out.1; obtain ⟨t0, t1, t2, tf, t3⟩ := cells3 VV.out.2) | (have V := hidOf (ze1 hb3); obtain ⟨r0, r1, r2, rf, r3⟩ := cells3 V.out) | skip)))
    all_goals go_wp2
    all_goals go_meet
    all_goals
      refine ⟨_, pa, ca, qa, da, _, pb, cb, qb, db, rfl, rfl, ⟨?_, ?_, ?_, ?_, ?_⟩⟩
      · (repeat (first | with_reducible exact T3.out | with_reducible exact T2.out | with_reducible exact T1.out | with_reducible apply Tw.alloc | with_reducible apply Tw.drew | (with_reducible refine Tw.set3 ?_ (by omega))))
      · (repeat (first | with_reducible exact UU.out | with_reducible exact UV.out | with_reducible exact V.out | with_reducible exact VV.out.1 | with_reducible exact VV.out.2 | with_reducible exact heap_at rfl | with_reducible exact heap_at (by first | omega | (simp only [World.size_alloc]; omega) | (simp; done)) | with_reducible refine set3_heap (x := .int .i64 0) (y := .slice none 0 0) (z := .slice none 0 0) ?_ | with_reducible refine (set3_other (by omega)).trans ?_ | with_reducible refine (heap_alloc_old (by first | omega | (simp only [World.size_alloc]; omega) | (simp; omega) | (simp; done))).trans ?_))
      · (repeat (first | with_reducible exact UU.out | with_reducible exact UV.out | with_reducible exact V.out | with_reducible exact VV.out.1 | with_reducible exact VV.out.2 | with_reducible exact heap_at rfl | with_reducible exact heap_at (by first | omega | (simp only [World.size_alloc]; omega) | (simp; done)) | with_reducible refine set3_heap (x := .int .i64 0) (y := .slice none 0 0) (z := .slice none 0 0) ?_ | with_reducible refine (set3_other (by omega)).trans ?_ | with_reducible refine (heap_alloc_old (by first | omega | (simp only [World.size_alloc]; omega) | (simp; omega) | (simp; done))).trans ?_))
      · refine AF.in (F := F1) (N := w2.heap.size) ?_
        repeat (first | with_reducible exact A3.out | with_reducible apply AF.alloc | with_reducible refine AF.set3 ?_ (by omega) (by omega))
      · refine AF.in (F := F2) (N := w3.heap.size) ?_
        repeat (first | with_reducible exact A4.out | with_reducible apply AF.alloc | with_reducible refine AF.set3 ?_ (by omega) (by omega))
  case rest =>
    obtain ⟨A, pa, ca, qa, da, B, pb, cb, qb, db, rfl, rfl, h4⟩ := hcut
    have M4' := hidOf h4
    clear h4 T0 T1 T2 T3 CO2 a0 a1 a2 az b0 b1 b2 bz
    have CC := fun (W : World) (h : AIn W pa l4 qa f4) => check_any m ca da W pa l4 qa f4 h
    have CR := fun (W : World) (h : AIn W pa l4 qa f4) => right12 m ca da W pa l4 qa f4 h
    have CS := fun (W : World) (h : AIn W pa l4 qa f4) (h' : AIn W pb l5 qb f5) => same13 m m2 ca da cb db W pa pb l4 l5 qa qb f4 f5 h h'
    have CF := fun (W : World) (h : AIn W pa l4 qa f4) (h' : AIn W pb l5 qb f5) => refSame14 m m2 ca da cb db W pa pb l4 l5 qa qb f4 f5 h h'
    have CS2 := fun (W : World) (p' : Option Addr) (c' : Nat) (q' : Option Addr) (d' : Nat) (h : AIn W pa l4 qa f4) (h' : AIn W p' l4 q' f4) => same13 m m ca da c' d' W pa p' l4 l4 qa q' f4 f4 h h'
    have CF2 := fun (W : World) (p' : Option Addr) (c' : Nat) (q' : Option Addr) (d' : Nat) (h : AIn W pa l4 qa f4) (h' : AIn W p' l4 q' f4) => refSame14 m m ca da c' d' W pa p' l4 l4 qa q' f4 f4 h h'
    rw [sameB_refl] at CS2 CF2
    obtain ⟨sv, hsv⟩ : ∃ sv, sv = sameB m l4 f4 m2 l5 f5 := ⟨_, rfl⟩
    rw [← hsv] at CS CF
    clear hsv
    rw [right_may] at CR
    obtain ⟨a0, a1, a2, b0, b1, b2, x0, x1, x2⟩ := M4'.out.s9
    cases hm : mayB m l4 f4
    · rw [hm] at CR
      rw [chkE_f hm] at CC
      clear hm
      go_wp2_with (first | (go_at_call 11; with_reducible refine Calls.mono (CC _ M4'.out.ia) ?_; rintro e w5 ⟨rfl, hb5⟩; have M5 := hidOf (M4'.out.below hb5); clear hb5 a0 a1 a2 b0 b1 b2 x0 x1 x2; obtain ⟨a0, a1, a2, b0, b1, b2, x0, x1, x2⟩ := M5.out.s9))
      clear CC
      go_region_held3 (fun w' => w'.cell? ⟨A, 0, none⟩ = some (.int .i64 m) ∧ w'.cell? ⟨A, 1, none⟩ = some (.slice pa l4.length ca) ∧ w'.cell? ⟨A, 2, none⟩ = some (.slice qa f4.length da) ∧ w'.cell? ⟨B, 0, none⟩ = some (.int .i64 m2) ∧ w'.cell? ⟨B, 1, none⟩ = some (.slice pb l5.length cb) ∧ w'.cell? ⟨B, 2, none⟩ = some (.slice qb f5.length db) ∧ w'.cell? ⟨w.heap.size, 0, none⟩ = some (.int .i64 m) ∧ w'.cell? ⟨w.heap.size, 1, none⟩ = some (.slice p l.length c) ∧ w'.cell? ⟨w.heap.size, 2, none⟩ = some (.slice q f.length d)) (first | with_reducible exact M10.out.s9 | with_reducible exact M9.out.s9 | with_reducible exact M8.out.s9 | with_reducible exact M7.out.s9 | with_reducible exact M6.out.s9 | with_reducible exact M5.out.drew.s9 | with_reducible exact M5.out.s9 | fail) (first | (go_at_call 12; with_reducible refine Calls.mono (CR _ M5.out.drew.ia) ?_; rintro e w6 ⟨rfl, hb6⟩; have M6 := hidOf (M5.out.drew.below hb6); clear hb6) | (go_at_call 13; with_reducible refine Calls.mono (CS _ M6.out.ia M6.out.ib) ?_; rintro e w7 ⟨rfl, hb7⟩; have M7 := hidOf (M6.out.below hb7); clear hb7) | (go_at_call 14; with_reducible refine Calls.mono (CF _ M7.out.ia M7.out.ib) ?_; rintro e w8 ⟨rfl, hb8⟩; have M8 := hidOf (M7.out.below hb8); clear hb8) | (go_at_call 10; with_reducible refine Calls.mono (CO _ M8.out.t.b) ?_; rintro e w9 ⟨p9, c9, q9, d9, rfl, hx9, hb9⟩; have M9 := hidOf (M8.out.below hb9); have X9 := hidOf hx9.1.i; clear hx9 hb9) | (go_at_call 13; with_reducible refine Calls.mono (CS2 _ _ _ _ _ M9.out.ia X9.out) ?_; rintro e w10 ⟨rfl, hb10⟩; have M10 := hidOf (M9.out.below hb10); clear hb10))
      clear CR CS CF CS2 a0 a1 a2 b0 b1 b2 x0 x1 x2 M4' M5 M6 M7 M8 M9 X9
      go_wp2
      go_loopw [55] (fun i wr => ∃ k : Nat, k ≤ ns.length ∧ k ≤ 6 ∧ i = .int .i64 k ∧ M4 w wr (.int .i64 m) (.slice p l.length c) (.slice q f.length d) (.int .i64 m2) (.slice p2 l2.length c2) (.slice q2 f2.length d2) m l4 f4 m2 l5 f5 A pa ca qa da B pb cb qb db) (fun i _ => ns.length - (intOf i).toNat)
      case atStart => exact ⟨0, Nat.zero_le _, by omega, rfl, M10.out⟩
      case round =>
        obtain ⟨k, hk, hk6, rfl, hM⟩ := hrel
        have MR := hidOf hM
        obtain ⟨g0, g1, g2⟩ := hM.lts
        obtain ⟨a0, a1, a2, b0, b1, b2, x0, x1, x2⟩ := hM.s9
        clear hM
        by_cases hk' : k < ns.length
        · obtain ⟨b, off, rfl, hbB, hcs⟩ := (HN.out.below MR.out.t.b (Nat.le_refl _)) (by omega)
          have c0 := hcs k hk'
          clear hcs
          obtain ⟨n, hnn⟩ : ∃ n, n = iG ns k := ⟨_, rfl⟩
          rw [← hnn] at c0
          clear hnn
          by_cases h6 : k = 6
          · subst h6
            go_wp2
            go_region_held3 (fun w' => w'.cell? ⟨A, 0, none⟩ = some (.int .i64 m) ∧ w'.cell? ⟨A, 1, none⟩ = some (.slice pa l4.length ca) ∧ w'.cell? ⟨A, 2, none⟩ = some (.slice qa f4.length da) ∧ w'.cell? ⟨B, 0, none⟩ = some (.int .i64 m2) ∧ w'.cell? ⟨B, 1, none⟩ = some (.slice pb l5.length cb) ∧ w'.cell? ⟨B, 2, none⟩ = some (.slice qb f5.length db) ∧ w'.cell? ⟨w.heap.size, 0, none⟩ = some (.int .i64 m) ∧ w'.cell? ⟨w.heap.size, 1, none⟩ = some (.slice p l.length c) ∧ w'.cell? ⟨w.heap.size, 2, none⟩ = some (.slice q f.length d)) (first | with_reducible exact M22.out.s9 | with_reducible exact M21.out.s9 | with_reducible exact MR.out.drew.s9 | with_reducible exact MR.out.s9 | fail) (first | (go_at_call 10; with_reducible refine Calls.mono (CO _ MR.out.drew.t.b) ?_; rintro e w21 ⟨p9, c9, q9, d9, rfl, hx9, hb9⟩; have M21 := hidOf (MR.out.drew.below hb9); have X21 := hidOf hx9.1.i; clear hx9 hb9) | (go_at_call 14; with_reducible refine Calls.mono (CF2 _ _ _ _ _ M21.out.ia X21.out) ?_; rintro e w22 ⟨rfl, hb10⟩; have M22 := hidOf (M21.out.below hb10); clear hb10))
            all_goals go_wp2
            all_goals go_ret
            all_goals exact ⟨rfl, M22.out.t.b⟩
          · have h6' : ¬ ((k : Int) = 6) := by omega
            cases hb : mostB n
            · have CN := fun (W : World) => new_bad n W hb
              have hc : n < 1 ∨ (1 ≤ n ∧ 1048576 < n) := by unfold mostB at hb; simp at hb; omega
              clear hb
              rcases hc with h1 | ⟨h1, h2⟩
              all_goals
                go_wp2_with (first | (go_at_call 15; with_reducible refine Calls.mono (CN _) ?_; rintro e w11 ⟨rfl, hb11⟩; have HB11 := hidOf hb11; have hz11 := hb11.size; clear hb11) | (go_at_call 14; with_reducible refine Calls.mono (same_zero _ (((MR.out.below HB11.out).alloc _).alloc _).ia.fr) ?_; rintro e w13 ⟨rfl, hb13⟩; have M13 := hidOf ((((MR.out.below HB11.out).alloc _).alloc _).below hb13); clear hb13))
                go_roundw
                case rel => exact ⟨k + 1, by omega, by omega, by go_num, M13.out⟩
                case measure => simp [intOf]; omega
            · have CN := fun (W : World) (hF : Fr W) => new_any n W hF hb
              obtain ⟨h1, h2⟩ : 1 ≤ n ∧ n ≤ 1048576 := by unfold mostB at hb; simpa using hb
              clear hb
              go_wp2_with (first | (go_at_call 15; with_reducible refine Calls.mono (CN _ MR.out.ia.fr) ?_; rintro e w11 ⟨G, rfl, hG, hg, hb11⟩; have HB11 := hidOf hb11; have HGG := hidOf hg; have hz11 := hb11.size; clear hb11 hg hG) | (go_at_call 16; with_reducible refine Calls.mono (refNew16 _ _) ?_; rintro e w12 ⟨H, rfl, hH, hs12, hb12⟩; have HR12 := hidOf (fun (x y z : Value) => new_rows (x := x) (y := y) (z := z) HGG.out hb12 hH hs12); have HB12 := hidOf (below2 hb12); have hzz := hidOf (ze2 hb12); obtain ⟨y0, y1, y2, yf, y3⟩ := cells3 hzz.out.1; obtain ⟨z0, z1, z2, zf, z3⟩ := cells3 hzz.out.2; have HBV := hidOf (fun (x y z : Value) => below_set3 (HB11.out.trans (HB12.out.mono HB11.out.size)) (show wr.heap.size ≤ w11.heap.size + 1 by omega) x y z); clear hb12 hH hs12) | (go_at_call 14; with_reducible refine Calls.mono (same_new _ _ _ _ (MR.out.below (HBV.out _ _ _)).ia.fr (HR12.out _ _ _).1 (HR12.out _ _ _).2) ?_; rintro e w13 ⟨rfl, hb13⟩; have M13 := hidOf ((MR.out.below (HBV.out _ _ _)).below hb13); clear hb13))
              go_roundw
              case rel => exact ⟨k + 1, by omega, by omega, by go_num, M13.out⟩
              case measure => simp [intOf]; omega
        · obtain rfl : k = ns.length := by omega
          go_wp2
          go_region_held3 (fun w' => w'.cell? ⟨A, 0, none⟩ = some (.int .i64 m) ∧ w'.cell? ⟨A, 1, none⟩ = some (.slice pa l4.length ca) ∧ w'.cell? ⟨A, 2, none⟩ = some (.slice qa f4.length da) ∧ w'.cell? ⟨B, 0, none⟩ = some (.int .i64 m2) ∧ w'.cell? ⟨B, 1, none⟩ = some (.slice pb l5.length cb) ∧ w'.cell? ⟨B, 2, none⟩ = some (.slice qb f5.length db) ∧ w'.cell? ⟨w.heap.size, 0, none⟩ = some (.int .i64 m) ∧ w'.cell? ⟨w.heap.size, 1, none⟩ = some (.slice p l.length c) ∧ w'.cell? ⟨w.heap.size, 2, none⟩ = some (.slice q f.length d)) (first | with_reducible exact M22.out.s9 | with_reducible exact M21.out.s9 | with_reducible exact MR.out.drew.s9 | with_reducible exact MR.out.s9 | fail) (first | (go_at_call 10; with_reducible refine Calls.mono (CO _ MR.out.drew.t.b) ?_; rintro e w21 ⟨p9, c9, q9, d9, rfl, hx9, hb9⟩; have M21 := hidOf (MR.out.drew.below hb9); have X21 := hidOf hx9.1.i; clear hx9 hb9) | (go_at_call 14; with_reducible refine Calls.mono (CF2 _ _ _ _ _ M21.out.ia X21.out) ?_; rintro e w22 ⟨rfl, hb10⟩; have M22 := hidOf (M21.out.below hb10); clear hb10))
          all_goals go_wp2
          all_goals go_ret
          all_goals exact ⟨rfl, M22.out.t.b⟩
    · rw [hm] at CR
      rw [chkE_t hm] at CC
      clear hm
      go_wp2_with (first | (go_at_call 11; with_reducible refine Calls.mono (CC _ M4'.out.ia) ?_; rintro e w5 ⟨rfl, hb5⟩; have M5 := hidOf (M4'.out.below hb5); clear hb5 a0 a1 a2 b0 b1 b2 x0 x1 x2; obtain ⟨a0, a1, a2, b0, b1, b2, x0, x1, x2⟩ := M5.out.s9))
      clear CC
      first | (go_region_held (fun w' => w'.cell? ⟨A, 0, none⟩ = some (.int .i64 m) ∧ w'.cell? ⟨A, 1, none⟩ = some (.slice pa l4.length ca) ∧ w'.cell? ⟨A, 2, none⟩ = some (.slice qa f4.length da) ∧ w'.cell? ⟨B, 0, none⟩ = some (.int .i64 m2) ∧ w'.cell? ⟨B, 1, none⟩ = some (.slice pb l5.length cb) ∧ w'.cell? ⟨B, 2, none⟩ = some (.slice qb f5.length db) ∧ w'.cell? ⟨w.heap.size, 0, none⟩ = some (.int .i64 m) ∧ w'.cell? ⟨w.heap.size, 1, none⟩ = some (.slice p l.length c) ∧ w'.cell? ⟨w.heap.size, 2, none⟩ = some (.slice q f.length d)) (first | with_reducible exact M10.out.s9 | with_reducible exact M9.out.s9 | with_reducible exact M8.out.s9 | with_reducible exact M7.out.s9 | with_reducible exact M6.out.s9 | with_reducible exact M5.out.drew.s9 | with_reducible exact M5.out.s9 | fail) (first | (go_at_call 12; with_reducible refine Calls.mono (CR _ M5.out.drew.ia) ?_; rintro e w6 ⟨rfl, hb6⟩; have M6 := hidOf (M5.out.drew.below hb6); clear hb6) | (go_at_call 13; with_reducible refine Calls.mono (CS _ M6.out.ia M6.out.ib) ?_; rintro e w7 ⟨rfl, hb7⟩; have M7 := hidOf (M6.out.below hb7); clear hb7) | (go_at_call 14; with_reducible refine Calls.mono (CF _ M7.out.ia M7.out.ib) ?_; rintro e w8 ⟨rfl, hb8⟩; have M8 := hidOf (M7.out.below hb8); clear hb8) | (go_at_call 10; with_reducible refine Calls.mono (CO _ M8.out.t.b) ?_; rintro e w9 ⟨p9, c9, q9, d9, rfl, hx9, hb9⟩; have M9 := hidOf (M8.out.below hb9); have X9 := hidOf hx9.1.i; clear hx9 hb9) | (go_at_call 13; with_reducible refine Calls.mono (CS2 _ _ _ _ _ M9.out.ia X9.out) ?_; rintro e w10 ⟨rfl, hb10⟩; have M10 := hidOf (M9.out.below hb10); clear hb10))) | fail
      clear CR CS CF CS2 a0 a1 a2 b0 b1 b2 x0 x1 x2 M4' M5 M6 M7 M8 M9 X9
      go_wp2
      go_loopw [55] (fun i wr => ∃ k : Nat, k ≤ ns.length ∧ k ≤ 6 ∧ i = .int .i64 k ∧ M4 w wr (.int .i64 m) (.slice p l.length c) (.slice q f.length d) (.int .i64 m2) (.slice p2 l2.length c2) (.slice q2 f2.length d2) m l4 f4 m2 l5 f5 A pa ca qa da B pb cb qb db) (fun i _ => ns.length - (intOf i).toNat)
      case atStart => exact ⟨0, Nat.zero_le _, by omega, rfl, M10.out⟩
      case round =>
        obtain ⟨k, hk, hk6, rfl, hM⟩ := hrel
        have MR := hidOf hM
        obtain ⟨g0, g1, g2⟩ := hM.lts
        obtain ⟨a0, a1, a2, b0, b1, b2, x0, x1, x2⟩ := hM.s9
        clear hM
        by_cases hk' : k < ns.length
        · obtain ⟨b, off, rfl, hbB, hcs⟩ := (HN.out.below MR.out.t.b (Nat.le_refl _)) (by omega)
          have c0 := hcs k hk'
          clear hcs
          obtain ⟨n, hnn⟩ : ∃ n, n = iG ns k := ⟨_, rfl⟩
          rw [← hnn] at c0
          clear hnn
          by_cases h6 : k = 6
          · subst h6
            go_wp2
            go_region_held3 (fun w' => w'.cell? ⟨A, 0, none⟩ = some (.int .i64 m) ∧ w'.cell? ⟨A, 1, none⟩ = some (.slice pa l4.length ca) ∧ w'.cell? ⟨A, 2, none⟩ = some (.slice qa f4.length da) ∧ w'.cell? ⟨B, 0, none⟩ = some (.int .i64 m2) ∧ w'.cell? ⟨B, 1, none⟩ = some (.slice pb l5.length cb) ∧ w'.cell? ⟨B, 2, none⟩ = some (.slice qb f5.length db) ∧ w'.cell? ⟨w.heap.size, 0, none⟩ = some (.int .i64 m) ∧ w'.cell? ⟨w.heap.size, 1, none⟩ = some (.slice p l.length c) ∧ w'.cell? ⟨w.heap.size, 2, none⟩ = some (.slice q f.length d)) (first | with_reducible exact M22.out.s9 | with_reducible exact M21.out.s9 | with_reducible exact MR.out.drew.s9 | with_reducible exact MR.out.s9 | fail) (first | (go_at_call 10; with_reducible refine Calls.mono (CO _ MR.out.drew.t.b) ?_; rintro e w21 ⟨p9, c9, q9, d9, rfl, hx9, hb9⟩; have M21 := hidOf (MR.out.drew.below hb9); have X21 := hidOf hx9.1.i; clear hx9 hb9) | (go_at_call 14; with_reducible refine Calls.mono (CF2 _ _ _ _ _ M21.out.ia X21.out) ?_; rintro e w22 ⟨rfl, hb10⟩; have M22 := hidOf (M21.out.below hb10); clear hb10))
            all_goals go_wp2
            all_goals go_ret
            all_goals exact ⟨rfl, M22.out.t.b⟩
          · have h6' : ¬ ((k : Int) = 6) := by omega
            cases hb : mostB n
            · have CN := fun (W : World) => new_bad n W hb
              have hc : n < 1 ∨ (1 ≤ n ∧ 1048576 < n) := by unfold mostB at hb; simp at hb; omega
              clear hb
              rcases hc with h1 | ⟨h1, h2⟩
              all_goals
                go_wp2_with (first | (go_at_call 15; with_reducible refine Calls.mono (CN _) ?_; rintro e w11 ⟨rfl, hb11⟩; have HB11 := hidOf hb11; have hz11 := hb11.size; clear hb11) | (go_at_call 14; with_reducible refine Calls.mono (same_zero _ (((MR.out.below HB11.out).alloc _).alloc _).ia.fr) ?_; rintro e w13 ⟨rfl, hb13⟩; have M13 := hidOf ((((MR.out.below HB11.out).alloc _).alloc _).below hb13); clear hb13))
                go_roundw
                case rel => exact ⟨k + 1, by omega, by omega, by go_num, M13.out⟩
                case measure => simp [intOf]; omega
            · have CN := fun (W : World) (hF : Fr W) => new_any n W hF hb
              obtain ⟨h1, h2⟩ : 1 ≤ n ∧ n ≤ 1048576 := by unfold mostB at hb; simpa using hb
              clear hb
              go_wp2_with (first | (go_at_call 15; with_reducible refine Calls.mono (CN _ MR.out.ia.fr) ?_; rintro e w11 ⟨G, rfl, hG, hg, hb11⟩; have HB11 := hidOf hb11; have HGG := hidOf hg; have hz11 := hb11.size; clear hb11 hg hG) | (go_at_call 16; with_reducible refine Calls.mono (refNew16 _ _) ?_; rintro e w12 ⟨H, rfl, hH, hs12, hb12⟩; have HR12 := hidOf (fun (x y z : Value) => new_rows (x := x) (y := y) (z := z) HGG.out hb12 hH hs12); have HB12 := hidOf (below2 hb12); have hzz := hidOf (ze2 hb12); obtain ⟨y0, y1, y2, yf, y3⟩ := cells3 hzz.out.1; obtain ⟨z0, z1, z2, zf, z3⟩ := cells3 hzz.out.2; have HBV := hidOf (fun (x y z : Value) => below_set3 (HB11.out.trans (HB12.out.mono HB11.out.size)) (show wr.heap.size ≤ w11.heap.size + 1 by omega) x y z); clear hb12 hH hs12) | (go_at_call 14; with_reducible refine Calls.mono (same_new _ _ _ _ (MR.out.below (HBV.out _ _ _)).ia.fr (HR12.out _ _ _).1 (HR12.out _ _ _).2) ?_; rintro e w13 ⟨rfl, hb13⟩; have M13 := hidOf ((MR.out.below (HBV.out _ _ _)).below hb13); clear hb13))
              go_roundw
              case rel => exact ⟨k + 1, by omega, by omega, by go_num, M13.out⟩
              case measure => simp [intOf]; omega
        · obtain rfl : k = ns.length := by omega
          go_wp2
          go_region_held3 (fun w' => w'.cell? ⟨A, 0, none⟩ = some (.int .i64 m) ∧ w'.cell? ⟨A, 1, none⟩ = some (.slice pa l4.length ca) ∧ w'.cell? ⟨A, 2, none⟩ = some (.slice qa f4.length da) ∧ w'.cell? ⟨B, 0, none⟩ = some (.int .i64 m2) ∧ w'.cell? ⟨B, 1, none⟩ = some (.slice pb l5.length cb) ∧ w'.cell? ⟨B, 2, none⟩ = some (.slice qb f5.length db) ∧ w'.cell? ⟨w.heap.size, 0, none⟩ = some (.int .i64 m) ∧ w'.cell? ⟨w.heap.size, 1, none⟩ = some (.slice p l.length c) ∧ w'.cell? ⟨w.heap.size, 2, none⟩ = some (.slice q f.length d)) (first | with_reducible exact M22.out.s9 | with_reducible exact M21.out.s9 | with_reducible exact MR.out.drew.s9 | with_reducible exact MR.out.s9 | fail) (first | (go_at_call 10; with_reducible refine Calls.mono (CO _ MR.out.drew.t.b) ?_; rintro e w21 ⟨p9, c9, q9, d9, rfl, hx9, hb9⟩; have M21 := hidOf (MR.out.drew.below hb9); have X21 := hidOf hx9.1.i; clear hx9 hb9) | (go_at_call 14; with_reducible refine Calls.mono (CF2 _ _ _ _ _ M21.out.ia X21.out) ?_; rintro e w22 ⟨rfl, hb10⟩; have M22 := hidOf (M21.out.below hb10); clear hb10))
          all_goals go_wp2
          all_goals go_ret
          all_goals exact ⟨rfl, M22.out.t.b⟩
end Go.Proofs.YtaglhajlgnjhcaaDoor
