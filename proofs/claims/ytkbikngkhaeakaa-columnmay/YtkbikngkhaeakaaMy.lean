/- ColumnMay: the walk. -/
import Derived.Test.YtkbikngkhaeakaaThM
import Derived.Deep.CutBlock
namespace Go.Proofs.Ytkbikngkhaeakaa
open Go.RowKit

theorem right12B (wd rs : Int) (p : Option Addr) (n c : Nat) (w : World) : Calls Try.prog 12 #[.agg #[.int .i64 wd, .int .i64 rs, .slice p n c]] w fun e w' => e = .returned (.bool (mayB wd rs n)) ∧ Below w.heap.size w w' :=
  (right12 wd rs p n c w).mono fun _ _ ⟨he, hw⟩ => ⟨he, by rw [hw]; exact bal _ _⟩
theorem new_of (z : Int) (X : World) : Calls Try.prog 16 #[.int .i64 z, .slice none 0 0] X fun e w' => ∃ q k, e = .returned (.agg #[.int .i64 z, .int .i64 0, .slice q 0 k]) ∧ OwnR X.heap.size w' q [] k ∧ Below X.heap.size X w' :=
  of16 z none [] 0 X (fun h => by simp at h) (by simp) (by simp [catN])
theorem newY {z : Int} (h : isW z = true) (X : World) : Calls Try.prog 15 #[.int .i64 z] X fun e w' => ∃ q c, e = .returned (.tuple #[.agg #[.int .i64 z, .int .i64 0, .slice q 0 c], .int .i64 0]) ∧ Below X.heap.size X w' := by
  have := new15 z X
  rw [if_pos h] at this
  exact this.mono fun e w' ⟨q, c, h1, _, h3⟩ => ⟨q, c, h1, h3⟩
theorem newN {z : Int} (h : isW z = false) (X : World) : Calls Try.prog 15 #[.int .i64 z] X fun e w' => ∃ q c, e = .returned (.tuple #[.agg #[.int .i64 0, .int .i64 0, .slice q 0 c], .int .i64 2]) ∧ Below X.heap.size X w' := by
  have := new15 z X
  rw [if_neg (by rw [h]; decide)] at this
  exact this.mono fun e w' ⟨q, c, h1, _, h3⟩ => ⟨q, c, h1, h3⟩
theorem same_nil (z : Int) (q : Option Addr) (k : Nat) (q' : Option Addr) (k' : Nat) (X : World) : Calls Try.prog 14 #[.agg #[.int .i64 z, .int .i64 0, .slice q 0 k], .agg #[.int .i64 z, .int .i64 0, .slice q' 0 k']] X fun e w' => e = .returned (.bool true) ∧ Below X.heap.size X w' := by
  have := refSame14 z 0 q [] k z 0 q' [] k' X (fun h => by simp at h) (fun h => by simp at h) (by simp)
  rw [samC_refl] at this
  exact this
theorem new_of2 (z : Int) (X : World) : Calls Try.prog 16 #[.int .i64 z, .slice none 0 0] X fun e w' => ∃ q k, e = .returned (.agg #[.int .i64 z, .int .i64 0, .slice q 0 k]) ∧ Below X.heap.size X w' :=
  (new_of z X).mono fun _ _ ⟨q, c, h1, _, h3⟩ => ⟨q, c, h1, h3⟩
set_option maxRecDepth 20000 in
set_option maxHeartbeats 8000000 in
theorem may_walk (wd rs : Int) (p : Option Addr) (l : List Int) (c : Nat) (wd2 rs2 : Int) (p2 : Option Addr) (l2 : List Int) (c2 : Nat) (pn : Option Addr) (ns : List Int) (cn : Nat) (w : World) (h : InR w p l c) (h2 : InR w p2 l2 c2) (h3 : IRow .i64 w.heap.size w pn ns) (h4 : ns.length ≤ maxLen) :
    Calls Try.prog 3 #[.agg #[.int .i64 wd, .int .i64 rs, .slice p l.length c], .agg #[.int .i64 wd2, .int .i64 rs2, .slice p2 l2.length c2], .slice pn ns.length cn] w fun e w' => e = .returned (.bool true) ∧ Below w.heap.size w w' := by
  have CO := fun (X : World) (hb : Below w.heap.size w X) => own10 wd rs p l c X (h.to hb)
  have CO2 := fun (X : World) (hb : Below w.heap.size w X) => own10 wd2 rs2 p2 l2 c2 X (h2.to hb)
  obtain ⟨L, hL⟩ : ∃ L, L = l.take 60 := ⟨_, rfl⟩
  obtain ⟨L2, hL2⟩ : ∃ L2, L2 = l2.take 60 := ⟨_, rfl⟩
  rw [← hL] at CO
  rw [← hL2] at CO2
  obtain ⟨n, hn⟩ : ∃ n, n = l.length := ⟨_, rfl⟩
  obtain ⟨n2, hn2⟩ : ∃ n2, n2 = l2.length := ⟨_, rfl⟩
  rw [← hn] at CO ⊢
  rw [← hn2] at CO2 ⊢
  have T0 := hidOg (Tw.start w (.int .i64 wd) (.int .i64 rs) (.slice p n c) (.int .i64 wd2) (.int .i64 rs2) (.slice p2 n2 c2))
  have HN := hidOg h3
  have hlen60 : L.length ≤ 60 := by rw [hL]; simp; omega
  have HLN := hidOg hlen60
  obtain ⟨nn, hnn⟩ : ∃ nn, nn = ns.length := ⟨_, rfl⟩
  have HNN := hidOg hnn
  rw [← hnn] at h4 ⊢
  have hnn63 : nn ≤ 9223372036854775807 := by unfold maxLen at h4; omega
  clear h h2 hL hL2 hn hn2 h3 h4 hlen60 hnn
  replace CO : ∀ (X : World), Below w.heap.size w X → Calls Try.prog 10 #[.agg #[.int .i64 wd, .int .i64 rs, .slice p n c]] X fun e w' => ∃ q k, e = .returned (.agg #[.int .i64 wd, .int .i64 rs, .slice q L.length k]) ∧ OwnR X.heap.size w' q L k ∧ Below X.heap.size X w' := CO
  replace CO2 : ∀ (X : World), Below w.heap.size w X → Calls Try.prog 10 #[.agg #[.int .i64 wd2, .int .i64 rs2, .slice p2 n2 c2]] X fun e w' => ∃ q k, e = .returned (.agg #[.int .i64 wd2, .int .i64 rs2, .slice q L2.length k]) ∧ OwnR X.heap.size w' q L2 k ∧ Below X.heap.size X w' := CO2
  go_enter Try.func3, Try.ntmps3
  go_wp2_with (first | (go_at_call 9; refine Calls.mono (wakes9 _) ?_; rintro e w1 ⟨rfl, hb1⟩; have T1 := hidOg (T0.out.below hb1); obtain ⟨a0, a1, a2, _, az⟩ := cells3 T1.out.a; obtain ⟨b0, b1, b2, _, bz⟩ := cells3 T1.out.r; clear hb1))
  have T2 := T1
  have T3 := T1
  go_cut [7, 8] from 19 to 22 (fun s7 s8 wx => ∃ A qa ca B qb cb, s7 = .pointer (some ⟨A, 0, none⟩) ∧ s8 = .pointer (some ⟨B, 0, none⟩) ∧ BC A wd rs qa L ca wx ∧ BC B wd2 rs2 qb L2 cb wx ∧ Tw w wx (.int .i64 wd) (.int .i64 rs) (.slice p n c) (.int .i64 wd2) (.int .i64 rs2) (.slice p2 n2 c2))
  case first =>
    go_region_held3 (fun w' => w'.cell? ⟨w.heap.size, 0, none⟩ = some (.int .i64 wd) ∧ w'.cell? ⟨w.heap.size, 1, none⟩ = some (.int .i64 rs) ∧ w'.cell? ⟨w.heap.size, 2, none⟩ = some (.slice p n c) ∧ w'.cell? ⟨w.heap.size + 1, 0, none⟩ = some (.int .i64 wd2) ∧ w'.cell? ⟨w.heap.size + 1, 1, none⟩ = some (.int .i64 rs2) ∧ w'.cell? ⟨w.heap.size + 1, 2, none⟩ = some (.slice p2 n2 c2)) (first | (refine Tw.s6 (x := .int .i64 wd) (y := .int .i64 rs) (z := .slice p n c) (x' := .int .i64 wd2) (y' := .int .i64 rs2) (z' := .slice p2 n2 c2) ?_; (repeat (first | with_reducible exact T3.out | with_reducible exact T2.out | with_reducible exact T1.out | with_reducible apply Tw.alloc | with_reducible apply Tw.drew | (with_reducible refine Tw.set3 ?_ (by omega)))); done) | fail) (first | (go_at_call_has 10 p; (with_reducible refine Calls.mono (CO _ ?_) ?_); (focus (refine Tw.b (x := .int .i64 wd) (y := .int .i64 rs) (z := .slice p n c) (x' := .int .i64 wd2) (y' := .int .i64 rs2) (z' := .slice p2 n2 c2) ?_; (repeat (first | with_reducible exact T3.out | with_reducible exact T2.out | with_reducible exact T1.out | with_reducible apply Tw.alloc | with_reducible apply Tw.drew | (with_reducible refine Tw.set3 ?_ (by omega)))); done)); rintro e w2 ⟨qa, ca, rfl, hx, hb2⟩; obtain ⟨F1, hF1, hA2⟩ := oe0x hx; (try rw [size_drew] at hF1); (try rw [World.size_alloc] at hF1); (try rw [World.size_alloc] at hF1); have A2 := hidOg hA2; clear hA2; clear hx; have T2 := hidOg (show Tw w w2 (.int .i64 wd) (.int .i64 rs) (.slice p n c) (.int .i64 wd2) (.int .i64 rs2) (.slice p2 n2 c2) by refine Tw.below ?_ hb2; (repeat (first | with_reducible exact T3.out | with_reducible exact T2.out | with_reducible exact T1.out | with_reducible apply Tw.alloc | with_reducible apply Tw.drew | (with_reducible refine Tw.set3 ?_ (by omega)))); done); have HB12 := hidOg (show Below w1.heap.size w1 w2 by first | with_reducible exact bd0 hb2 | with_reducible exact bd1 hb2 | with_reducible exact bd2 hb2); have hz2 := HB12.out.size; (first | (have HYY := hidOg (zz2 hb2); obtain ⟨y0, y1, y2, yf, y3⟩ := cells3 HYY.out.1; obtain ⟨z0, z1, z2, zf, z3⟩ := cells3 HYY.out.2) | (have HY := hidOg (zz1 hb2); obtain ⟨y0, y1, y2, yf, y3⟩ := cells3 HY.out) | skip)) | (go_at_call_has 10 p2; (with_reducible refine Calls.mono (CO2 _ ?_) ?_); (focus (refine Tw.b (x := .int .i64 wd) (y := .int .i64 rs) (z := .slice p n c) (x' := .int .i64 wd2) (y' := .int .i64 rs2) (z' := .slice p2 n2 c2) ?_; (repeat (first | with_reducible exact T3.out | with_reducible exact T2.out | with_reducible exact T1.out | with_reducible apply Tw.alloc | with_reducible apply Tw.drew | (with_reducible refine Tw.set3 ?_ (by omega)))); done)); rintro e w3 ⟨qb, cb, rfl, hx, hb3⟩; obtain ⟨F2, hF2, hA4⟩ := oe0x hx; (try rw [size_drew] at hF2); (try rw [World.size_alloc] at hF2); (try rw [World.size_alloc] at hF2); have A4 := hidOg hA4; clear hA4; clear hx; have T3 := hidOg (show Tw w w3 (.int .i64 wd) (.int .i64 rs) (.slice p n c) (.int .i64 wd2) (.int .i64 rs2) (.slice p2 n2 c2) by refine Tw.below ?_ hb3; (repeat (first | with_reducible exact T3.out | with_reducible exact T2.out | with_reducible exact T1.out | with_reducible apply Tw.alloc | with_reducible apply Tw.drew | (with_reducible refine Tw.set3 ?_ (by omega)))); done); have HB23 := hidOg (show Below w2.heap.size w2 w3 by first | with_reducible exact hb3 | with_reducible exact be1 hb3 | with_reducible exact be2 hb3); have hz3 := HB23.out.size; have A3 := hidOg (OF.below A2.out HB23.out); (first | (have UU := hidOg (atW HB23.out HYY.out.1); have UV := hidOg (atW HB23.out HYY.out.2); obtain ⟨u0, u1, u2, uf, u3⟩ := cells3 UU.out; obtain ⟨v0, v1, v2, vf, v3⟩ := cells3 UV.out) | (have UU := hidOg (atW HB23.out HY.out); obtain ⟨u0, u1, u2, uf, u3⟩ := cells3 UU.out) | skip); (first | (have VV := hidOg (ze2 hb3); obtain ⟨r0, r1, r2, rf, r3⟩ := cells3 VV.out.1; obtain ⟨t0, t1, t2, tf, t3⟩ := cells3 VV.out.2) | (have V := hidOg (ze1 hb3); obtain ⟨r0, r1, r2, rf, r3⟩ := cells3 V.out) | skip)))
    all_goals go_wp2
    all_goals go_meet
    all_goals
      refine ⟨_, qa, ca, _, qb, cb, rfl, rfl, BC.of (F := F1) (N := w2.heap.size) ?_ ?_, BC.of (F := F2) (N := w3.heap.size) ?_ ?_, ?_⟩
      · (repeat (first | with_reducible exact UU.out | with_reducible exact UV.out | with_reducible exact V.out | with_reducible exact VV.out.1 | with_reducible exact VV.out.2 | with_reducible exact heap_at rfl | with_reducible exact heap_at (by first | omega | (simp only [World.size_alloc]; omega) | (simp; done)) | with_reducible refine set3_same (x := .int .i64 0) (y := .int .i64 0) (z := .slice none 0 0) ?_ | with_reducible refine (set3_other (by omega)).trans ?_ | with_reducible refine (heap_alloc_old (by first | omega | (simp only [World.size_alloc]; omega) | (simp; omega) | (simp; done))).trans ?_))
      · repeat (first | with_reducible exact A3.out | with_reducible apply OF.alloc | with_reducible refine OF.set3 ?_ (by omega))
      · (repeat (first | with_reducible exact UU.out | with_reducible exact UV.out | with_reducible exact V.out | with_reducible exact VV.out.1 | with_reducible exact VV.out.2 | with_reducible exact heap_at rfl | with_reducible exact heap_at (by first | omega | (simp only [World.size_alloc]; omega) | (simp; done)) | with_reducible refine set3_same (x := .int .i64 0) (y := .int .i64 0) (z := .slice none 0 0) ?_ | with_reducible refine (set3_other (by omega)).trans ?_ | with_reducible refine (heap_alloc_old (by first | omega | (simp only [World.size_alloc]; omega) | (simp; omega) | (simp; done))).trans ?_))
      · repeat (first | with_reducible exact A4.out | with_reducible apply OF.alloc | with_reducible refine OF.set3 ?_ (by omega))
      · (repeat (first | with_reducible exact T3.out | with_reducible exact T2.out | with_reducible exact T1.out | with_reducible apply Tw.alloc | with_reducible apply Tw.drew | (with_reducible refine Tw.set3 ?_ (by omega))))
  case rest =>
    obtain ⟨A, qa, ca, B, qb, cb, rfl, rfl, hBA, hBB, hT⟩ := hcut
    obtain ⟨wz, hwz⟩ : ∃ x, x = wc := ⟨_, rfl⟩
    subst hwz
    have HBA := hidOg hBA
    have HBB := hidOg hBB
    have HT := hidOg hT
    obtain ⟨g0, g1, g2⟩ := hBA.cells
    clear hBA hBB hT T0 T1 T2 T3 a0 a1 a2 b0 b1 b2 az bz CO2
    have CC := fun (q : Option Addr) (k : Nat) (X : World) => check11 wd rs q L k X (by have := HLN.out; unfold maxLen; omega)
    have CR := fun (q : Option Addr) (k : Nat) (X : World) => right12B wd rs q L.length k X
    obtain ⟨er, her⟩ : ∃ er, er = chkE wd rs L := ⟨_, rfl⟩
    obtain ⟨m, hm⟩ : ∃ m, m = mayB wd rs L.length := ⟨_, rfl⟩
    obtain ⟨sv, hsv⟩ : ∃ sv, sv = samC wd rs L wd2 rs2 L2 := ⟨_, rfl⟩
    have CM := fun (X : World) (h1 : Row X qa L ca) (h2 : Row X qb L2 cb) => same13 wd rs qa L ca wd2 rs2 qb L2 cb X h1.i h2.i (by have := HLN.out; omega)
    have CF := fun (X : World) (h1 : Row X qa L ca) (h2 : Row X qb L2 cb) => refSame14 wd rs qa L ca wd2 rs2 qb L2 cb X h1.i h2.i (by have := HLN.out; omega)
    rw [← hsv] at CM CF
    rw [← her] at CC
    rw [← hm] at CR
    have HM := hidOg hm
    have d1 : ((er == 0) != m) = false := by rw [her, hm]; unfold chkE; cases mayB wd rs L.length <;> rfl
    have d2 : ((er != 0) && (er != 180)) = false := by rw [her]; unfold chkE; cases mayB wd rs L.length <;> rfl
    have d3 : er = 0 ∨ er = 180 := by rw [her]; unfold chkE; cases mayB wd rs L.length <;> simp
    clear her hm hsv
    have KS : Hid (∀ X, Below wz.heap.size wz X → (BC A wd rs qa L ca X ∧ BC B wd2 rs2 qb L2 cb X ∧ Tw w X (.int .i64 wd) (.int .i64 rs) (.slice p n c) (.int .i64 wd2) (.int .i64 rs2) (.slice p2 n2 c2)) ∧ X.cell? ⟨A, 0, none⟩ = some (.int .i64 wd) ∧ X.cell? ⟨A, 1, none⟩ = some (.int .i64 rs) ∧ X.cell? ⟨A, 2, none⟩ = some (.slice qa L.length ca) ∧ X.cell? ⟨B, 0, none⟩ = some (.int .i64 wd2) ∧ X.cell? ⟨B, 1, none⟩ = some (.int .i64 rs2) ∧ X.cell? ⟨B, 2, none⟩ = some (.slice qb L2.length cb)) := fun X hb => by
      have f1 := HBA.out.to hb
      have f2 := HBB.out.to hb
      obtain ⟨k0, k1, k2⟩ := f1.cells
      obtain ⟨k3, k4, k5⟩ := f2.cells
      exact ⟨⟨f1, f2, HT.out.below hb⟩, k0, k1, k2, k3, k4, k5⟩
    have HER : Hid ((er = 0 ∧ m = true) ∨ (er = 180 ∧ m = false)) := by
      unfold Hid
      rcases d3 with e | e
      · subst e; cases m
        · simp at d1
        · exact .inl ⟨rfl, rfl⟩
      · subst e; cases m
        · exact .inr ⟨rfl, rfl⟩
        · simp at d1
    clear HBA HBB HT d1 d2 d3
    rcases HER.out with ⟨rfl, rfl⟩ | ⟨rfl, rfl⟩
    · clear HER
      go_wp2_with (first
        | (go_at_call 11; refine Calls.mono (CC _ _ _) ?_; rintro e v0 ⟨rfl, hb⟩; have HDc := hidOg hb; have HD0 : Hid (Below wz.heap.size wz v0.drew) := hb.drew; obtain ⟨_, j0, j1, j2, j3, j4, j5⟩ := KS.out _ HDc.out; clear hb))
      first | (go_region_held (fun w' => w'.cell? ⟨A, 0, none⟩ = some (.int .i64 wd) ∧ w'.cell? ⟨A, 1, none⟩ = some (.int .i64 rs) ∧ w'.cell? ⟨A, 2, none⟩ = some (.slice qa L.length ca) ∧ w'.cell? ⟨B, 0, none⟩ = some (.int .i64 wd2) ∧ w'.cell? ⟨B, 1, none⟩ = some (.int .i64 rs2) ∧ w'.cell? ⟨B, 2, none⟩ = some (.slice qb L2.length cb)) (first | with_reducible exact ⟨k0, k1, k2, k3, k4, k5⟩ | with_reducible exact ⟨j0, j1, j2, j3, j4, j5⟩ | go_keep) (first
        | (go_at_call 12; refine Calls.mono (CR _ _ _) ?_; rintro e v1 ⟨rfl, hb⟩; have HD1 := hidOg (HD0.out.trans (hb.mono HD0.out.size)); obtain ⟨_, k0, k1, k2, k3, k4, k5⟩ := KS.out _ HD1.out; clear hb)
        | (go_at_call 13; refine Calls.mono (CM _ (KS.out _ HD1.out).1.1.r (KS.out _ HD1.out).1.2.1.r) ?_; rintro e v2 ⟨rfl, hb⟩; have HD2 := hidOg (HD1.out.trans (hb.mono HD1.out.size)); obtain ⟨_, k0, k1, k2, k3, k4, k5⟩ := KS.out _ HD2.out; clear hb)
        | (go_at_call 14; refine Calls.mono (CF _ (KS.out _ HD2.out).1.1.r (KS.out _ HD2.out).1.2.1.r) ?_; rintro e v3 ⟨rfl, hb⟩; have HD3 := hidOg (HD2.out.trans (hb.mono HD2.out.size)); obtain ⟨_, k0, k1, k2, k3, k4, k5⟩ := KS.out _ HD3.out; clear hb))) | fail
      go_upto_block 0 with fail
      go_cut [10, 11, 12, 13, 14, 15] from 49 to 79 (fun _ _ _ _ _ _ wx => Below wz.heap.size wz wx)
      case first =>
        have KN : Hid (∀ X, Below wz.heap.size wz X → IRow .i64 X.heap.size X pn ns) := fun X hb => HN.out.to ((KS.out X hb).1.2.2.b)
        clear CC CR CM CF CO HM HLN k0 k1 k2 k3 k4 k5 j0 j1 j2 j3 j4 j5 g0 g1 g2 KS HDc HD0 HD1 HD2
        go_wp2
        go_loopw [49] (fun i wr => ∃ k : Nat, k ≤ nn ∧ k ≤ 6 ∧ i = .int .i64 k ∧ Below wz.heap.size wz wr) (fun i _ => nn - (intOf i).toNat)
        case atStart => exact ⟨0, Nat.zero_le _, Nat.zero_le _, rfl, HD3.out⟩
        case round =>
          obtain ⟨k, hk, hk6, rfl, hB⟩ := hrel
          have HB : Hid (Be wz.heap.size wz wr) := ⟨hB, hB.size⟩
          by_cases hlt : k < nn
          · obtain ⟨b, off, rfl, hbN, hcs⟩ := (KN.out _ hB) (by rw [← HNN.out]; omega)
            have c0 := hcs k (by rw [← HNN.out]; exact hlt)
            obtain ⟨z, hz⟩ : ∃ z, z = iG ns k := ⟨_, rfl⟩
            rw [← hz] at c0
            clear hcs hB hz KN
            by_cases h6 : k = 6
            · have e6 : ((k : Int) == 6) = true := by simp; omega
              clear h6
              go_wp2
              go_meet
              case rel => exact HB.out.b
            · have e6 : ((k : Int) == 6) = false := by simp; omega
              have hk5 : k < 6 := by omega
              clear h6
              by_cases hz0 : 0 ≤ z
              · by_cases hz4 : z ≤ 4
                · have CN := newY (z := z) (by unfold isW; simp [hz0, hz4])
                  go_wp2_with (first
                    | (go_at_call 15; refine Calls.mono (CN _) ?_; rintro e w5 ⟨q5, c5, rfl, hb⟩; have HB5 := hidOg (((HB.out.to hb).al (.cells #[.int .i64 z, .int .i64 0, .slice q5 0 c5] 24)).al (.cells #[.int .i64 0, .int .i64 0, .slice none 0 0] 24)); have hs5 := HB.out.to hb; have HS5 := hidOg hs5.s; clear hb hs5)
                    | (go_at_call 16; refine Calls.mono (new_of2 z _) ?_; rintro e w6 ⟨q6, c6, rfl, hb⟩; obtain ⟨r0, r1, r2, rf⟩ := heap3_cell (atW hb ((heap_alloc_old (w := w5.alloc (.cells #[.int .i64 z, .int .i64 0, .slice q5 0 c5] 24)) (by simp)).trans (heap_at (W := w5) rfl))); obtain ⟨t0, t1, t2, tf⟩ := heap3_cell (atW hb (heap_at (W := w5.alloc (.cells #[.int .i64 z, .int .i64 0, .slice q5 0 c5] 24)) (n := w5.heap.size + 1) (by simp))); have HB6 := hidOg (HB5.out.to hb); clear hb)
                    | (go_at_call 14; refine Calls.mono (same_nil z _ _ _ _ _) ?_; rintro e w7 ⟨rfl, hb⟩; have HB7 := hidOg ((HB6.out.st3 (B := w5.heap.size + 1) (by have := HS5.out; omega) _ _ _).to hb); clear hb))
                  go_roundw
                  case rel => exact ⟨k + 1, by omega, by omega, by go_num, HB7.out.b⟩
                  case measure => simp [intOf]; omega
                · have CN := newN (z := z) (by unfold isW; simp [hz4])
                  go_wp2_with (first
                    | (go_at_call 15; refine Calls.mono (CN _) ?_; rintro e w5 ⟨q5, c5, rfl, hb⟩; have HB5 := hidOg (((HB.out.to hb).al (.cells #[.int .i64 0, .int .i64 0, .slice q5 0 c5] 24)).al (.cells #[.int .i64 0, .int .i64 0, .slice none 0 0] 24)); clear hb)
                    | (go_at_call 14; refine Calls.mono (same_nil 0 _ _ _ _ _) ?_; rintro e w7 ⟨rfl, hb⟩; have HB7 := hidOg (HB5.out.to hb); clear hb))
                  go_roundw
                  case rel => exact ⟨k + 1, by omega, by omega, by go_num, HB7.out.b⟩
                  case measure => simp [intOf]; omega
              · have CN := newN (z := z) (by unfold isW; simp [hz0])
                go_wp2_with (first
                  | (go_at_call 15; refine Calls.mono (CN _) ?_; rintro e w5 ⟨q5, c5, rfl, hb⟩; have HB5 := hidOg (((HB.out.to hb).al (.cells #[.int .i64 0, .int .i64 0, .slice q5 0 c5] 24)).al (.cells #[.int .i64 0, .int .i64 0, .slice none 0 0] 24)); clear hb)
                  | (go_at_call 14; refine Calls.mono (same_nil 0 _ _ _ _ _) ?_; rintro e w7 ⟨rfl, hb⟩; have HB7 := hidOg (HB5.out.to hb); clear hb))
                go_roundw
                case rel => exact ⟨k + 1, by omega, by omega, by go_num, HB7.out.b⟩
                case measure => simp [intOf]; omega
          · obtain rfl : k = nn := by omega
            clear hB
            go_wp2
            go_meet
            case rel => exact HB.out.b
      case rest =>
        have HF0 := hidOg hcut
        have HM' : mayB wd rs L.length = true := HM.out.symm
        obtain ⟨W, R, rfl, rfl, hcv⟩ := cv_of HM' (KS.out _ hcut).1.1.r (KS.out _ hcut).1.1.m
        clear hcv
        have K2 : Hid (∀ X, Below wz.heap.size wz X → (BC A (W : Int) (R : Int) qa L ca X ∧ Tw w X (.int .i64 (W : Int)) (.int .i64 (R : Int)) (.slice p n c) (.int .i64 wd2) (.int .i64 rs2) (.slice p2 n2 c2)) ∧ X.cell? ⟨A, 0, none⟩ = some (.int .i64 (W : Int)) ∧ X.cell? ⟨A, 1, none⟩ = some (.int .i64 (R : Int)) ∧ X.cell? ⟨A, 2, none⟩ = some (.slice qa L.length ca) ∧ X.cell? ⟨w.heap.size, 0, none⟩ = some (.int .i64 (W : Int)) ∧ X.cell? ⟨w.heap.size, 1, none⟩ = some (.int .i64 (R : Int)) ∧ X.cell? ⟨w.heap.size, 2, none⟩ = some (.slice p n c)) := fun X hb => by
          obtain ⟨⟨f1, _, f3⟩, _⟩ := KS.out X hb
          obtain ⟨k0, k1, k2⟩ := f1.cells
          obtain ⟨k3, k4, k5, _⟩ := f3.s6
          exact ⟨⟨f1, f3⟩, k0, k1, k2, k3, k4, k5⟩
        have HM2 := hidOg HM'
        have CS := fun (q : Option Addr) (k : Nat) (X : World) => small17 (W : Int) (R : Int) q L.length k X
        have CW := fun (q : Option Addr) (k : Nat) (X : World) (h1 : Row X qa L ca) (h2 : Row X q L k) => refSame14 (W : Int) (R : Int) qa L ca (W : Int) (R : Int) q L k X h1.i h2.i (by have := HLN.out; omega)
        rw [samC_refl] at CW
        cases hs : smB (W : Int) (R : Int) L.length
        · rw [hs] at CS
          obtain ⟨_, k0, k1, k2, k3, k4, k5⟩ := K2.out _ HF0.out
          clear hs HM' hcut KS CC CM CF CR CO j0 j1 j2 j3 j4 j5 g0 g1 g2
          go_wp2_with (first | (go_at_call 17; refine Calls.mono (CS _ _ _) ?_; rintro e x1 ⟨rfl, hb⟩; have HF1 := hidOg (HF0.out.trans (hb.mono HF0.out.size)); obtain ⟨_, k0, k1, k2, k3, k4, k5⟩ := K2.out _ HF1.out; clear hb))
          go_ret
          exact ⟨rfl, (K2.out _ HF1.out).1.2.b⟩
        · have hR : R ≤ 200 := by
            have h1 := hs
            unfold smB at h1; rw [HM'] at h1
            have : (R : Int) ≤ 200 := by simpa using h1
            omega
          have CV1 := fun (X : World) (h : BC A (W : Int) (R : Int) qa L ca X) => rows18 W R qa L ca X ⟨h.r, by
            have := (mayB_t HM2.out).2.2.2.2
            exact_mod_cast this, by have := (mayB_t HM2.out).2.1; omega, by omega, h.m⟩ (by omega)
          have C20 := fun (X : World) (h : BC A (W : Int) (R : Int) qa L ca X) => rows20 (W : Int) (R : Int) qa L ca X h.r h.m hs
          rw [roS_of HM'] at C20
          have HFEW : Hid (∀ X : List RR, lS X = chK W R L → X.length ≤ 1000 ∧ ∀ x ∈ X, x.2.1.length ≤ 1000) := fun X h => few_of (A := chK W R L) (by rw [h]) (by rw [chK_len]; omega) (fun y hy => by
            have h4 := (mayB_t HM2.out).2.1
            rw [chK_mem (by have := (mayB_t HM2.out).2.2.2.2; exact_mod_cast this) hy]; omega)
          rw [hs] at CS
          obtain ⟨_, k0, k1, k2, k3, k4, k5⟩ := K2.out _ HF0.out
          obtain ⟨A0, hA0⟩ : ∃ A0, A0 = chK W R L := ⟨_, rfl⟩
          rw [← hA0] at CV1 C20 HFEW
          clear hs HM' hcut KS CC CM CF hA0 j0 j1 j2 j3 j4 j5 g0 g1 g2
          go_wp2_with (first | (go_at_call 17; refine Calls.mono (CS _ _ _) ?_; rintro e x1 ⟨rfl, hb⟩; have HF1 := hidOg (HF0.out.trans (hb.mono HF0.out.size)); obtain ⟨_, k0, k1, k2, k3, k4, k5⟩ := K2.out _ HF1.out; clear hb) | (go_at_call 12; refine Calls.mono (CR _ _ _) ?_; rintro e x2 ⟨rfl, hb⟩; have HF2 := hidOg (HF1.out.trans (hb.mono HF1.out.size)); obtain ⟨_, k0, k1, k2, k3, k4, k5⟩ := K2.out _ HF2.out; clear hb) | (go_at_call 18; refine Calls.mono (CV1 _ (K2.out _ HF2.out).1.1) ?_; rintro e x3 ⟨qx, cx, XX, rfl, hXX, hRX, hb⟩; have HF3 := hidOg (HF2.out.trans (hb.mono HF2.out.size)); obtain ⟨_, k0, k1, k2, k3, k4, k5⟩ := K2.out _ HF3.out; have HXX := hidOg hXX; have HRX := hidOg hRX; clear hXX hRX; clear hb))
          have HF4 : Hid (Below wz.heap.size wz x3.drew) := HF3.out.drew
          have HRX4 := hidOg (HRX.out.to ((Below.refl _ x3).drew))
          go_region_held3 (fun w' => w'.cell? ⟨A, 0, none⟩ = some (.int .i64 (W : Int)) ∧ w'.cell? ⟨A, 1, none⟩ = some (.int .i64 (R : Int)) ∧ w'.cell? ⟨A, 2, none⟩ = some (.slice qa L.length ca) ∧ w'.cell? ⟨w.heap.size, 0, none⟩ = some (.int .i64 (W : Int)) ∧ w'.cell? ⟨w.heap.size, 1, none⟩ = some (.int .i64 (R : Int)) ∧ w'.cell? ⟨w.heap.size, 2, none⟩ = some (.slice p n c)) (first | with_reducible exact ⟨k0, k1, k2, k3, k4, k5⟩ | go_keep) (first
            | (go_at_call 20; refine Calls.mono (C20 _ (K2.out _ HF4.out).1.1) ?_; rintro e x5 ⟨qy, cy, YY, rfl, hYY, hRY, hb⟩; have HF5 := hidOg (HF4.out.trans (hb.mono HF4.out.size)); obtain ⟨_, k0, k1, k2, k3, k4, k5⟩ := K2.out _ HF5.out; have HYY := hidOg hYY; have HRY := hidOg hRY; have HRX5 := hidOg (HRX4.out.to hb); clear hYY hRY; clear hb)
            | (go_at_call 19; refine Calls.mono (eqf_yes _ _ _ _ _ _ _ HRY.out HRX5.out (HFEW.out _ HYY.out).1 (HFEW.out _ HYY.out).2 (HYY.out.trans HXX.out.symm)) ?_; rintro e x6 ⟨rfl, hb⟩; have HF6 := hidOg (HF5.out.trans (hb.mono HF5.out.size)); obtain ⟨_, k0, k1, k2, k3, k4, k5⟩ := K2.out _ HF6.out; clear hb)
            | (go_at_call 10; refine Calls.mono (CO _ (K2.out _ HF6.out).1.2.b) ?_; rintro e x7 ⟨qo, co, rfl, ho, hb⟩; have HF7 := hidOg (HF6.out.trans (hb.mono HF6.out.size)); obtain ⟨_, k0, k1, k2, k3, k4, k5⟩ := K2.out _ HF7.out; have HO7 := hidOg ho.row; clear ho; clear hb)
            | (go_at_call 14; refine Calls.mono (CW _ _ _ (K2.out _ HF7.out).1.1.r HO7.out) ?_; rintro e x8 ⟨rfl, hb⟩; have HF8 := hidOg (HF7.out.trans (hb.mono HF7.out.size)); obtain ⟨_, k0, k1, k2, k3, k4, k5⟩ := K2.out _ HF8.out; clear hb))
          all_goals
            go_wp2
            go_ret
            exact ⟨rfl, (K2.out _ HF8.out).1.2.b⟩
    · clear HER
      go_wp2_with (first
        | (go_at_call 11; refine Calls.mono (CC _ _ _) ?_; rintro e v0 ⟨rfl, hb⟩; have HDc := hidOg hb; have HD0 : Hid (Below wz.heap.size wz v0.drew) := hb.drew; obtain ⟨_, j0, j1, j2, j3, j4, j5⟩ := KS.out _ HDc.out; clear hb))
      go_region_held3 (fun w' => w'.cell? ⟨A, 0, none⟩ = some (.int .i64 wd) ∧ w'.cell? ⟨A, 1, none⟩ = some (.int .i64 rs) ∧ w'.cell? ⟨A, 2, none⟩ = some (.slice qa L.length ca) ∧ w'.cell? ⟨B, 0, none⟩ = some (.int .i64 wd2) ∧ w'.cell? ⟨B, 1, none⟩ = some (.int .i64 rs2) ∧ w'.cell? ⟨B, 2, none⟩ = some (.slice qb L2.length cb)) (first | with_reducible exact ⟨k0, k1, k2, k3, k4, k5⟩ | with_reducible exact ⟨j0, j1, j2, j3, j4, j5⟩ | go_keep) (first
        | (go_at_call 12; refine Calls.mono (CR _ _ _) ?_; rintro e v1 ⟨rfl, hb⟩; have HD1 := hidOg (HD0.out.trans (hb.mono HD0.out.size)); obtain ⟨_, k0, k1, k2, k3, k4, k5⟩ := KS.out _ HD1.out; clear hb)
        | (go_at_call 13; refine Calls.mono (CM _ (KS.out _ HD1.out).1.1.r (KS.out _ HD1.out).1.2.1.r) ?_; rintro e v2 ⟨rfl, hb⟩; have HD2 := hidOg (HD1.out.trans (hb.mono HD1.out.size)); obtain ⟨_, k0, k1, k2, k3, k4, k5⟩ := KS.out _ HD2.out; clear hb)
        | (go_at_call 14; refine Calls.mono (CF _ (KS.out _ HD2.out).1.1.r (KS.out _ HD2.out).1.2.1.r) ?_; rintro e v3 ⟨rfl, hb⟩; have HD3 := hidOg (HD2.out.trans (hb.mono HD2.out.size)); obtain ⟨_, k0, k1, k2, k3, k4, k5⟩ := KS.out _ HD3.out; clear hb))
      go_upto_block 0 with fail
      go_cut [10, 11, 12, 13, 14, 15] from 49 to 79 (fun _ _ _ _ _ _ wx => Below wz.heap.size wz wx)
      case first =>
        have KN : Hid (∀ X, Below wz.heap.size wz X → IRow .i64 X.heap.size X pn ns) := fun X hb => HN.out.to ((KS.out X hb).1.2.2.b)
        clear CC CR CM CF CO HM HLN k0 k1 k2 k3 k4 k5 j0 j1 j2 j3 j4 j5 g0 g1 g2 KS HDc HD0 HD1 HD2
        go_wp2
        go_loopw [49] (fun i wr => ∃ k : Nat, k ≤ nn ∧ k ≤ 6 ∧ i = .int .i64 k ∧ Below wz.heap.size wz wr) (fun i _ => nn - (intOf i).toNat)
        case atStart => exact ⟨0, Nat.zero_le _, Nat.zero_le _, rfl, HD3.out⟩
        case round =>
          obtain ⟨k, hk, hk6, rfl, hB⟩ := hrel
          have HB : Hid (Be wz.heap.size wz wr) := ⟨hB, hB.size⟩
          by_cases hlt : k < nn
          · obtain ⟨b, off, rfl, hbN, hcs⟩ := (KN.out _ hB) (by rw [← HNN.out]; omega)
            have c0 := hcs k (by rw [← HNN.out]; exact hlt)
            obtain ⟨z, hz⟩ : ∃ z, z = iG ns k := ⟨_, rfl⟩
            rw [← hz] at c0
            clear hcs hB hz KN
            by_cases h6 : k = 6
            · have e6 : ((k : Int) == 6) = true := by simp; omega
              clear h6
              go_wp2
              go_meet
              case rel => exact HB.out.b
            · have e6 : ((k : Int) == 6) = false := by simp; omega
              have hk5 : k < 6 := by omega
              clear h6
              by_cases hz0 : 0 ≤ z
              · by_cases hz4 : z ≤ 4
                · have CN := newY (z := z) (by unfold isW; simp [hz0, hz4])
                  go_wp2_with (first
                    | (go_at_call 15; refine Calls.mono (CN _) ?_; rintro e w5 ⟨q5, c5, rfl, hb⟩; have HB5 := hidOg (((HB.out.to hb).al (.cells #[.int .i64 z, .int .i64 0, .slice q5 0 c5] 24)).al (.cells #[.int .i64 0, .int .i64 0, .slice none 0 0] 24)); have hs5 := HB.out.to hb; have HS5 := hidOg hs5.s; clear hb hs5)
                    | (go_at_call 16; refine Calls.mono (new_of2 z _) ?_; rintro e w6 ⟨q6, c6, rfl, hb⟩; obtain ⟨r0, r1, r2, rf⟩ := heap3_cell (atW hb ((heap_alloc_old (w := w5.alloc (.cells #[.int .i64 z, .int .i64 0, .slice q5 0 c5] 24)) (by simp)).trans (heap_at (W := w5) rfl))); obtain ⟨t0, t1, t2, tf⟩ := heap3_cell (atW hb (heap_at (W := w5.alloc (.cells #[.int .i64 z, .int .i64 0, .slice q5 0 c5] 24)) (n := w5.heap.size + 1) (by simp))); have HB6 := hidOg (HB5.out.to hb); clear hb)
                    | (go_at_call 14; refine Calls.mono (same_nil z _ _ _ _ _) ?_; rintro e w7 ⟨rfl, hb⟩; have HB7 := hidOg ((HB6.out.st3 (B := w5.heap.size + 1) (by have := HS5.out; omega) _ _ _).to hb); clear hb))
                  go_roundw
                  case rel => exact ⟨k + 1, by omega, by omega, by go_num, HB7.out.b⟩
                  case measure => simp [intOf]; omega
                · have CN := newN (z := z) (by unfold isW; simp [hz4])
                  go_wp2_with (first
                    | (go_at_call 15; refine Calls.mono (CN _) ?_; rintro e w5 ⟨q5, c5, rfl, hb⟩; have HB5 := hidOg (((HB.out.to hb).al (.cells #[.int .i64 0, .int .i64 0, .slice q5 0 c5] 24)).al (.cells #[.int .i64 0, .int .i64 0, .slice none 0 0] 24)); clear hb)
                    | (go_at_call 14; refine Calls.mono (same_nil 0 _ _ _ _ _) ?_; rintro e w7 ⟨rfl, hb⟩; have HB7 := hidOg (HB5.out.to hb); clear hb))
                  go_roundw
                  case rel => exact ⟨k + 1, by omega, by omega, by go_num, HB7.out.b⟩
                  case measure => simp [intOf]; omega
              · have CN := newN (z := z) (by unfold isW; simp [hz0])
                go_wp2_with (first
                  | (go_at_call 15; refine Calls.mono (CN _) ?_; rintro e w5 ⟨q5, c5, rfl, hb⟩; have HB5 := hidOg (((HB.out.to hb).al (.cells #[.int .i64 0, .int .i64 0, .slice q5 0 c5] 24)).al (.cells #[.int .i64 0, .int .i64 0, .slice none 0 0] 24)); clear hb)
                  | (go_at_call 14; refine Calls.mono (same_nil 0 _ _ _ _ _) ?_; rintro e w7 ⟨rfl, hb⟩; have HB7 := hidOg (HB5.out.to hb); clear hb))
                go_roundw
                case rel => exact ⟨k + 1, by omega, by omega, by go_num, HB7.out.b⟩
                case measure => simp [intOf]; omega
          · obtain rfl : k = nn := by omega
            clear hB
            go_wp2
            go_meet
            case rel => exact HB.out.b
      case rest =>
        have HF0 := hidOg hcut
        have HM' : mayB wd rs L.length = false := HM.out.symm
        have K2 : Hid (∀ X, Below wz.heap.size wz X → (BC A wd rs qa L ca X ∧ Tw w X (.int .i64 wd) (.int .i64 rs) (.slice p n c) (.int .i64 wd2) (.int .i64 rs2) (.slice p2 n2 c2)) ∧ X.cell? ⟨A, 0, none⟩ = some (.int .i64 wd) ∧ X.cell? ⟨A, 1, none⟩ = some (.int .i64 rs) ∧ X.cell? ⟨A, 2, none⟩ = some (.slice qa L.length ca) ∧ X.cell? ⟨w.heap.size, 0, none⟩ = some (.int .i64 wd) ∧ X.cell? ⟨w.heap.size, 1, none⟩ = some (.int .i64 rs) ∧ X.cell? ⟨w.heap.size, 2, none⟩ = some (.slice p n c)) := fun X hb => by
          obtain ⟨⟨f1, _, f3⟩, _⟩ := KS.out X hb
          obtain ⟨k0, k1, k2⟩ := f1.cells
          obtain ⟨k3, k4, k5, _⟩ := f3.s6
          exact ⟨⟨f1, f3⟩, k0, k1, k2, k3, k4, k5⟩
        have HM2 := hidOg HM'
        have CS := fun (q : Option Addr) (k : Nat) (X : World) => small17 wd rs q L.length k X
        have CW := fun (q : Option Addr) (k : Nat) (X : World) (h1 : Row X qa L ca) (h2 : Row X q L k) => refSame14 wd rs qa L ca wd rs q L k X h1.i h2.i (by have := HLN.out; omega)
        rw [samC_refl] at CW
        have hs : smB wd rs L.length = true := by unfold smB; rw [HM']; simp
        have C20 := fun (X : World) (h : BC A wd rs qa L ca X) => rows20 wd rs qa L ca X h.r h.m hs
        rw [show roS wd rs L = [] from by unfold roS; rw [if_neg (by rw [HM']; decide)]] at C20
        have HFEW : Hid (∀ X : List RR, lS X = [] → X.length ≤ 1000 ∧ ∀ x ∈ X, x.2.1.length ≤ 1000) := fun X h => few_of (A := []) (by rw [h]) (by simp) (fun y hy => by simp at hy)
        rw [hs] at CS
        obtain ⟨_, k0, k1, k2, k3, k4, k5⟩ := K2.out _ HF0.out
        clear hs HM' hcut KS CC CM CF j0 j1 j2 j3 j4 j5 g0 g1 g2
        go_wp2_with (first | (go_at_call 17; refine Calls.mono (CS _ _ _) ?_; rintro e x1 ⟨rfl, hb⟩; have HF1 := hidOg (HF0.out.trans (hb.mono HF0.out.size)); obtain ⟨_, k0, k1, k2, k3, k4, k5⟩ := K2.out _ HF1.out; clear hb) | (go_at_call 12; refine Calls.mono (CR _ _ _) ?_; rintro e x2 ⟨rfl, hb⟩; have HF2 := hidOg (HF1.out.trans (hb.mono HF1.out.size)); obtain ⟨_, k0, k1, k2, k3, k4, k5⟩ := K2.out _ HF2.out; clear hb))
        have HF4 : Hid (Below wz.heap.size wz x2.drew) := HF2.out.drew
        go_region_held3 (fun w' => w'.cell? ⟨A, 0, none⟩ = some (.int .i64 wd) ∧ w'.cell? ⟨A, 1, none⟩ = some (.int .i64 rs) ∧ w'.cell? ⟨A, 2, none⟩ = some (.slice qa L.length ca) ∧ w'.cell? ⟨w.heap.size, 0, none⟩ = some (.int .i64 wd) ∧ w'.cell? ⟨w.heap.size, 1, none⟩ = some (.int .i64 rs) ∧ w'.cell? ⟨w.heap.size, 2, none⟩ = some (.slice p n c)) (first | with_reducible exact ⟨k0, k1, k2, k3, k4, k5⟩ | go_keep) (first
          | (go_at_call 20; refine Calls.mono (C20 _ (K2.out _ HF4.out).1.1) ?_; rintro e x5 ⟨qy, cy, YY, rfl, hYY, hRY, hb⟩; have HF5 := hidOg (HF4.out.trans (hb.mono HF4.out.size)); obtain ⟨_, k0, k1, k2, k3, k4, k5⟩ := K2.out _ HF5.out; have HYY := hidOg hYY; have HRY := hidOg hRY; clear hYY hRY; clear hb)
          | (go_at_call 19; refine Calls.mono (eqf_yes _ _ _ none [] 0 _ HRY.out (RV.nil 0 _) (HFEW.out _ HYY.out).1 (HFEW.out _ HYY.out).2 HYY.out) ?_; rintro e x6 ⟨rfl, hb⟩; have HF6 := hidOg (HF5.out.trans (hb.mono HF5.out.size)); obtain ⟨_, k0, k1, k2, k3, k4, k5⟩ := K2.out _ HF6.out; clear hb)
          | (go_at_call 10; refine Calls.mono (CO _ (K2.out _ HF6.out).1.2.b) ?_; rintro e x7 ⟨qo, co, rfl, ho, hb⟩; have HF7 := hidOg (HF6.out.trans (hb.mono HF6.out.size)); obtain ⟨_, k0, k1, k2, k3, k4, k5⟩ := K2.out _ HF7.out; have HO7 := hidOg ho.row; clear ho; clear hb)
          | (go_at_call 14; refine Calls.mono (CW _ _ _ (K2.out _ HF7.out).1.1.r HO7.out) ?_; rintro e x8 ⟨rfl, hb⟩; have HF8 := hidOg (HF7.out.trans (hb.mono HF7.out.size)); obtain ⟨_, k0, k1, k2, k3, k4, k5⟩ := K2.out _ HF8.out; clear hb))
        all_goals
          go_wp2
          go_ret
          exact ⟨rfl, (K2.out _ HF8.out).1.2.b⟩
end Go.Proofs.Ytkbikngkhaeakaa
