/- ColumnRows: the walk. -/
import Derived.Test.YtkbikngkhaeakaaRw
import Derived.Deep.CutRange
import Derived.Deep.CutBlock
namespace Go.Proofs.Ytkbikngkhaeakaa
open Go.RowKit

set_option maxRecDepth 20000 in
set_option maxHeartbeats 16000000 in
theorem rows_yes (W R : Nat) (p : Option Addr) (l : List Int) (c : Nat) (pn : Option Addr) (ns : List Int) (cn : Nat) (pv : Option Addr) (V : List RR) (d : Nat) (w : World) (h : InR w p l c) (hN : IRow .i64 w.heap.size w pn ns) (hN4 : ns.length ≤ maxLen) (hV : VRow w.heap.size w pv V) (hVd : V.length ≤ d) (hVr : RoomV V) (hVn : V.length ≤ maxLen) (hVl : ∀ k, k < V.length → (rL V k).length ≤ maxLen) (hm : mayB (W : Int) (R : Int) (l.take 60).length = true) (hR : R ≤ 200) :
    Calls Try.prog 4 #[.agg #[.int .i64 (W : Int), .int .i64 (R : Int), .slice p l.length c], .slice pn ns.length cn, .slice pv V.length d] w fun e w' => e = .returned (.bool true) ∧ Below w.heap.size w w' := by
  have hs : smB (W : Int) (R : Int) (l.take 60).length = true := by unfold smB; simp; omega
  have CO := fun (X : World) (hb : Below w.heap.size w X) => own10 (W : Int) (R : Int) p l c X (h.to hb)
  have CV := fun (X : World) (hb : Below w.heap.size w X) => values22 pv V d X (hV.to hb) hVd hVr hVn hVl
  obtain ⟨L, hL⟩ : ∃ L, L = l.take 60 := ⟨_, rfl⟩
  have h60 : L.length ≤ 60 := by rw [hL]; simp; omega
  rw [← hL] at CO hs hm
  have H60 := hidOg h60
  have h0 := heap_alloc_new w (.cells #[.int .i64 (W : Int), .int .i64 (R : Int), .slice p l.length c] 24)
  have H0 := hidOg h0
  have CS := fun (q : Option Addr) (k : Nat) (X : World) => small17 (W : Int) (R : Int) q L.length k X
  rw [hs] at CS
  have CR := fun (q : Option Addr) (k : Nat) (X : World) => r12b (W : Int) (R : Int) q L.length k X
  rw [hm] at CR
  have hW4 : W ≤ 4 := by have := (mayB_t hm).2.1; omega
  have hl1 : L.length = W * R := by have := (mayB_t hm).2.2.2.2; exact_mod_cast this
  have HM := hidOg hm
  have HL1 := hidOg hl1
  have HR2 := hidOg hR
  have HN := hidOg hN
  obtain ⟨nn, hnn⟩ : ∃ nn, nn = ns.length := ⟨_, rfl⟩
  have HNN := hidOg hnn
  have hnn63 : nn ≤ 9223372036854775807 := by rw [hnn]; unfold maxLen at hN4; exact hN4
  rw [← hnn]
  have HB0 : Hid (Be w.heap.size w (w.alloc (.cells #[.int .i64 (W : Int), .int .i64 (R : Int), .slice p l.length c] 24))) := (Be.refl (Nat.le_refl _)).al _
  clear h hL hs hm h0 h60 hV hVd hVr hVn hVl hN hN4 hnn hl1
  go_enter Try.func4, Try.ntmps4
  go_wp2_with (first
    | (go_at_call 9; refine Calls.mono (wakes9 _) ?_; rintro e w1 ⟨rfl, hb1⟩; have HX1 := hidOg ((hb1.block w.heap.size (by simp)).trans H0.out); obtain ⟨a0, a1, a2, _⟩ := heap3_cell HX1.out; have HB1 := hidOg (HB0.out.to hb1); clear hb1)
    | (go_at_call 10; refine Calls.mono (CO _ HB1.out.b) ?_; rintro e w2 ⟨q2, c2, rfl, ho2, hb2⟩; have B72 := hidOg (BC.new (wd := (W : Int)) (rs := (R : Int)) ho2.row ho2.cm); have HB2 := hidOg ((⟨hb2, hb2.size⟩ : Be w1.heap.size w1 w2).al (.cells #[.int .i64 (W : Int), .int .i64 (R : Int), .slice q2 L.length c2] 24)); clear ho2 hb2 a0 a1 a2)
    | (go_at_call 22; refine Calls.mono (CV _ (HB1.out.tr HB2.out HB1.out.s).b) ?_; rintro e w3 ⟨qx, cx, X, rfl, hX, hRX, hb⟩; have B73 := hidOg (B72.out.to hb); obtain ⟨y0, y1, y2⟩ := B73.out.cells; have HB3 := hidOg (HB2.out.to hb); have HRX := hidOg (hRX.base (Nat.zero_le _)); have HX3 := hidOg hX; clear hRX hX hb)
    | (go_at_call 17; refine Calls.mono (CS _ _ _) ?_; rintro e w4 ⟨rfl, hb⟩; have B74 := hidOg (B73.out.to hb); obtain ⟨y0, y1, y2⟩ := B74.out.cells; have HB4 := hidOg (HB3.out.to hb); have HRX4 := hidOg (HRX.out.to hb); clear hb)
    | (go_at_call 12; refine Calls.mono (CR _ _ _) ?_; rintro e v0 ⟨rfl, hb⟩; have B75 := hidOg (B74.out.to hb); have HB5 := hidOg (HB4.out.to hb); have HRX5 := hidOg (HRX4.out.to hb); clear hb))
  have KS : Hid (∀ Z, Below v0.heap.size v0 Z → BC w2.heap.size (W : Int) (R : Int) q2 L c2 Z ∧ RV 0 X qx cx Z ∧ Z.heap[w.heap.size]? = some (.cells #[.int .i64 (W : Int), .int .i64 (R : Int), .slice p l.length c] 24 (0, 0)) ∧ Be w.heap.size w Z) := fun Z hb => by
    have hz := HB5.out.to hb
    exact ⟨B75.out.to hb, HRX5.out.to hb, atW hz.b HX1.out, HB1.out.tr hz HB1.out.s⟩
  have hXn : X.length ≤ 8 := by
    have := congrArg List.length HX3.out
    rw [lS_len] at this
    unfold valS at this
    simp at this
    omega
  have hXn63 : X.length ≤ 9223372036854775807 := by omega
  have KN : Hid (∀ Z, Below v0.heap.size v0 Z → IRow .i64 Z.heap.size Z pn ns) := fun Z hb => HN.out.to ((KS.out Z hb).2.2.2.b)
  have KO := fun (Z : World) (hb : Below v0.heap.size v0 Z) => CO Z (KS.out Z hb).2.2.2.b
  have CW := fun (q : Option Addr) (k : Nat) (X : World) (h1 : Row X q2 L c2) (h2 : Row X q L k) => refSame14 (W : Int) (R : Int) q2 L c2 (W : Int) (R : Int) q L k X h1.i h2.i (by have := H60.out; omega)
  rw [samC_refl] at CW
  clear B72 B73 B74 B75 HB0 HB1 HB2 HB3 HB4 HB5 HRX HRX4 HRX5 HX1 HX3 H0 CO CV CS y0 y1 y2
  go_loopw [40] (fun i wr => ∃ k : Nat, k ≤ nn ∧ i = .int .i64 k ∧ Below v0.heap.size v0 wr) (fun i _ => nn - (intOf i).toNat)
  case atStart => exact ⟨0, Nat.zero_le _, rfl, Below.refl _ _⟩
  case round =>
    obtain ⟨k, hk, rfl, hB⟩ := hrel
    obtain ⟨wo, hwo⟩ : ∃ x, x = wr := ⟨_, rfl⟩
    subst hwo
    have HB : Hid (Be v0.heap.size v0 wo) := ⟨hB, hB.size⟩
    by_cases hlt : k < nn
    · obtain ⟨b, off, rfl, hbN, hcs⟩ := (KN.out _ hB) (by rw [← HNN.out]; omega)
      have c0 := hcs k (by rw [← HNN.out]; exact hlt)
      obtain ⟨z, hz⟩ : ∃ z, z = iG ns k := ⟨_, rfl⟩
      rw [← hz] at c0
      clear hcs hB hz KN hbN
      by_cases h6 : k = 6
      · have e6 : ((k : Int) == 6) = true := by simp; omega
        clear h6
        go_wp2
        go_ret
        exact ⟨rfl, (KS.out _ HB.out.b).2.2.2.b⟩
      · have e6 : ((k : Int) == 6) = false := by simp; omega
        clear h6
        by_cases hz0 : z < 0
        · have hzn : ¬ (z ≥ 0) := by omega
          obtain ⟨hgA, hsA, htA⟩ := no_row HM.out (row := z) (by unfold hasB; simp; omega)
          have CG := fun (q : Option Addr) (k : Nat) (X : World) (h1 : Row X q L k) (h2 : k ≤ maxLen) => get0 hgA q k X h1 h2
          have CQ := fun (q : Option Addr) (k : Nat) (X : World) (h1 : Row X q L k) (h2 : k ≤ maxLen) => swap0 hsA q k X h1 h2
          have CT := fun (u : List Int) (q : Option Addr) (k : Nat) (pu : Option Addr) (cu : Nat) (X : World) (h1 : Row X q L k) (h2 : k ≤ maxLen) (h3 : IRow .u64 X.heap.size X pu u) => set0 (htA u) q k pu cu X h1 h2 h3
          clear hgA hsA htA
          obtain ⟨g0, g1, g2⟩ := (KS.out _ HB.out.b).1.cells
          go_wp2_with (first
            | (go_at_call 23; refine Calls.mono (CG _ _ _ (KS.out _ HB.out.b).1.r (KS.out _ HB.out.b).1.m) ?_; rintro e w5 ⟨q5, c5, rfl, _, hb⟩; have HS5 := hidOg (HB.out.to hb); obtain ⟨g0, g1, g2⟩ := (KS.out _ HS5.out.b).1.cells; clear hb)
            | (go_at_call 24; refine Calls.mono (CQ _ _ _ (KS.out _ HS5.out.b).1.r (KS.out _ HS5.out.b).1.m) ?_; rintro e w6 ⟨q6, c6, rfl, ho, hb⟩; have HD6 : Hid (Be w5.heap.size w5 ((w6.alloc (.cells #[.int .i64 0, .int .i64 0, .slice q6 0 c6] 24)).alloc (.cells #[.int .i64 0, .int .i64 0, .slice none 0 0] 24))) := ((⟨hb, hb.size⟩ : Be w5.heap.size w5 w6).al _).al _; have B6 : Hid (BC w6.heap.size 0 0 q6 [] c6 ((w6.alloc (.cells #[.int .i64 0, .int .i64 0, .slice q6 0 c6] 24)).alloc (.cells #[.int .i64 0, .int .i64 0, .slice none 0 0] 24))) := (BC.new ho.row ho.cm).to (bal _ _); have Z6 : Hid ((((w6.alloc (.cells #[.int .i64 0, .int .i64 0, .slice q6 0 c6] 24)).alloc (.cells #[.int .i64 0, .int .i64 0, .slice none 0 0] 24))).heap[w6.heap.size + 1]? = some (.cells #[.int .i64 0, .int .i64 0, .slice none 0 0] 24 (0, 0))) := heap_at (by simp); have HP6 : Hid (OwnR w5.heap.size ((w6.alloc (.cells #[.int .i64 0, .int .i64 0, .slice q6 0 c6] 24)).alloc (.cells #[.int .i64 0, .int .i64 0, .slice none 0 0] 24)) q6 [] c6) := (ho.to (bal _ _)).to (bal _ _); obtain ⟨g0, g1, g2⟩ := (KS.out _ (HS5.out.b.trans (HD6.out.b.mono HS5.out.s))).1.cells; clear hb ho)
            | (go_at_call 21; refine Calls.mono (eq0 _ _ _ _ _) ?_; rintro e w7 ⟨rfl, hb⟩; have HD7 := hidOg (HD6.out.to hb); obtain ⟨r0, r1, r2⟩ := (B6.out.to hb).cells; obtain ⟨t0, t1, t2, _⟩ := heap3_cell (atW hb Z6.out); have B7 := hidOg (B6.out.to hb); have HP7 := hidOg (HP6.out.to hb); clear hb g0 g1 g2)
            | (go_at_call 14; refine Calls.mono (same0 _ _ _ _ _) ?_; rintro e w8 ⟨rfl, hb⟩; have HD8 := hidOg (HD7.out.to hb); obtain ⟨r0, r1, r2⟩ := (B7.out.to hb).cells; have HP8 := hidOg (HP7.out.to hb); clear hb)
            | (go_at_call 26; refine Calls.mono (spoil26 0 0 _ [] _ w5.heap.size _ HP8.out HD8.out.s) ?_; rintro e w9 ⟨rfl, hb⟩; have HD9 : Hid (Be w5.heap.size w5 w9) := ⟨HD8.out.b.trans hb, Nat.le_trans HD8.out.s hb.size⟩; clear hb))
          go_loopw [108] (fun i wx => i = .int .i64 0 ∧ wx = w9) (fun _ _ => 0)
          case atStart => exact ⟨rfl, rfl⟩
          case round =>
            obtain ⟨rfl, hwv⟩ := hrel
            subst hwv
            obtain ⟨wv, hwv⟩ : ∃ x, x = wr := ⟨_, rfl⟩
            subst hwv
            have KT : Hid (∀ Z, Below wv.heap.size wv Z → RV 0 X qx cx Z ∧ Be v0.heap.size v0 Z) := fun Z hb => by
              have hz := HS5.out.tr (HD9.out.to hb) HS5.out.s
              exact ⟨(KS.out _ hz.b).2.1, hz⟩
            clear HD6 HD7 HD8 HD9 B6 B7 Z6 HP6 HP7 HP8 r0 r1 r2 t0 t1 t2 CG CQ c0
            go_wp2
            go_loopw [120] (fun i wi => ∃ j : Nat, j ≤ X.length ∧ i = .int .i64 j ∧ Below wv.heap.size wv wi) (fun i _ => X.length - (intOf i).toNat)
            case atStart => exact ⟨0, Nat.zero_le _, rfl, Below.refl _ _⟩
            case round =>
              obtain ⟨j, hj, rfl, hBj⟩ := hrel
              obtain ⟨wi, hwi⟩ : ∃ x, x = wr := ⟨_, rfl⟩
              subst hwi
              have HBj : Hid (Be wv.heap.size wv wi) := ⟨hBj, hBj.size⟩
              by_cases hlj : j < X.length
              · obtain ⟨b2, off2, hq, hbN2, hcs⟩ := (KT.out _ hBj).1.row (by omega)
                obtain ⟨d0, hI⟩ := hcs j hlj
                obtain ⟨⟨pu, u, cu⟩, hu⟩ : ∃ u, u = (rP X j, rL X j, rC X j) := ⟨_, rfl⟩
                injection hu with hu1 hu
                injection hu with hu2 hu3
                rw [← hu1, ← hu2, ← hu3] at d0
                rw [← hu1, ← hu2] at hI
                have CTu := CT u
                have HI := hidOg hI
                subst hq
                clear hcs hBj hbN2 hI hu1 hu2 hu3
                obtain ⟨g0, g1, g2⟩ := (KS.out _ (KT.out _ HBj.out.b).2.b).1.cells
                go_wp2_with (first
                  | (go_at_call 27; refine Calls.mono (CTu _ _ _ _ _ (KS.out _ (KT.out _ HBj.out.b).2.b).1.r (KS.out _ (KT.out _ HBj.out.b).2.b).1.m HI.out) ?_; rintro e v6 ⟨q6', c6', rfl, ho, hb⟩; have HD6 : Hid (Be wi.heap.size wi ((v6.alloc (.cells #[.int .i64 0, .int .i64 0, .slice q6' 0 c6'] 24)).alloc (.cells #[.int .i64 0, .int .i64 0, .slice none 0 0] 24))) := ((⟨hb, hb.size⟩ : Be wi.heap.size wi v6).al _).al _; have B6 : Hid (BC v6.heap.size 0 0 q6' [] c6' ((v6.alloc (.cells #[.int .i64 0, .int .i64 0, .slice q6' 0 c6'] 24)).alloc (.cells #[.int .i64 0, .int .i64 0, .slice none 0 0] 24))) := (BC.new ho.row ho.cm).to (bal _ _); have HP6 : Hid (OwnR wi.heap.size ((v6.alloc (.cells #[.int .i64 0, .int .i64 0, .slice q6' 0 c6'] 24)).alloc (.cells #[.int .i64 0, .int .i64 0, .slice none 0 0] 24)) q6' [] c6') := (ho.to (bal _ _)).to (bal _ _); obtain ⟨r0, r1, r2⟩ := B6.out.cells; clear hb ho)
                  | (go_at_call 14; refine Calls.mono (same0 _ _ _ _ _) ?_; rintro e v8 ⟨rfl, hb⟩; have HD8 := hidOg (HD6.out.to hb); obtain ⟨r0, r1, r2⟩ := (B6.out.to hb).cells; have HP8 := hidOg (HP6.out.to hb); clear hb)
                  | (go_at_call 26; refine Calls.mono (spoil26 0 0 _ [] _ wi.heap.size _ HP8.out HD8.out.s) ?_; rintro e v9 ⟨rfl, hb⟩; have HD9 : Hid (Be wi.heap.size wi v9) := ⟨HD8.out.b.trans hb, Nat.le_trans HD8.out.s hb.size⟩; clear hb))
                go_roundw
                case rel => exact ⟨j + 1, by omega, by go_num, (HBj.out.tr HD9.out HBj.out.s).b⟩
                case measure => simp [intOf]; omega
              · obtain rfl : j = X.length := by omega
                go_wp2
                have HS0 : Hid (Below v0.heap.size v0 wi.drew) := (KT.out _ HBj.out.b).2.b.drew
                obtain ⟨j0, j1, j2⟩ := (KS.out _ (KT.out _ HBj.out.b).2.b).1.cells
                obtain ⟨j3, j4, j5, _⟩ := heap3_cell (KS.out _ (KT.out _ HBj.out.b).2.b).2.2.1
                first | (go_region_held3 (fun w' => w'.cell? ⟨w2.heap.size, 0, none⟩ = some (.int .i64 (W : Int)) ∧ w'.cell? ⟨w2.heap.size, 1, none⟩ = some (.int .i64 (R : Int)) ∧ w'.cell? ⟨w2.heap.size, 2, none⟩ = some (.slice q2 L.length c2) ∧ w'.cell? ⟨w.heap.size, 0, none⟩ = some (.int .i64 (W : Int)) ∧ w'.cell? ⟨w.heap.size, 1, none⟩ = some (.int .i64 (R : Int)) ∧ w'.cell? ⟨w.heap.size, 2, none⟩ = some (.slice p l.length c)) (first | with_reducible exact ⟨k0, k1, k2, k3, k4, k5⟩ | with_reducible exact ⟨j0, j1, j2, j3, j4, j5⟩ | go_keep) (first
                  | (go_at_call 10; refine Calls.mono (KO _ HS0.out) ?_; rintro e x1 ⟨qo, co, rfl, ho, hb⟩; have HS1 := hidOg (HS0.out.trans (hb.mono HS0.out.size)); have HO1 := hidOg ho.row; obtain ⟨k0, k1, k2⟩ := (KS.out _ HS1.out).1.cells; obtain ⟨k3, k4, k5, _⟩ := heap3_cell (KS.out _ HS1.out).2.2.1; clear hb ho)
                  | (go_at_call 14; refine Calls.mono (CW _ _ _ (KS.out _ HS1.out).1.r HO1.out) ?_; rintro e x2 ⟨rfl, hb⟩; have HS2 := hidOg (HS1.out.trans (hb.mono HS1.out.size)); obtain ⟨k0, k1, k2⟩ := (KS.out _ HS2.out).1.cells; obtain ⟨k3, k4, k5, _⟩ := heap3_cell (KS.out _ HS2.out).2.2.1; clear hb))) | fail
                all_goals
                  go_wp2
                  go_roundw
                  case rel => exact ⟨k + 1, by omega, by go_num, HS2.out⟩
                  case measure => simp [intOf]; omega
        · by_cases hzR : (R : Int) ≤ z
          · have hzp : z ≥ 0 := by omega
            have hzn : ¬ (z < (R : Int)) := by omega
            obtain ⟨hgA, hsA, htA⟩ := no_row HM.out (row := z) (by unfold hasB; simp; omega)
            have CG := fun (q : Option Addr) (k : Nat) (X : World) (h1 : Row X q L k) (h2 : k ≤ maxLen) => get0 hgA q k X h1 h2
            have CQ := fun (q : Option Addr) (k : Nat) (X : World) (h1 : Row X q L k) (h2 : k ≤ maxLen) => swap0 hsA q k X h1 h2
            have CT := fun (u : List Int) (q : Option Addr) (k : Nat) (pu : Option Addr) (cu : Nat) (X : World) (h1 : Row X q L k) (h2 : k ≤ maxLen) (h3 : IRow .u64 X.heap.size X pu u) => set0 (htA u) q k pu cu X h1 h2 h3
            clear hgA hsA htA
            obtain ⟨g0, g1, g2⟩ := (KS.out _ HB.out.b).1.cells
            go_wp2_with (first
              | (go_at_call 23; refine Calls.mono (CG _ _ _ (KS.out _ HB.out.b).1.r (KS.out _ HB.out.b).1.m) ?_; rintro e w5 ⟨q5, c5, rfl, _, hb⟩; have HS5 := hidOg (HB.out.to hb); obtain ⟨g0, g1, g2⟩ := (KS.out _ HS5.out.b).1.cells; clear hb)
              | (go_at_call 24; refine Calls.mono (CQ _ _ _ (KS.out _ HS5.out.b).1.r (KS.out _ HS5.out.b).1.m) ?_; rintro e w6 ⟨q6, c6, rfl, ho, hb⟩; have HD6 : Hid (Be w5.heap.size w5 ((w6.alloc (.cells #[.int .i64 0, .int .i64 0, .slice q6 0 c6] 24)).alloc (.cells #[.int .i64 0, .int .i64 0, .slice none 0 0] 24))) := ((⟨hb, hb.size⟩ : Be w5.heap.size w5 w6).al _).al _; have B6 : Hid (BC w6.heap.size 0 0 q6 [] c6 ((w6.alloc (.cells #[.int .i64 0, .int .i64 0, .slice q6 0 c6] 24)).alloc (.cells #[.int .i64 0, .int .i64 0, .slice none 0 0] 24))) := (BC.new ho.row ho.cm).to (bal _ _); have Z6 : Hid ((((w6.alloc (.cells #[.int .i64 0, .int .i64 0, .slice q6 0 c6] 24)).alloc (.cells #[.int .i64 0, .int .i64 0, .slice none 0 0] 24))).heap[w6.heap.size + 1]? = some (.cells #[.int .i64 0, .int .i64 0, .slice none 0 0] 24 (0, 0))) := heap_at (by simp); have HP6 : Hid (OwnR w5.heap.size ((w6.alloc (.cells #[.int .i64 0, .int .i64 0, .slice q6 0 c6] 24)).alloc (.cells #[.int .i64 0, .int .i64 0, .slice none 0 0] 24)) q6 [] c6) := (ho.to (bal _ _)).to (bal _ _); obtain ⟨g0, g1, g2⟩ := (KS.out _ (HS5.out.b.trans (HD6.out.b.mono HS5.out.s))).1.cells; clear hb ho)
              | (go_at_call 21; refine Calls.mono (eq0 _ _ _ _ _) ?_; rintro e w7 ⟨rfl, hb⟩; have HD7 := hidOg (HD6.out.to hb); obtain ⟨r0, r1, r2⟩ := (B6.out.to hb).cells; obtain ⟨t0, t1, t2, _⟩ := heap3_cell (atW hb Z6.out); have B7 := hidOg (B6.out.to hb); have HP7 := hidOg (HP6.out.to hb); clear hb g0 g1 g2)
              | (go_at_call 14; refine Calls.mono (same0 _ _ _ _ _) ?_; rintro e w8 ⟨rfl, hb⟩; have HD8 := hidOg (HD7.out.to hb); obtain ⟨r0, r1, r2⟩ := (B7.out.to hb).cells; have HP8 := hidOg (HP7.out.to hb); clear hb)
              | (go_at_call 26; refine Calls.mono (spoil26 0 0 _ [] _ w5.heap.size _ HP8.out HD8.out.s) ?_; rintro e w9 ⟨rfl, hb⟩; have HD9 : Hid (Be w5.heap.size w5 w9) := ⟨HD8.out.b.trans hb, Nat.le_trans HD8.out.s hb.size⟩; clear hb))
            go_loopw [108] (fun i wx => i = .int .i64 0 ∧ wx = w9) (fun _ _ => 0)
            case atStart => exact ⟨rfl, rfl⟩
            case round =>
              obtain ⟨rfl, hwv⟩ := hrel
              subst hwv
              obtain ⟨wv, hwv⟩ : ∃ x, x = wr := ⟨_, rfl⟩
              subst hwv
              have KT : Hid (∀ Z, Below wv.heap.size wv Z → RV 0 X qx cx Z ∧ Be v0.heap.size v0 Z) := fun Z hb => by
                have hz := HS5.out.tr (HD9.out.to hb) HS5.out.s
                exact ⟨(KS.out _ hz.b).2.1, hz⟩
              clear HD6 HD7 HD8 HD9 B6 B7 Z6 HP6 HP7 HP8 r0 r1 r2 t0 t1 t2 CG CQ c0
              go_wp2
              go_loopw [120] (fun i wi => ∃ j : Nat, j ≤ X.length ∧ i = .int .i64 j ∧ Below wv.heap.size wv wi) (fun i _ => X.length - (intOf i).toNat)
              case atStart => exact ⟨0, Nat.zero_le _, rfl, Below.refl _ _⟩
              case round =>
                obtain ⟨j, hj, rfl, hBj⟩ := hrel
                obtain ⟨wi, hwi⟩ : ∃ x, x = wr := ⟨_, rfl⟩
                subst hwi
                have HBj : Hid (Be wv.heap.size wv wi) := ⟨hBj, hBj.size⟩
                by_cases hlj : j < X.length
                · obtain ⟨b2, off2, hq, hbN2, hcs⟩ := (KT.out _ hBj).1.row (by omega)
                  obtain ⟨d0, hI⟩ := hcs j hlj
                  obtain ⟨⟨pu, u, cu⟩, hu⟩ : ∃ u, u = (rP X j, rL X j, rC X j) := ⟨_, rfl⟩
                  injection hu with hu1 hu
                  injection hu with hu2 hu3
                  rw [← hu1, ← hu2, ← hu3] at d0
                  rw [← hu1, ← hu2] at hI
                  have CTu := CT u
                  have HI := hidOg hI
                  subst hq
                  clear hcs hBj hbN2 hI hu1 hu2 hu3
                  obtain ⟨g0, g1, g2⟩ := (KS.out _ (KT.out _ HBj.out.b).2.b).1.cells
                  go_wp2_with (first
                    | (go_at_call 27; refine Calls.mono (CTu _ _ _ _ _ (KS.out _ (KT.out _ HBj.out.b).2.b).1.r (KS.out _ (KT.out _ HBj.out.b).2.b).1.m HI.out) ?_; rintro e v6 ⟨q6', c6', rfl, ho, hb⟩; have HD6 : Hid (Be wi.heap.size wi ((v6.alloc (.cells #[.int .i64 0, .int .i64 0, .slice q6' 0 c6'] 24)).alloc (.cells #[.int .i64 0, .int .i64 0, .slice none 0 0] 24))) := ((⟨hb, hb.size⟩ : Be wi.heap.size wi v6).al _).al _; have B6 : Hid (BC v6.heap.size 0 0 q6' [] c6' ((v6.alloc (.cells #[.int .i64 0, .int .i64 0, .slice q6' 0 c6'] 24)).alloc (.cells #[.int .i64 0, .int .i64 0, .slice none 0 0] 24))) := (BC.new ho.row ho.cm).to (bal _ _); have HP6 : Hid (OwnR wi.heap.size ((v6.alloc (.cells #[.int .i64 0, .int .i64 0, .slice q6' 0 c6'] 24)).alloc (.cells #[.int .i64 0, .int .i64 0, .slice none 0 0] 24)) q6' [] c6') := (ho.to (bal _ _)).to (bal _ _); obtain ⟨r0, r1, r2⟩ := B6.out.cells; clear hb ho)
                    | (go_at_call 14; refine Calls.mono (same0 _ _ _ _ _) ?_; rintro e v8 ⟨rfl, hb⟩; have HD8 := hidOg (HD6.out.to hb); obtain ⟨r0, r1, r2⟩ := (B6.out.to hb).cells; have HP8 := hidOg (HP6.out.to hb); clear hb)
                    | (go_at_call 26; refine Calls.mono (spoil26 0 0 _ [] _ wi.heap.size _ HP8.out HD8.out.s) ?_; rintro e v9 ⟨rfl, hb⟩; have HD9 : Hid (Be wi.heap.size wi v9) := ⟨HD8.out.b.trans hb, Nat.le_trans HD8.out.s hb.size⟩; clear hb))
                  go_roundw
                  case rel => exact ⟨j + 1, by omega, by go_num, (HBj.out.tr HD9.out HBj.out.s).b⟩
                  case measure => simp [intOf]; omega
                · obtain rfl : j = X.length := by omega
                  go_wp2
                  have HS0 : Hid (Below v0.heap.size v0 wi.drew) := (KT.out _ HBj.out.b).2.b.drew
                  obtain ⟨j0, j1, j2⟩ := (KS.out _ (KT.out _ HBj.out.b).2.b).1.cells
                  obtain ⟨j3, j4, j5, _⟩ := heap3_cell (KS.out _ (KT.out _ HBj.out.b).2.b).2.2.1
                  first | (go_region_held3 (fun w' => w'.cell? ⟨w2.heap.size, 0, none⟩ = some (.int .i64 (W : Int)) ∧ w'.cell? ⟨w2.heap.size, 1, none⟩ = some (.int .i64 (R : Int)) ∧ w'.cell? ⟨w2.heap.size, 2, none⟩ = some (.slice q2 L.length c2) ∧ w'.cell? ⟨w.heap.size, 0, none⟩ = some (.int .i64 (W : Int)) ∧ w'.cell? ⟨w.heap.size, 1, none⟩ = some (.int .i64 (R : Int)) ∧ w'.cell? ⟨w.heap.size, 2, none⟩ = some (.slice p l.length c)) (first | with_reducible exact ⟨k0, k1, k2, k3, k4, k5⟩ | with_reducible exact ⟨j0, j1, j2, j3, j4, j5⟩ | go_keep) (first
                    | (go_at_call 10; refine Calls.mono (KO _ HS0.out) ?_; rintro e x1 ⟨qo, co, rfl, ho, hb⟩; have HS1 := hidOg (HS0.out.trans (hb.mono HS0.out.size)); have HO1 := hidOg ho.row; obtain ⟨k0, k1, k2⟩ := (KS.out _ HS1.out).1.cells; obtain ⟨k3, k4, k5, _⟩ := heap3_cell (KS.out _ HS1.out).2.2.1; clear hb ho)
                    | (go_at_call 14; refine Calls.mono (CW _ _ _ (KS.out _ HS1.out).1.r HO1.out) ?_; rintro e x2 ⟨rfl, hb⟩; have HS2 := hidOg (HS1.out.trans (hb.mono HS1.out.size)); obtain ⟨k0, k1, k2⟩ := (KS.out _ HS2.out).1.cells; obtain ⟨k3, k4, k5, _⟩ := heap3_cell (KS.out _ HS2.out).2.2.1; clear hb))) | fail
                  all_goals
                    go_wp2
                    go_roundw
                    case rel => exact ⟨k + 1, by omega, by go_num, HS2.out⟩
                    case measure => simp [intOf]; omega
          · obtain ⟨r, rfl⟩ : ∃ r : Nat, z = r := ⟨z.toNat, by omega⟩
            have hr : r < R := by omega
            have hgA := get_yes HM.out hr
            have hsA := is_sw HM.out hr
            have htA := is_set HM.out hr
            obtain ⟨U, hU⟩ : ∃ U, U = (chK W R L)[r]'(by rw [chK_len]; exact hr) := ⟨_, rfl⟩
            rw [← hU] at hgA
            have hUl : U.length = W := by rw [hU]; exact chK_mem HL1.out (List.getElem_mem _)
            have CV1 := fun (Z : World) (h : BC w2.heap.size (W : Int) (R : Int) q2 L c2 Z) => rows18 W R q2 L c2 Z ⟨h.r, HL1.out, hW4, by omega, h.m⟩ (by omega)
            have hM1 : ((swO (chK W R L) r).flatten).length ≤ 1000 := by rw [(left_len HL1.out hr)]; have := Nat.mul_le_mul hW4 (show R - 1 ≤ 200 by omega); omega
            have hN1 : ∀ u : List Int, u.length = W → (((chK W R L).set r u).flatten).length ≤ 1000 := fun u hu => by rw [set_len HL1.out hu]; have := Nat.mul_le_mul hW4 HR2.out; omega
            obtain ⟨A0, hA0⟩ : ∃ A0, A0 = chK W R L := ⟨_, rfl⟩
            have hA0l : A0.length = R := by rw [hA0, chK_len]
            rw [← hA0] at hsA htA CV1 hM1 hN1
            have hUA : ∀ h : r < A0.length, U = A0[r]'h := fun h => by simp only [hU, hA0]
            obtain ⟨D, hD⟩ : ∃ D, D = swO A0 r := ⟨_, rfl⟩
            rw [← hD] at hsA hM1
            obtain ⟨i1, hi1⟩ : ∃ i : Int, i = ((R - 1 : Nat) : Int) := ⟨_, rfl⟩
            have hDl : (D.length : Int) = i1 := by rw [hD, swO_len, hA0l, hi1]
            have hDn : D.length ≤ 1000 := by rw [hD, swO_len]; omega
            rw [← hi1] at hsA
            obtain ⟨M, hM⟩ : ∃ M, M = D.flatten := ⟨_, rfl⟩
            rw [← hM] at hsA hM1
            have CG := fun (q : Option Addr) (k : Nat) (X : World) (h1 : Row X q L k) (h2 : k ≤ maxLen) => get1 hgA hUl q k X h1 h2
            have CQ := fun (q : Option Addr) (k : Nat) (X : World) (h1 : Row X q L k) (h2 : k ≤ maxLen) => swap1 hsA q k X h1 h2
            have C25 := fun (q : Option Addr) (YY : List RR) (d : Nat) (Z : World) (hY : lS YY = A0) (hV : RV 0 YY q d Z) => without25 q YY d r Z hV (by rw [← lS_len, hY]; omega) (by rw [← lS_len, hY]; omega)
            have C16 := fun (q : Option Addr) (YY : List RR) (d : Nat) (Z : World) (hY : lS YY = D) (hV : VRow Z.heap.size Z q YY) => of1 (W := (W : Int)) (A := D) (M := D) hM hDl hDn hM1 rfl q YY d Z hY hV
            have CE := fun (q : Option Addr) (k : Nat) (q' : Option Addr) (k' : Nat) (Z : World) (h1 : IRow .u64 Z.heap.size Z q U) (h2 : IRow .u64 Z.heap.size Z q' U) => eq1 hUl hW4 q k q' k' Z h1 h2
            have CM := fun (q : Option Addr) (k : Nat) (q' : Option Addr) (k' : Nat) (Z : World) (h1 : IRow .u64 Z.heap.size Z q M) (h2 : IRow .u64 Z.heap.size Z q' M) => same1 (W : Int) i1 M hM1 q k q' k' Z h1 h2
            have HTA := hidOg htA
            have HN1 := hidOg hN1
            have HA0l := hidOg hA0l
            have HUA := hidOg hUA
            have HUl := hidOg hUl
            have HD := hidOg hD
            clear hgA hsA htA hU hM1 hN1 hA0 hA0l hUA hD hi1 hDl hDn hM hUl
            have hz0 : ((r : Int) ≥ 0) := by omega
            have hzR : ((r : Int) < (R : Int)) := by omega
            obtain ⟨g0, g1, g2⟩ := (KS.out _ HB.out.b).1.cells
            go_upto_region 22 with (first
              | (go_at_call 23; refine Calls.mono (CG _ _ _ (KS.out _ HB.out.b).1.r (KS.out _ HB.out.b).1.m) ?_; rintro e w5 ⟨q5, c5, rfl, ho, hb⟩; have HS5 := hidOg (HB.out.to hb); have HOS := hidOg hb.size; have HO5 := hidOg ho; obtain ⟨g0, g1, g2⟩ := (KS.out _ HS5.out.b).1.cells; clear hb ho)
              | (go_at_call 24; refine Calls.mono (CQ _ _ _ (KS.out _ HS5.out.b).1.r (KS.out _ HS5.out.b).1.m) ?_; rintro e w6 ⟨q6, c6, rfl, ho, hb⟩; have HD6 : Hid (Be w5.heap.size w5 ((w6.alloc (.cells #[.int .i64 (W : Int), .int .i64 i1, .slice q6 M.length c6] 24)).alloc (.cells #[.int .i64 0, .int .i64 0, .slice none 0 0] 24))) := ((⟨hb, hb.size⟩ : Be w5.heap.size w5 w6).al _).al _; have B6 : Hid (BC w6.heap.size (W : Int) i1 q6 M c6 ((w6.alloc (.cells #[.int .i64 (W : Int), .int .i64 i1, .slice q6 M.length c6] 24)).alloc (.cells #[.int .i64 0, .int .i64 0, .slice none 0 0] 24))) := (BC.new ho.row ho.cm).to (bal _ _); have Z6 : Hid (((w6.alloc (.cells #[.int .i64 (W : Int), .int .i64 i1, .slice q6 M.length c6] 24)).alloc (.cells #[.int .i64 0, .int .i64 0, .slice none 0 0] 24)).heap[w6.heap.size + 1]? = some (.cells #[.int .i64 0, .int .i64 0, .slice none 0 0] 24 (0, 0))) := heap_at (by simp); have HP6 : Hid (OwnR w5.heap.size ((w6.alloc (.cells #[.int .i64 (W : Int), .int .i64 i1, .slice q6 M.length c6] 24)).alloc (.cells #[.int .i64 0, .int .i64 0, .slice none 0 0] 24)) q6 M c6) := (ho.to (bal _ _)).to (bal _ _); have HS6 := hidOg hb.size; obtain ⟨g0, g1, g2⟩ := (KS.out _ (HS5.out.b.trans (HD6.out.b.mono HS5.out.s))).1.cells; clear hb ho)
              | (go_at_call 18; refine Calls.mono (CV1 _ (KS.out _ (HS5.out.b.trans (HD6.out.b.mono HS5.out.s))).1) ?_; rintro e w8 ⟨qy, cy, YY, rfl, hYY, hRY, hb⟩; have HD8 := hidOg (HD6.out.to hb); have B8 := hidOg (B6.out.to hb); have Z8 := hidOg (atW hb Z6.out); have HP8 := hidOg (HP6.out.to hb); have HYY := hidOg hYY; have HRY := hidOg hRY; clear hb hYY hRY g0 g1 g2))
            have hYl : YY.length = R := by rw [← lS_len, HYY.out, HA0l.out]
            have hrY : r < YY.length := by omega
            obtain ⟨G, rfl, hG0, hG1, hcY, _⟩ := HRY.out.cells hrY
            rw [World.size_alloc, World.size_alloc] at hG0
            have hel : (gR YY r).2.1 = U := by
              rw [gR_lS hrY, HUA.out (by rw [HA0l.out]; exact hr)]; simp only [HYY.out]
            have hE0 : OwnR 0 w8 (gR YY r).1 (gR YY r).2.1 (gR YY r).2.2 := HRY.out.t _ (by rw [gR_eq hrY]; exact List.getElem_mem _)
            obtain ⟨⟨ep, el, ec⟩, he⟩ : ∃ e, e = gR YY r := ⟨_, rfl⟩
            rw [← he] at hcY hel hE0
            simp only at hcY hel hE0
            subst hel
            rw [HUl.out] at hcY
            have HE8 := hidOg hE0
            have HG0 := hidOg hG0
            have HRY0 := hidOg (HRY.out.base (Nat.zero_le _))
            have HRYd := hidOg (HRY0.out.to ((Below.refl _ w8).drew))
            have KZ : Hid (∀ Z, Below w8.heap.size w8 Z → Z.cell? ⟨w2.heap.size, 0, none⟩ = some (.int .i64 (W : Int)) ∧ Z.cell? ⟨G, r, none⟩ = some (.slice ep W ec)) := fun Z hb => ⟨(KS.out _ (HS5.out.tr (HD8.out.to hb) HS5.out.s).b).1.cells.1, (hb.cell (p := ⟨G, r, none⟩) hG1).trans hcY⟩
            have HQ8 : Hid (w2.heap.size < v0.heap.size) := (KS.out _ (Below.refl _ _)).1.lt
            obtain ⟨j0, j1⟩ := KZ.out _ (Below.refl _ _)
            have hri0 : (0 : Int) ≤ (r : Int) := by omega
            have hri1 : (r : Int) < (YY.length : Int) := by omega
            have hri2 : (r : Int) ≤ (YY.length : Int) := by omega
            have hYn : YY.length ≤ 1000 := by omega
            clear hE0 he hcY hrY hG0 hG1 B6 Z6 HP6 HD6 CG CQ HRY c0 hYl
            first | (go_region_held3 (fun w' => w'.cell? ⟨w2.heap.size, 0, none⟩ = some (.int .i64 (W : Int)) ∧ w'.cell? ⟨G, r, none⟩ = some (.slice ep W ec)) (first | with_reducible exact ⟨k0, k1⟩ | with_reducible exact ⟨j0, j1⟩ | with_reducible exact TT.out _ _ _ | go_keep) (first
              | (go_at_call 25; refine Calls.mono (C25 _ _ _ _ HYY.out HRYd.out) ?_; rintro e w9 ⟨q9, c9, Y9, rfl, hY9, hR9, hb⟩; have HX9 := hidOg (bd0 hb); have HR9 := hidOg hR9; have HY9 : Hid (lS Y9 = D) := (hY9.trans (by rw [HYY.out])).trans HD.out.symm; obtain ⟨k0, k1⟩ := KZ.out _ HX9.out; clear hb hR9 hY9)
              | (go_at_call 16; refine Calls.mono (C16 _ _ _ _ HY9.out HR9.out.row) ?_; rintro e w10 ⟨q10, c10, rfl, ho, hb⟩; have HX10 := hidOg (HX9.out.trans (hb.mono HX9.out.size)); have HO10 := hidOg ho; obtain ⟨k0, k1⟩ := KZ.out _ HX10.out; have Z10 := hidOg (atW HX10.out Z8.out); obtain ⟨r0, r1, r2, rf⟩ := heap3_cell Z10.out; have TT := hidOg (fun (x y z : Value) => And.intro (set3far (x := x) (y := y) (z := z) (R := w6.heap.size + 1) (b := w2.heap.size) (by have h1 := HQ8.out; have h2 := HS5.out.s; have h3 := HS6.out; omega) k0) (set3far (x := x) (y := y) (z := z) (R := w6.heap.size + 1) (b := G) (by have h1 := HG0.out; omega) k1)); clear ho hb))) | fail
            all_goals
              have HD10 := hidOg (HD8.out.to HX10.out)
              have HP10 := hidOg (HP8.out.to HX10.out)
              have HE10 := hidOg (HE8.out.to HX10.out)
              have B10 := hidOg (B8.out.to HX10.out)
              have HD12 := hidOg (HD10.out.st3 (B := w6.heap.size + 1) (by have := HS6.out; omega) (.int .i64 (W : Int)) (.int .i64 i1) (.slice q10 M.length c10))
              have HP12 := hidOg (HP10.out.box3 Z10.out (.int .i64 (W : Int)) (.int .i64 i1) (.slice q10 M.length c10))
              have HE12 := hidOg (HE10.out.box3 Z10.out (.int .i64 (W : Int)) (.int .i64 i1) (.slice q10 M.length c10))
              have HO12 := hidOg (HO5.out.by HD12.out (Nat.le_refl _))
              have B12 : Hid (BC w6.heap.size (W : Int) i1 q6 M c6 (((w10.setCell ⟨w6.heap.size + 1, 0, none⟩ (.int .i64 (W : Int))).setCell ⟨w6.heap.size + 1, 1, none⟩ (.int .i64 i1)).setCell ⟨w6.heap.size + 1, 2, none⟩ (.slice q10 M.length c10))) := ⟨(set3_other (by omega)).trans B10.out.b, HP12.out.row, HP12.out.cm⟩
              have B16 : Hid (BC (w6.heap.size + 1) (W : Int) i1 q10 M c10 (((w10.setCell ⟨w6.heap.size + 1, 0, none⟩ (.int .i64 (W : Int))).setCell ⟨w6.heap.size + 1, 1, none⟩ (.int .i64 i1)).setCell ⟨w6.heap.size + 1, 2, none⟩ (.slice q10 M.length c10))) := ⟨set3_same Z10.out, (HO10.out.box3 Z10.out _ _ _).row, HO10.out.cm⟩
              obtain ⟨w12, hw12⟩ : ∃ x, x = (((w10.setCell ⟨w6.heap.size + 1, 0, none⟩ (.int .i64 (W : Int))).setCell ⟨w6.heap.size + 1, 1, none⟩ (.int .i64 i1)).setCell ⟨w6.heap.size + 1, 2, none⟩ (.slice q10 M.length c10)) := ⟨_, rfl⟩
              rw [← hw12] at HD12 HP12 HE12 HO12 B12 B16 ⊢
              clear hw12 TT k0 k1 j0 j1 r0 r1 r2 rf Z10 Z8 B8 B10 HP8 HP10 HE8 HE10 HX9 HX10 HD8 HD10 HO10 HR9 HY9 KZ HRYd HRY0 HYY HG0 HQ8 hri0 hri1 hri2 C25 C16
              go_wp2_with (first
                | (go_at_call 21; refine Calls.mono (CE _ _ _ _ _ HO12.out.row.i HE12.out.row.i) ?_; rintro e w13 ⟨rfl, hb⟩; have HD13 := hidOg (HD12.out.to hb); have B123 := hidOg (B12.out.to hb); have B163 := hidOg (B16.out.to hb); obtain ⟨r0, r1, r2⟩ := B123.out.cells; obtain ⟨t0, t1, t2⟩ := B163.out.cells; have HP13 := hidOg (HP12.out.to hb); clear hb)
                | (go_at_call 14; refine Calls.mono (CM _ _ _ _ _ B123.out.r.i B163.out.r.i) ?_; rintro e w14 ⟨rfl, hb⟩; have HD14 := hidOg (HD13.out.to hb); obtain ⟨r0, r1, r2⟩ := (B123.out.to hb).cells; have HP14 := hidOg (HP13.out.to hb); clear hb t0 t1 t2)
                | (go_at_call 26; refine Calls.mono (spoil26 (W : Int) i1 _ M _ w5.heap.size _ HP14.out HD14.out.s) ?_; rintro e w15 ⟨rfl, hb⟩; have HD15 : Hid (Be w5.heap.size w5 w15) := ⟨HD14.out.b.trans hb, Nat.le_trans HD14.out.s hb.size⟩; clear hb))
              have HI : Hid (∃ l', l'.length = W ∧ OwnR wo.heap.size w15 q5 l' c5 ∧ Be v0.heap.size v0 w15 ∧ wo.heap.size ≤ w15.heap.size) := ⟨_, HUl.out, HO5.out.by HD15.out (Nat.le_refl _), HS5.out.tr HD15.out HS5.out.s, Nat.le_trans HOS.out HD15.out.s⟩
              clear HD12 HD13 HD14 HD15 HP12 HP13 HP14 HE12 HO12 B12 B16 B123 B163 r0 r1 r2 HO5 HS6 CE CM
              go_loopw [108] (fun i wx => ∃ j : Nat, j ≤ W ∧ i = .int .i64 j ∧ ∃ l', l'.length = W ∧ OwnR wo.heap.size wx q5 l' c5 ∧ Be v0.heap.size v0 wx ∧ wo.heap.size ≤ wx.heap.size) (fun i _ => W - (intOf i).toNat)
              case atStart => exact ⟨0, Nat.zero_le _, rfl, HI.out⟩
              case round =>
                obtain ⟨j, hj, rfl, l', hl', ho, hx, hsz⟩ := hrel
                obtain ⟨wv, hwv⟩ : ∃ x, x = wr := ⟨_, rfl⟩
                subst hwv
                have HL := hidOg hl'
                have HX := hidOg hx
                have HSZ := hidOg hsz
                clear HI hl' hx hsz
                by_cases hlj : j < W
                · obtain ⟨G5, rfl, d0, f0, hs⟩ := ho.set (k := j) (by rw [HL.out]; exact hlj)
                  have HS := hidOg hs
                  clear hs ho
                  go_wp2
                  go_roundw
                  case rel =>
                    obtain ⟨h1, h2⟩ := HS.out _
                    have hb' := grown_bel HX.out.b (fun a ha => Nat.le_trans HB.out.s (h1.fr a ha)) HX.out.s h2
                    have hb2 := grown_bel (Below.refl wo.heap.size wv) (fun a ha => h1.fr a ha) HSZ.out h2
                    exact ⟨j + 1, by omega, by go_num, _, by rw [List.length_set]; exact HL.out, h1, ⟨hb', hb'.size⟩, Nat.le_trans HSZ.out hb2.size⟩
                  case measure => simp [intOf]; omega
                · obtain rfl : W = j := by omega
                  have KT : Hid (∀ Z, Below wv.heap.size wv Z → RV 0 X qx cx Z ∧ Be v0.heap.size v0 Z) := fun Z hb => by
                    have hz := HX.out.to hb
                    exact ⟨(KS.out _ hz.b).2.1, hz⟩
                  clear ho HL HSZ
                  go_wp2
                  go_loopw [120] (fun i wi => ∃ j : Nat, j ≤ X.length ∧ i = .int .i64 j ∧ Below wv.heap.size wv wi) (fun i _ => X.length - (intOf i).toNat)
                  case atStart => exact ⟨0, Nat.zero_le _, rfl, Below.refl _ _⟩
                  case round =>
                    obtain ⟨j, hj, rfl, hBj⟩ := hrel
                    obtain ⟨wi, hwi⟩ : ∃ x, x = wr := ⟨_, rfl⟩
                    subst hwi
                    have HBj : Hid (Be wv.heap.size wv wi) := ⟨hBj, hBj.size⟩
                    by_cases hlj : j < X.length
                    · have hOu := (KT.out _ hBj).1.t _ (gR_mem hlj)
                      obtain ⟨b2, off2, hq, hbN2, hcs⟩ := (KT.out _ hBj).1.row (by omega)
                      have d0 := (hcs j hlj).1
                      obtain ⟨⟨pu, u, cu⟩, hu⟩ : ∃ u, u = gR X j := ⟨_, rfl⟩
                      rw [← hu] at hOu
                      simp only at hOu
                      replace d0 : wi.cell? ⟨b2, off2 + j, none⟩ = some (.slice pu u.length cu) := by rw [d0]; unfold rP rL rC; rw [show X.getD j (none, [], 0) = (pu, u, cu) from hu.symm]
                      have hut := HTA.out u
                      have HOu := hidOg hOu
                      have HQi : Hid (w2.heap.size < wi.heap.size) := (KS.out _ (KT.out _ HBj.out.b).2.b).1.lt
                      subst hq
                      clear hcs hBj hbN2 hOu hu
                      by_cases huW : u.length = W
                      · rw [huW] at d0
                        rw [if_pos huW] at hut
                        have hNl := HN1.out u huW
                        obtain ⟨N2, hN2⟩ : ∃ N2, N2 = (A0.set r u).flatten := ⟨_, rfl⟩
                        rw [← hN2] at hut hNl
                        have CTu := fun (q : Option Addr) (k : Nat) (pu : Option Addr) (cu : Nat) (Z : World) (h1 : Row Z q L k) (h2 : k ≤ maxLen) (h3 : IRow .u64 Z.heap.size Z pu u) => set1 hut huW q k pu cu Z h1 h2 h3
                        have C28 := fun (q : Option Addr) (YY : List RR) (d : Nat) (pu : Option Addr) (cu : Nat) (Z : World) (hY : lS YY = A0) (hV : RV 0 YY q d Z) (hu : OwnR 0 Z pu u cu) => with28 q YY d r pu u cu Z hV hu (by rw [← lS_len, hY, HA0l.out]; omega) (by rw [← lS_len, hY, HA0l.out]; omega)
                        have C16 := fun (q : Option Addr) (YY : List RR) (d : Nat) (Z : World) (hY : lS YY = A0.set r u) (hV : VRow Z.heap.size Z q YY) => of1 (W := (W : Int)) (i1 := (R : Int)) (A := A0.set r u) (M := A0.set r u) hN2 (by rw [List.length_set, HA0l.out]) (by rw [List.length_set, HA0l.out]; omega) hNl rfl q YY d Z hY hV
                        have CM := fun (q : Option Addr) (k : Nat) (q' : Option Addr) (k' : Nat) (Z : World) (h1 : IRow .u64 Z.heap.size Z q N2) (h2 : IRow .u64 Z.heap.size Z q' N2) => same1 (W : Int) (R : Int) N2 hNl q k q' k' Z h1 h2
                        replace C28 : ∀ (q : Option Addr) (YY : List RR) (d : Nat) (pu : Option Addr) (cu : Nat) (Z : World), lS YY = A0 → RV 0 YY q d Z → OwnR 0 Z pu u cu → Calls Try.prog 28 #[.slice q YY.length d, .int .i64 (r : Int), .slice pu W cu] Z fun e w' => GivesV ((lS YY).set r u) Z e w' := by rw [← huW]; exact C28
                        clear hut hN2 hNl huW
                        have hd : ((W : Int) == (W : Int)) = true := by simp
                        obtain ⟨g0, g1, g2⟩ := (KS.out _ (KT.out _ HBj.out.b).2.b).1.cells
                        go_upto_region 39 with (first
                          | (go_at_call 27; refine Calls.mono (CTu _ _ _ _ _ (KS.out _ (KT.out _ HBj.out.b).2.b).1.r (KS.out _ (KT.out _ HBj.out.b).2.b).1.m HOu.out.row.i) ?_; rintro e v6 ⟨q6', c6', rfl, ho, hb⟩; have HD6 : Hid (Be wi.heap.size wi ((v6.alloc (.cells #[.int .i64 (W : Int), .int .i64 (R : Int), .slice q6' N2.length c6'] 24)).alloc (.cells #[.int .i64 0, .int .i64 0, .slice none 0 0] 24))) := ((⟨hb, hb.size⟩ : Be wi.heap.size wi v6).al _).al _; have B6 : Hid (BC v6.heap.size (W : Int) (R : Int) q6' N2 c6' ((v6.alloc (.cells #[.int .i64 (W : Int), .int .i64 (R : Int), .slice q6' N2.length c6'] 24)).alloc (.cells #[.int .i64 0, .int .i64 0, .slice none 0 0] 24))) := (BC.new ho.row ho.cm).to (bal _ _); have Z6 : Hid (((v6.alloc (.cells #[.int .i64 (W : Int), .int .i64 (R : Int), .slice q6' N2.length c6'] 24)).alloc (.cells #[.int .i64 0, .int .i64 0, .slice none 0 0] 24)).heap[v6.heap.size + 1]? = some (.cells #[.int .i64 0, .int .i64 0, .slice none 0 0] 24 (0, 0))) := heap_at (by simp); have HP6 : Hid (OwnR wi.heap.size ((v6.alloc (.cells #[.int .i64 (W : Int), .int .i64 (R : Int), .slice q6' N2.length c6'] 24)).alloc (.cells #[.int .i64 0, .int .i64 0, .slice none 0 0] 24)) q6' N2 c6') := (ho.to (bal _ _)).to (bal _ _); have HS6 := hidOg hb.size; obtain ⟨g0, g1, g2⟩ := (KS.out _ (KT.out _ ((HBj.out.tr HD6.out HBj.out.s).b)).2.b).1.cells; clear hb ho))
                        have KZ : Hid (∀ Z, Below ((v6.alloc (.cells #[.int .i64 (W : Int), .int .i64 (R : Int), .slice q6' N2.length c6'] 24)).alloc (.cells #[.int .i64 0, .int .i64 0, .slice none 0 0] 24)).heap.size ((v6.alloc (.cells #[.int .i64 (W : Int), .int .i64 (R : Int), .slice q6' N2.length c6'] 24)).alloc (.cells #[.int .i64 0, .int .i64 0, .slice none 0 0] 24)) Z → BC w2.heap.size (W : Int) (R : Int) q2 L c2 Z ∧ Z.cell? ⟨w2.heap.size, 0, none⟩ = some (.int .i64 (W : Int)) ∧ Z.cell? ⟨w2.heap.size, 1, none⟩ = some (.int .i64 (R : Int)) ∧ Z.cell? ⟨w2.heap.size, 2, none⟩ = some (.slice q2 L.length c2)) := fun Z hb => by
                          have hz := (KS.out _ (KT.out _ ((HBj.out.tr (HD6.out.to hb) HBj.out.s).b)).2.b).1
                          exact ⟨hz, hz.cells⟩
                        obtain ⟨WZ, hWZ⟩ : ∃ x, x = ((v6.alloc (.cells #[.int .i64 (W : Int), .int .i64 (R : Int), .slice q6' N2.length c6'] 24)).alloc (.cells #[.int .i64 0, .int .i64 0, .slice none 0 0] 24)) := ⟨_, rfl⟩
                        have HDd : Hid (Below WZ.heap.size WZ WZ.drew) := (Below.refl _ _).drew
                        rw [← hWZ] at HD6 B6 Z6 HP6 KZ g0 g1 g2 ⊢
                        clear hWZ
                        first | (go_region_held3 (fun w' => w'.cell? ⟨w2.heap.size, 0, none⟩ = some (.int .i64 (W : Int)) ∧ w'.cell? ⟨w2.heap.size, 1, none⟩ = some (.int .i64 (R : Int)) ∧ w'.cell? ⟨w2.heap.size, 2, none⟩ = some (.slice q2 L.length c2)) (first | with_reducible exact ⟨k0, k1, k2⟩ | with_reducible exact ⟨g0, g1, g2⟩ | with_reducible exact TT.out _ _ _ | go_keep) (first
                          | (go_at_call 18; refine Calls.mono (CV1 _ (KZ.out _ HDd.out).1) ?_; rintro e w8 ⟨qy, cy, YY, rfl, hYY, hRY, hb⟩; have HX8 := hidOg (bd0 hb); have HYY := hidOg hYY; have HRY := hidOg (hRY.base (Nat.zero_le _)); have HOu8 := hidOg (HOu.out.to ((HD6.out.to HX8.out).b)); obtain ⟨_, k0, k1, k2⟩ := KZ.out _ HX8.out; clear hb hYY hRY)
                          | (go_at_call 28; refine Calls.mono (C28 _ _ _ _ _ _ HYY.out HRY.out HOu8.out) ?_; rintro e w9 ⟨q9, c9, Y9, rfl, hY9, hR9, hb⟩; have HX9 := hidOg (HX8.out.trans (hb.mono HX8.out.size)); have HR9 := hidOg hR9; have HY9 : Hid (lS Y9 = A0.set r u) := hY9.trans (by rw [HYY.out]); obtain ⟨_, k0, k1, k2⟩ := KZ.out _ HX9.out; clear hb hR9 hY9)
                          | (go_at_call 16; refine Calls.mono (C16 _ _ _ _ HY9.out HR9.out.row) ?_; rintro e w10 ⟨q10, c10, rfl, ho, hb⟩; have HX10 := hidOg (HX9.out.trans (hb.mono HX9.out.size)); have HO10 := hidOg ho; obtain ⟨_, k0, k1, k2⟩ := KZ.out _ HX10.out; have Z10 := hidOg (atW HX10.out Z6.out); obtain ⟨r0, r1, r2, rf⟩ := heap3_cell Z10.out; have hne : v6.heap.size + 1 ≠ w2.heap.size := (by have h1 := HQi.out; have h2 := HS6.out; omega); have TT := hidOg (fun (x y z : Value) => And.intro (set3far (x := x) (y := y) (z := z) hne k0) (And.intro (set3far (x := x) (y := y) (z := z) hne k1) (set3far (x := x) (y := y) (z := z) hne k2))); clear ho hb hne))) | fail
                        all_goals
                          have HD10 := hidOg (HD6.out.to HX10.out)
                          have HP10 := hidOg (HP6.out.to HX10.out)
                          have B10 := hidOg (B6.out.to HX10.out)
                          have HD12 := hidOg (HD10.out.st3 (B := v6.heap.size + 1) (by have := HS6.out; omega) (.int .i64 (W : Int)) (.int .i64 (R : Int)) (.slice q10 N2.length c10))
                          have HP12 := hidOg (HP10.out.box3 Z10.out (.int .i64 (W : Int)) (.int .i64 (R : Int)) (.slice q10 N2.length c10))
                          have B12 : Hid (BC v6.heap.size (W : Int) (R : Int) q6' N2 c6' (((w10.setCell ⟨v6.heap.size + 1, 0, none⟩ (.int .i64 (W : Int))).setCell ⟨v6.heap.size + 1, 1, none⟩ (.int .i64 (R : Int))).setCell ⟨v6.heap.size + 1, 2, none⟩ (.slice q10 N2.length c10))) := ⟨(set3_other (by omega)).trans B10.out.b, HP12.out.row, HP12.out.cm⟩
                          have B16 : Hid (BC (v6.heap.size + 1) (W : Int) (R : Int) q10 N2 c10 (((w10.setCell ⟨v6.heap.size + 1, 0, none⟩ (.int .i64 (W : Int))).setCell ⟨v6.heap.size + 1, 1, none⟩ (.int .i64 (R : Int))).setCell ⟨v6.heap.size + 1, 2, none⟩ (.slice q10 N2.length c10))) := ⟨set3_same Z10.out, (HO10.out.box3 Z10.out _ _ _).row, HO10.out.cm⟩
                          obtain ⟨w12, hw12⟩ : ∃ x, x = (((w10.setCell ⟨v6.heap.size + 1, 0, none⟩ (.int .i64 (W : Int))).setCell ⟨v6.heap.size + 1, 1, none⟩ (.int .i64 (R : Int))).setCell ⟨v6.heap.size + 1, 2, none⟩ (.slice q10 N2.length c10)) := ⟨_, rfl⟩
                          rw [← hw12] at HD12 HP12 B12 B16 ⊢
                          clear hw12 TT k0 k1 k2 g0 g1 g2 r0 r1 r2 rf Z10 Z6 B6 B10 HP6 HP10 HX8 HX9 HX10 HD6 HD10 HO10 HR9 HY9 KZ HRY HYY HDd C28 C16 CTu
                          obtain ⟨r0, r1, r2⟩ := B12.out.cells
                          obtain ⟨t0, t1, t2⟩ := B16.out.cells
                          go_wp2_with (first
                            | (go_at_call 14; refine Calls.mono (CM _ _ _ _ _ B12.out.r.i B16.out.r.i) ?_; rintro e w14 ⟨rfl, hb⟩; have HD14 := hidOg (HD12.out.to hb); obtain ⟨r0, r1, r2⟩ := (B12.out.to hb).cells; have HP14 := hidOg (HP12.out.to hb); clear hb t0 t1 t2)
                            | (go_at_call 26; refine Calls.mono (spoil26 (W : Int) (R : Int) _ N2 _ wi.heap.size _ HP14.out HD14.out.s) ?_; rintro e w15 ⟨rfl, hb⟩; have HD15 : Hid (Be wi.heap.size wi w15) := ⟨HD14.out.b.trans hb, Nat.le_trans HD14.out.s hb.size⟩; clear hb))
                          go_roundw
                          case rel => exact ⟨j + 1, by omega, by go_num, (HBj.out.tr HD15.out HBj.out.s).b⟩
                          case measure => simp [intOf]; omega
                      · rw [if_neg huW] at hut
                        have CTu := fun (q : Option Addr) (k : Nat) (pu : Option Addr) (cu : Nat) (Z : World) (h1 : Row Z q L k) (h2 : k ≤ maxLen) (h3 : IRow .u64 Z.heap.size Z pu u) => set0 hut q k pu cu Z h1 h2 h3
                        have hd : ((u.length : Int) == (W : Int)) = false := by simp; omega
                        clear hut huW
                        obtain ⟨g0, g1, g2⟩ := (KS.out _ (KT.out _ HBj.out.b).2.b).1.cells
                        go_wp2_with (first
                          | (go_at_call 27; refine Calls.mono (CTu _ _ _ _ _ (KS.out _ (KT.out _ HBj.out.b).2.b).1.r (KS.out _ (KT.out _ HBj.out.b).2.b).1.m HOu.out.row.i) ?_; rintro e v6 ⟨q6', c6', rfl, ho, hb⟩; have HD6 : Hid (Be wi.heap.size wi ((v6.alloc (.cells #[.int .i64 0, .int .i64 0, .slice q6' 0 c6'] 24)).alloc (.cells #[.int .i64 0, .int .i64 0, .slice none 0 0] 24))) := ((⟨hb, hb.size⟩ : Be wi.heap.size wi v6).al _).al _; have B6 : Hid (BC v6.heap.size 0 0 q6' [] c6' ((v6.alloc (.cells #[.int .i64 0, .int .i64 0, .slice q6' 0 c6'] 24)).alloc (.cells #[.int .i64 0, .int .i64 0, .slice none 0 0] 24))) := (BC.new ho.row ho.cm).to (bal _ _); have HP6 : Hid (OwnR wi.heap.size ((v6.alloc (.cells #[.int .i64 0, .int .i64 0, .slice q6' 0 c6'] 24)).alloc (.cells #[.int .i64 0, .int .i64 0, .slice none 0 0] 24)) q6' [] c6') := (ho.to (bal _ _)).to (bal _ _); obtain ⟨r0, r1, r2⟩ := B6.out.cells; obtain ⟨g0, g1, g2⟩ := (KS.out _ (KT.out _ ((HBj.out.tr HD6.out HBj.out.s).b)).2.b).1.cells; clear hb ho)
                          | (go_at_call 14; refine Calls.mono (same0 _ _ _ _ _) ?_; rintro e v8 ⟨rfl, hb⟩; have HD8 := hidOg (HD6.out.to hb); obtain ⟨r0, r1, r2⟩ := (B6.out.to hb).cells; have HP8 := hidOg (HP6.out.to hb); clear hb)
                          | (go_at_call 26; refine Calls.mono (spoil26 0 0 _ [] _ wi.heap.size _ HP8.out HD8.out.s) ?_; rintro e v9 ⟨rfl, hb⟩; have HD9 : Hid (Be wi.heap.size wi v9) := ⟨HD8.out.b.trans hb, Nat.le_trans HD8.out.s hb.size⟩; clear hb))
                        go_roundw
                        case rel => exact ⟨j + 1, by omega, by go_num, (HBj.out.tr HD9.out HBj.out.s).b⟩
                        case measure => simp [intOf]; omega
                    · obtain rfl : j = X.length := by omega
                      go_wp2
                      have HS0 : Hid (Below v0.heap.size v0 wi.drew) := (KT.out _ HBj.out.b).2.b.drew
                      obtain ⟨j0, j1, j2⟩ := (KS.out _ (KT.out _ HBj.out.b).2.b).1.cells
                      obtain ⟨j3, j4, j5, _⟩ := heap3_cell (KS.out _ (KT.out _ HBj.out.b).2.b).2.2.1
                      first | (go_region_held3 (fun w' => w'.cell? ⟨w2.heap.size, 0, none⟩ = some (.int .i64 (W : Int)) ∧ w'.cell? ⟨w2.heap.size, 1, none⟩ = some (.int .i64 (R : Int)) ∧ w'.cell? ⟨w2.heap.size, 2, none⟩ = some (.slice q2 L.length c2) ∧ w'.cell? ⟨w.heap.size, 0, none⟩ = some (.int .i64 (W : Int)) ∧ w'.cell? ⟨w.heap.size, 1, none⟩ = some (.int .i64 (R : Int)) ∧ w'.cell? ⟨w.heap.size, 2, none⟩ = some (.slice p l.length c)) (first | with_reducible exact ⟨k0, k1, k2, k3, k4, k5⟩ | with_reducible exact ⟨j0, j1, j2, j3, j4, j5⟩ | go_keep) (first
                        | (go_at_call 10; refine Calls.mono (KO _ HS0.out) ?_; rintro e x1 ⟨qo, co, rfl, ho, hb⟩; have HS1 := hidOg (HS0.out.trans (hb.mono HS0.out.size)); have HO1 := hidOg ho.row; obtain ⟨k0, k1, k2⟩ := (KS.out _ HS1.out).1.cells; obtain ⟨k3, k4, k5, _⟩ := heap3_cell (KS.out _ HS1.out).2.2.1; clear hb ho)
                        | (go_at_call 14; refine Calls.mono (CW _ _ _ (KS.out _ HS1.out).1.r HO1.out) ?_; rintro e x2 ⟨rfl, hb⟩; have HS2 := hidOg (HS1.out.trans (hb.mono HS1.out.size)); obtain ⟨k0, k1, k2⟩ := (KS.out _ HS2.out).1.cells; obtain ⟨k3, k4, k5, _⟩ := heap3_cell (KS.out _ HS2.out).2.2.1; clear hb))) | fail
                      all_goals
                        go_wp2
                        go_roundw
                        case rel => exact ⟨k + 1, by omega, by go_num, HS2.out⟩
                        case measure => simp [intOf]; omega
    · obtain rfl : k = nn := by omega
      go_wp2
      go_ret
      exact ⟨rfl, (KS.out _ hB).2.2.2.b⟩
end Go.Proofs.Ytkbikngkhaeakaa
