/- ColumnRows: the walk. -/
import Derived.Test.YtkbikngkhaeakaaRwM
import Derived.Deep.CutRange
import Derived.Deep.CutBlock
namespace Go.Proofs.Ytkbikngkhaeakaa
open Go.RowKit

set_option maxRecDepth 20000 in
set_option maxHeartbeats 4000000 in
theorem rows_small (wd rs : Int) (p : Option Addr) (l : List Int) (c : Nat) (pn : Option Addr) (ns : List Int) (cn : Nat) (pv : Option Addr) (V : List RR) (d : Nat) (w : World) (h : InR w p l c) (hV : VRow w.heap.size w pv V) (hVd : V.length ≤ d) (hVr : RoomV V) (hVn : V.length ≤ maxLen) (hVl : ∀ k, k < V.length → (rL V k).length ≤ maxLen) (hs : smB wd rs (l.take 60).length = false) :
    Calls Try.prog 4 #[.agg #[.int .i64 wd, .int .i64 rs, .slice p l.length c], .slice pn ns.length cn, .slice pv V.length d] w fun e w' => e = .returned (.bool true) ∧ Below w.heap.size w w' := by
  have CO := fun (X : World) (hb : Below w.heap.size w X) => own10 wd rs p l c X (h.to hb)
  have CV := fun (X : World) (hb : Below w.heap.size w X) => values22 pv V d X (hV.to hb) hVd hVr hVn hVl
  obtain ⟨L, hL⟩ : ∃ L, L = l.take 60 := ⟨_, rfl⟩
  have h60 : L.length ≤ 60 := by rw [hL]; simp; omega
  rw [← hL] at CO hs
  have H60 := hidOg h60
  have h0 := heap_alloc_new w (.cells #[.int .i64 wd, .int .i64 rs, .slice p l.length c] 24)
  have H0 := hidOg h0
  have CS := fun (q : Option Addr) (k : Nat) (X : World) => small17 wd rs q L.length k X
  rw [hs] at CS
  have HB0 : Hid (Be w.heap.size w (w.alloc (.cells #[.int .i64 wd, .int .i64 rs, .slice p l.length c] 24))) := (Be.refl (Nat.le_refl _)).al _
  clear h hL hs h0 h60 H60 hV hVd hVr hVn hVl
  go_enter Try.func4, Try.ntmps4
  go_wp2_with (first
    | (go_at_call 9; refine Calls.mono (wakes9 _) ?_; rintro e w1 ⟨rfl, hb1⟩; have HX1 := hidOg ((hb1.block w.heap.size (by simp)).trans H0.out); obtain ⟨a0, a1, a2, _⟩ := heap3_cell HX1.out; have HB1 := hidOg (HB0.out.to hb1); clear hb1)
    | (go_at_call 10; refine Calls.mono (CO _ HB1.out.b) ?_; rintro e w2 ⟨q2, c2, rfl, ho2, hb2⟩; have B72 := hidOg (BC.new (wd := wd) (rs := rs) ho2.row ho2.cm); have HB2 := hidOg ((⟨hb2, hb2.size⟩ : Be w1.heap.size w1 w2).al (.cells #[.int .i64 wd, .int .i64 rs, .slice q2 L.length c2] 24)); clear ho2 hb2 a0 a1 a2)
    | (go_at_call 22; refine Calls.mono (CV _ (HB1.out.tr HB2.out HB1.out.s).b) ?_; rintro e w3 ⟨qx, cx, X, rfl, hX, hRX, hb⟩; have B73 := hidOg (B72.out.to hb); obtain ⟨y0, y1, y2⟩ := B73.out.cells; have HB3 := hidOg (HB2.out.to hb); have HRX := hidOg (hRX.base (Nat.zero_le _)); have HX3 := hidOg hX; clear hRX hX hb)
    | (go_at_call 17; refine Calls.mono (CS _ _ _) ?_; rintro e w4 ⟨rfl, hb⟩; have B74 := hidOg (B73.out.to hb); obtain ⟨y0, y1, y2⟩ := B74.out.cells; have HB4 := hidOg (HB3.out.to hb); have HRX4 := hidOg (HRX.out.to hb); clear hb))
  go_ret
  exact ⟨rfl, (HB1.out.tr HB4.out HB1.out.s).b⟩
set_option maxRecDepth 20000 in
set_option maxHeartbeats 8000000 in
theorem rows_bad (wd rs : Int) (p : Option Addr) (l : List Int) (c : Nat) (pn : Option Addr) (ns : List Int) (cn : Nat) (pv : Option Addr) (V : List RR) (d : Nat) (w : World) (h : InR w p l c) (hN : IRow .i64 w.heap.size w pn ns) (hN4 : ns.length ≤ maxLen) (hV : VRow w.heap.size w pv V) (hVd : V.length ≤ d) (hVr : RoomV V) (hVn : V.length ≤ maxLen) (hVl : ∀ k, k < V.length → (rL V k).length ≤ maxLen) (hs : smB wd rs (l.take 60).length = true) (hm : mayB wd rs (l.take 60).length = false) :
    Calls Try.prog 4 #[.agg #[.int .i64 wd, .int .i64 rs, .slice p l.length c], .slice pn ns.length cn, .slice pv V.length d] w fun e w' => e = .returned (.bool true) ∧ Below w.heap.size w w' := by
  have CO := fun (X : World) (hb : Below w.heap.size w X) => own10 wd rs p l c X (h.to hb)
  have CV := fun (X : World) (hb : Below w.heap.size w X) => values22 pv V d X (hV.to hb) hVd hVr hVn hVl
  obtain ⟨L, hL⟩ : ∃ L, L = l.take 60 := ⟨_, rfl⟩
  have h60 : L.length ≤ 60 := by rw [hL]; simp; omega
  rw [← hL] at CO hs hm
  have H60 := hidOg h60
  have h0 := heap_alloc_new w (.cells #[.int .i64 wd, .int .i64 rs, .slice p l.length c] 24)
  have H0 := hidOg h0
  have CS := fun (q : Option Addr) (k : Nat) (X : World) => small17 wd rs q L.length k X
  rw [hs] at CS
  have CR := fun (q : Option Addr) (k : Nat) (X : World) => r12b wd rs q L.length k X
  rw [hm] at CR
  have HM := hidOg hm
  have HN := hidOg hN
  obtain ⟨nn, hnn⟩ : ∃ nn, nn = ns.length := ⟨_, rfl⟩
  have HNN := hidOg hnn
  have hnn63 : nn ≤ 9223372036854775807 := by rw [hnn]; unfold maxLen at hN4; exact hN4
  rw [← hnn]
  have HB0 : Hid (Be w.heap.size w (w.alloc (.cells #[.int .i64 wd, .int .i64 rs, .slice p l.length c] 24))) := (Be.refl (Nat.le_refl _)).al _
  clear h hL hs hm h0 h60 hV hVd hVr hVn hVl hN hN4 hnn
  go_enter Try.func4, Try.ntmps4
  go_wp2_with (first
    | (go_at_call 9; refine Calls.mono (wakes9 _) ?_; rintro e w1 ⟨rfl, hb1⟩; have HX1 := hidOg ((hb1.block w.heap.size (by simp)).trans H0.out); obtain ⟨a0, a1, a2, _⟩ := heap3_cell HX1.out; have HB1 := hidOg (HB0.out.to hb1); clear hb1)
    | (go_at_call 10; refine Calls.mono (CO _ HB1.out.b) ?_; rintro e w2 ⟨q2, c2, rfl, ho2, hb2⟩; have B72 := hidOg (BC.new (wd := wd) (rs := rs) ho2.row ho2.cm); have HB2 := hidOg ((⟨hb2, hb2.size⟩ : Be w1.heap.size w1 w2).al (.cells #[.int .i64 wd, .int .i64 rs, .slice q2 L.length c2] 24)); clear ho2 hb2 a0 a1 a2)
    | (go_at_call 22; refine Calls.mono (CV _ (HB1.out.tr HB2.out HB1.out.s).b) ?_; rintro e w3 ⟨qx, cx, X, rfl, hX, hRX, hb⟩; have B73 := hidOg (B72.out.to hb); obtain ⟨y0, y1, y2⟩ := B73.out.cells; have HB3 := hidOg (HB2.out.to hb); have HRX := hidOg (hRX.base (Nat.zero_le _)); have HX3 := hidOg hX; clear hRX hX hb)
    | (go_at_call 17; refine Calls.mono (CS _ _ _) ?_; rintro e w4 ⟨rfl, hb⟩; have B74 := hidOg (B73.out.to hb); obtain ⟨y0, y1, y2⟩ := B74.out.cells; have HB4 := hidOg (HB3.out.to hb); have HRX4 := hidOg (HRX.out.to hb); clear hb)
    | (go_at_call 12; refine Calls.mono (CR _ _ _) ?_; rintro e v0 ⟨rfl, hb⟩; have B75 := hidOg (B74.out.to hb); have HB5 := hidOg (HB4.out.to hb); have HRX5 := hidOg (HRX4.out.to hb); clear hb))
  have KS : Hid (∀ Z, Below v0.heap.size v0 Z → BC w2.heap.size wd rs q2 L c2 Z ∧ RV 0 X qx cx Z ∧ Z.heap[w.heap.size]? = some (.cells #[.int .i64 wd, .int .i64 rs, .slice p l.length c] 24 (0, 0)) ∧ Be w.heap.size w Z) := fun Z hb => by
    have hz := HB5.out.to hb
    exact ⟨B75.out.to hb, HRX5.out.to hb, atW hz.b HX1.out, HB1.out.tr hz HB1.out.s⟩
  have hXn : X.length ≤ 8 := by
    have := congrArg List.length HX3.out
    rw [lS_len] at this
    unfold valS at this
    simp at this
    omega
  have hXn63 : X.length ≤ 9223372036854775807 := by omega
  have KN : Hid (∀ Z, Below v0.heap.size v0 Z → IRow .i64 Z.heap.size Z pn ns) := fun Z hb => HN.out.to ((KS.out Z hb).2.2.2.b)
  have KO := fun (Z : World) (hb : Below v0.heap.size v0 Z) => CO Z (KS.out Z hb).2.2.2.b
  have CW := fun (q : Option Addr) (k : Nat) (X : World) (h1 : Row X q2 L c2) (h2 : Row X q L k) => refSame14 wd rs q2 L c2 wd rs q L k X h1.i h2.i (by have := H60.out; omega)
  rw [samC_refl] at CW
  clear B72 B73 B74 B75 HB0 HB1 HB2 HB3 HB4 HB5 HRX HRX4 HRX5 HX1 HX3 H0 CO CV CS y0 y1 y2
  go_loopw [40] (fun i wr => ∃ k : Nat, k ≤ nn ∧ i = .int .i64 k ∧ Below v0.heap.size v0 wr) (fun i _ => nn - (intOf i).toNat)
  case atStart => exact ⟨0, Nat.zero_le _, rfl, Below.refl _ _⟩
  case round =>
    obtain ⟨k, hk, rfl, hB⟩ := hrel
    obtain ⟨wo, hwo⟩ : ∃ x, x = wr := ⟨_, rfl⟩
    subst hwo
    have HB : Hid (Be v0.heap.size v0 wo) := ⟨hB, hB.size⟩
    by_cases hlt : k < nn
    · obtain ⟨b, off, rfl, hbN, hcs⟩ := (KN.out _ hB) (by rw [← HNN.out]; omega)
      have c0 := hcs k (by rw [← HNN.out]; exact hlt)
      obtain ⟨z, hz⟩ : ∃ z, z = iG ns k := ⟨_, rfl⟩
      rw [← hz] at c0
      clear hcs hB hz KN hbN
      by_cases h6 : k = 6
      · have e6 : ((k : Int) == 6) = true := by simp; omega
        clear h6
        go_wp2
        go_ret
        exact ⟨rfl, (KS.out _ HB.out.b).2.2.2.b⟩
      · have e6 : ((k : Int) == 6) = false := by simp; omega
        clear h6
        obtain ⟨hgA, hsA, htA⟩ := no_may HM.out z
        have CG := fun (q : Option Addr) (k : Nat) (X : World) (h1 : Row X q L k) (h2 : k ≤ maxLen) => get0 hgA q k X h1 h2
        have CQ := fun (q : Option Addr) (k : Nat) (X : World) (h1 : Row X q L k) (h2 : k ≤ maxLen) => swap0 hsA q k X h1 h2
        have CT := fun (u : List Int) (q : Option Addr) (k : Nat) (pu : Option Addr) (cu : Nat) (X : World) (h1 : Row X q L k) (h2 : k ≤ maxLen) (h3 : IRow .u64 X.heap.size X pu u) => set0 (htA u) q k pu cu X h1 h2 h3
        clear hgA hsA htA
        obtain ⟨g0, g1, g2⟩ := (KS.out _ HB.out.b).1.cells
        go_wp2_with (first
          | (go_at_call 23; refine Calls.mono (CG _ _ _ (KS.out _ HB.out.b).1.r (KS.out _ HB.out.b).1.m) ?_; rintro e w5 ⟨q5, c5, rfl, _, hb⟩; have HS5 := hidOg (HB.out.to hb); obtain ⟨g0, g1, g2⟩ := (KS.out _ HS5.out.b).1.cells; clear hb)
          | (go_at_call 24; refine Calls.mono (CQ _ _ _ (KS.out _ HS5.out.b).1.r (KS.out _ HS5.out.b).1.m) ?_; rintro e w6 ⟨q6, c6, rfl, ho, hb⟩; have HD6 : Hid (Be w5.heap.size w5 ((w6.alloc (.cells #[.int .i64 0, .int .i64 0, .slice q6 0 c6] 24)).alloc (.cells #[.int .i64 0, .int .i64 0, .slice none 0 0] 24))) := ((⟨hb, hb.size⟩ : Be w5.heap.size w5 w6).al _).al _; have B6 : Hid (BC w6.heap.size 0 0 q6 [] c6 ((w6.alloc (.cells #[.int .i64 0, .int .i64 0, .slice q6 0 c6] 24)).alloc (.cells #[.int .i64 0, .int .i64 0, .slice none 0 0] 24))) := (BC.new ho.row ho.cm).to (bal _ _); have Z6 : Hid ((((w6.alloc (.cells #[.int .i64 0, .int .i64 0, .slice q6 0 c6] 24)).alloc (.cells #[.int .i64 0, .int .i64 0, .slice none 0 0] 24))).heap[w6.heap.size + 1]? = some (.cells #[.int .i64 0, .int .i64 0, .slice none 0 0] 24 (0, 0))) := heap_at (by simp); have HP6 : Hid (OwnR w5.heap.size ((w6.alloc (.cells #[.int .i64 0, .int .i64 0, .slice q6 0 c6] 24)).alloc (.cells #[.int .i64 0, .int .i64 0, .slice none 0 0] 24)) q6 [] c6) := (ho.to (bal _ _)).to (bal _ _); obtain ⟨g0, g1, g2⟩ := (KS.out _ (HS5.out.b.trans (HD6.out.b.mono HS5.out.s))).1.cells; clear hb ho)
          | (go_at_call 21; refine Calls.mono (eq0 _ _ _ _ _) ?_; rintro e w7 ⟨rfl, hb⟩; have HD7 := hidOg (HD6.out.to hb); obtain ⟨r0, r1, r2⟩ := (B6.out.to hb).cells; obtain ⟨t0, t1, t2, _⟩ := heap3_cell (atW hb Z6.out); have B7 := hidOg (B6.out.to hb); have HP7 := hidOg (HP6.out.to hb); clear hb g0 g1 g2)
          | (go_at_call 14; refine Calls.mono (same0 _ _ _ _ _) ?_; rintro e w8 ⟨rfl, hb⟩; have HD8 := hidOg (HD7.out.to hb); obtain ⟨r0, r1, r2⟩ := (B7.out.to hb).cells; have HP8 := hidOg (HP7.out.to hb); clear hb)
          | (go_at_call 26; refine Calls.mono (spoil26 0 0 _ [] _ w5.heap.size _ HP8.out HD8.out.s) ?_; rintro e w9 ⟨rfl, hb⟩; have HD9 : Hid (Be w5.heap.size w5 w9) := ⟨HD8.out.b.trans hb, Nat.le_trans HD8.out.s hb.size⟩; clear hb))
        go_loopw [108] (fun i wx => i = .int .i64 0 ∧ wx = w9) (fun _ _ => 0)
        case atStart => exact ⟨rfl, rfl⟩
        case round =>
          obtain ⟨rfl, hwv⟩ := hrel
          subst hwv
          obtain ⟨wv, hwv⟩ : ∃ x, x = wr := ⟨_, rfl⟩
          subst hwv
          have KT : Hid (∀ Z, Below wv.heap.size wv Z → RV 0 X qx cx Z ∧ Be v0.heap.size v0 Z) := fun Z hb => by
            have hz := HS5.out.tr (HD9.out.to hb) HS5.out.s
            exact ⟨(KS.out _ hz.b).2.1, hz⟩
          clear HD6 HD7 HD8 HD9 B6 B7 Z6 HP6 HP7 HP8 r0 r1 r2 t0 t1 t2 CG CQ c0
          go_wp2
          go_loopw [120] (fun i wi => ∃ j : Nat, j ≤ X.length ∧ i = .int .i64 j ∧ Below wv.heap.size wv wi) (fun i _ => X.length - (intOf i).toNat)
          case atStart => exact ⟨0, Nat.zero_le _, rfl, Below.refl _ _⟩
          case round =>
            obtain ⟨j, hj, rfl, hBj⟩ := hrel
            obtain ⟨wi, hwi⟩ : ∃ x, x = wr := ⟨_, rfl⟩
            subst hwi
            have HBj : Hid (Be wv.heap.size wv wi) := ⟨hBj, hBj.size⟩
            by_cases hlj : j < X.length
            · obtain ⟨b2, off2, hq, hbN2, hcs⟩ := (KT.out _ hBj).1.row (by omega)
              obtain ⟨d0, hI⟩ := hcs j hlj
              obtain ⟨⟨pu, u, cu⟩, hu⟩ : ∃ u, u = (rP X j, rL X j, rC X j) := ⟨_, rfl⟩
              injection hu with hu1 hu
              injection hu with hu2 hu3
              rw [← hu1, ← hu2, ← hu3] at d0
              rw [← hu1, ← hu2] at hI
              have CTu := CT u
              have HI := hidOg hI
              subst hq
              clear hcs hBj hbN2 hI hu1 hu2 hu3
              obtain ⟨g0, g1, g2⟩ := (KS.out _ (KT.out _ HBj.out.b).2.b).1.cells
              go_wp2_with (first
                | (go_at_call 27; refine Calls.mono (CTu _ _ _ _ _ (KS.out _ (KT.out _ HBj.out.b).2.b).1.r (KS.out _ (KT.out _ HBj.out.b).2.b).1.m HI.out) ?_; rintro e v6 ⟨q6', c6', rfl, ho, hb⟩; have HD6 : Hid (Be wi.heap.size wi ((v6.alloc (.cells #[.int .i64 0, .int .i64 0, .slice q6' 0 c6'] 24)).alloc (.cells #[.int .i64 0, .int .i64 0, .slice none 0 0] 24))) := ((⟨hb, hb.size⟩ : Be wi.heap.size wi v6).al _).al _; have B6 : Hid (BC v6.heap.size 0 0 q6' [] c6' ((v6.alloc (.cells #[.int .i64 0, .int .i64 0, .slice q6' 0 c6'] 24)).alloc (.cells #[.int .i64 0, .int .i64 0, .slice none 0 0] 24))) := (BC.new ho.row ho.cm).to (bal _ _); have HP6 : Hid (OwnR wi.heap.size ((v6.alloc (.cells #[.int .i64 0, .int .i64 0, .slice q6' 0 c6'] 24)).alloc (.cells #[.int .i64 0, .int .i64 0, .slice none 0 0] 24)) q6' [] c6') := (ho.to (bal _ _)).to (bal _ _); obtain ⟨r0, r1, r2⟩ := B6.out.cells; clear hb ho)
                | (go_at_call 14; refine Calls.mono (same0 _ _ _ _ _) ?_; rintro e v8 ⟨rfl, hb⟩; have HD8 := hidOg (HD6.out.to hb); obtain ⟨r0, r1, r2⟩ := (B6.out.to hb).cells; have HP8 := hidOg (HP6.out.to hb); clear hb)
                | (go_at_call 26; refine Calls.mono (spoil26 0 0 _ [] _ wi.heap.size _ HP8.out HD8.out.s) ?_; rintro e v9 ⟨rfl, hb⟩; have HD9 : Hid (Be wi.heap.size wi v9) := ⟨HD8.out.b.trans hb, Nat.le_trans HD8.out.s hb.size⟩; clear hb))
              go_roundw
              case rel => exact ⟨j + 1, by omega, by go_num, (HBj.out.tr HD9.out HBj.out.s).b⟩
              case measure => simp [intOf]; omega
            · obtain rfl : j = X.length := by omega
              go_wp2
              have HS0 : Hid (Below v0.heap.size v0 wi.drew) := (KT.out _ HBj.out.b).2.b.drew
              obtain ⟨j0, j1, j2⟩ := (KS.out _ (KT.out _ HBj.out.b).2.b).1.cells
              obtain ⟨j3, j4, j5, _⟩ := heap3_cell (KS.out _ (KT.out _ HBj.out.b).2.b).2.2.1
              first | (go_region_held3 (fun w' => w'.cell? ⟨w2.heap.size, 0, none⟩ = some (.int .i64 wd) ∧ w'.cell? ⟨w2.heap.size, 1, none⟩ = some (.int .i64 rs) ∧ w'.cell? ⟨w2.heap.size, 2, none⟩ = some (.slice q2 L.length c2) ∧ w'.cell? ⟨w.heap.size, 0, none⟩ = some (.int .i64 wd) ∧ w'.cell? ⟨w.heap.size, 1, none⟩ = some (.int .i64 rs) ∧ w'.cell? ⟨w.heap.size, 2, none⟩ = some (.slice p l.length c)) (first | with_reducible exact ⟨k0, k1, k2, k3, k4, k5⟩ | with_reducible exact ⟨j0, j1, j2, j3, j4, j5⟩ | go_keep) (first
                | (go_at_call 10; refine Calls.mono (KO _ HS0.out) ?_; rintro e x1 ⟨qo, co, rfl, ho, hb⟩; have HS1 := hidOg (HS0.out.trans (hb.mono HS0.out.size)); have HO1 := hidOg ho.row; obtain ⟨k0, k1, k2⟩ := (KS.out _ HS1.out).1.cells; obtain ⟨k3, k4, k5, _⟩ := heap3_cell (KS.out _ HS1.out).2.2.1; clear hb ho)
                | (go_at_call 14; refine Calls.mono (CW _ _ _ (KS.out _ HS1.out).1.r HO1.out) ?_; rintro e x2 ⟨rfl, hb⟩; have HS2 := hidOg (HS1.out.trans (hb.mono HS1.out.size)); obtain ⟨k0, k1, k2⟩ := (KS.out _ HS2.out).1.cells; obtain ⟨k3, k4, k5, _⟩ := heap3_cell (KS.out _ HS2.out).2.2.1; clear hb))) | fail
              all_goals
                go_wp2
                go_roundw
                case rel => exact ⟨k + 1, by omega, by go_num, HS2.out⟩
                case measure => simp [intOf]; omega
    · obtain rfl : k = nn := by omega
      go_wp2
      go_ret
      exact ⟨rfl, (KS.out _ hB).2.2.2.b⟩
end Go.Proofs.Ytkbikngkhaeakaa
