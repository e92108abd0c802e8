/- TypesTells: its walk. -/
import Derived.Test.YtooaghcjlomcpaaRgB
import Derived.Test.YtooaghcjlomcpaaOrA
namespace Go.Proofs.Ytooaghcjlomcpaa
open Go.RowKit

/-- The contract of 'few' met in whatever later world. -/
theorem few_row (p : Option Addr) (l : List Int) (c : Nat) (w : World) (h : InR w p l c) : Calls Try.prog 10 #[.slice p l.length c] w fun e w' => ∃ q d, e = .returned (.slice q (l.take 20).length d) ∧ Row w' q (l.take 20) d ∧ Below w.heap.size w w' := turn_few p l c w h
theorem take20 (l : List Int) : (l.take 20).length ≤ 20 := by simp; omega

set_option maxRecDepth 20000 in
set_option maxHeartbeats 8000000 in
theorem tells_t (px : Option Addr) (X : List Int) (cx : Nat) (py : Option Addr) (Y : List Int) (cy : Nat) (pz : Option Addr) (zs : List Int) (cz : Nat) (w : World) (hx : InR w px X cx) (hy : InR w py Y cy) (hz : IRow .i64 w.heap.size w pz zs) (hly : Y.length ≤ 9223372036854775807) (hlz : zs.length ≤ 9223372036854775807) (hm : mayT (X.take 20) = true) :
    Calls Try.prog 4 #[.slice px X.length cx, .slice py Y.length cy, .slice pz zs.length cz] w fun e w' => e = .returned (.bool true) ∧ Below w.heap.size w w' := by
  have CK := wakes_any w
  have CF := fun (w1 : World) (hb : Below w.heap.size w w1) => few_row px X cx w1 (hx.to hb)
  have um := hx.u.take 20
  have l20 := take20 X
  obtain ⟨m, hm'⟩ : ∃ m, m = X.take 20 := ⟨_, rfl⟩
  rw [← hm'] at CF um l20 hm
  clear hm' hx
  have CR := fun (q : Option Addr) (d : Nat) (w2 : World) (hr : Row w2 q m d) => right12 q m d w2 hr.i um hr.n
  have CH24 := fun (x : Int) (q : Option Addr) (d : Nat) (w2 : World) (hr : Row w2 q m d) => Has_any q m d x w2 hr um
  have CT26 := fun (x : Int) (h0 : 0 ≤ x) (h1 : x < 18446744073709551616) (q : Option Addr) (d : Nat) (w2 : World) (hr : Row w2 q m d) => taken_any q m d x w2 hr um h0 h1
  have CT30 := fun (x : Int) (q : Option Addr) (d : Nat) (w2 : World) (hr : Row w2 q m d) => targets_any q m d x w2 hr um
  have CM31 := fun (x : Int) (q : Option Addr) (d : Nat) (w2 : World) (hr : Row w2 q m d) => mentions_any q m d x w2 hr um
  have CEm := fun (q : Option Addr) (d : Nat) (q' : Option Addr) (d' : Nat) (w2 : World) (hr : Row w2 q m d) (hr' : Row w2 q' m d') => equal18 q m d q' m d' w2 hr.i hr'.i (by omega)
  rw [samI_refl] at CEm
  rw [hm] at CR
  have e1 : ∀ h, tolL m h = m.filter h := fun h => by rw [tolL_eq, hm]; rfl
  have e2 : ∀ x, hasB m x = decide (x ∈ m) := fun x => by unfold hasB; rw [hm]; rfl
  have e3 : ∀ x, tarL m x = (m.filter (relB x)).map p2 := fun x => by unfold tarL; rw [e1]
  simp only [e1] at CT26 CM31
  simp only [e2] at CH24
  simp only [e3] at CT30
  have CH25 := fun (x : Int) (q : Option Addr) (d : Nat) (w2 : World) (hr : Row w2 q m d) => has25 q m d x w2 hr.i hr.n
  have CT23 := fun (x : Int) (h0 : 0 ≤ x) (h1 : x < 18446744073709551616) (q : Option Addr) (d : Nat) (w2 : World) (hr : Row w2 q m d) => taken23 q m d x h0 h1 w2 hr.i um hr.n
  have CT27 := fun (x : Int) (q : Option Addr) (d : Nat) (w2 : World) (hr : Row w2 q m d) => targets27 q m d x w2 hr.i um hr.n
  have CM28 := fun (x : Int) (q : Option Addr) (d : Nat) (w2 : World) (hr : Row w2 q m d) => mentions28 q m d x w2 hr.i um hr.n
  have lF : ∀ h : Int → Bool, (m.filter h).length ≤ 20 := fun h => Nat.le_trans (List.length_filter_le h m) l20
  have CE26 := fun (x : Int) (q : Option Addr) (d : Nat) (q' : Option Addr) (d' : Nat) (w2 : World) (hr : Row w2 q (m.filter (takesB x)) d) (hr' : Row w2 q' (m.filter (takesB x)) d') => equal18 q _ d q' _ d' w2 hr.i hr'.i (by have := lF (takesB x); omega)
  have CE31 := fun (x : Int) (q : Option Addr) (d : Nat) (q' : Option Addr) (d' : Nat) (w2 : World) (hr : Row w2 q (m.filter (menB x)) d) (hr' : Row w2 q' (m.filter (menB x)) d') => equal18 q _ d q' _ d' w2 hr.i hr'.i (by have := lF (menB x); omega)
  have CE29 := fun (x : Int) (q : Option Addr) (d : Nat) (q' : Option Addr) (d' : Nat) (w2 : World) (hr : IRow .i64 w2.heap.size w2 q ((m.filter (relB x)).map p2)) (hr' : IRow .i64 w2.heap.size w2 q' ((m.filter (relB x)).map p2)) => equal29 q _ d q' _ d' w2 hr hr' (by have := lF (relB x); simp; omega)
  simp only [samI_refl] at CE26 CE31 CE29
  obtain ⟨FT, hFT⟩ : ∃ FT : Int → List Int, ∀ x, FT x = m.filter (takesB x) := ⟨_, fun _ => rfl⟩
  obtain ⟨FM, hFM⟩ : ∃ FM : Int → List Int, ∀ x, FM x = m.filter (menB x) := ⟨_, fun _ => rfl⟩
  obtain ⟨FR, hFR⟩ : ∃ FR : Int → List Int, ∀ x, FR x = (m.filter (relB x)).map p2 := ⟨_, fun _ => rfl⟩
  obtain ⟨FH, hFH⟩ : ∃ FH : Int → Bool, ∀ x, FH x = decide (x ∈ m) := ⟨_, fun _ => rfl⟩
  simp only [← hFT] at CT26 CT23 CE26
  simp only [← hFM] at CM31 CM28 CE31
  simp only [← hFR] at CT30 CT27 CE29
  simp only [← hFH] at CH24 CH25
  clear hFT hFM hFR hFH e1 e2 e3 lF hm um
  obtain ⟨ny, hny⟩ : ∃ ny, ny = Y.length := ⟨_, rfl⟩
  obtain ⟨nz, hnz⟩ : ∃ nz, nz = zs.length := ⟨_, rfl⟩
  have HNy := hidOg hny
  have HNz := hidOg hnz
  have HY := hidOg hy
  have HZ := hidOg hz
  rw [← hny] at hly ⊢
  rw [← hnz] at hlz ⊢
  clear hny hnz hy hz
  go_enter Try.func4, Try.ntmps4
  go_wp2_with (first
    | (go_at_call 9; refine Calls.mono CK ?_; clear CK; rintro e w1 ⟨rfl, hb1⟩; have CF1 := CF _ hb1)
    | (go_at_call 10; refine Calls.mono CF1 ?_; clear CF1; rintro e w2 ⟨q, d, rfl, hr2, hb2⟩; have g2 := hb1.trans (hb2.mono hb1.size); have CR1 := CR q d _ hr2; clear CR hb2)
    | (go_at_call 12; refine Calls.mono CR1 ?_; clear CR1; rintro e w3 ⟨rfl, hw3⟩; rw [hw3]; clear hw3 w3))
  go_loopw [24] (fun i wr => ∃ k : Nat, k ≤ ny ∧ k ≤ 8 ∧ i = .int .i64 k ∧ Row wr q m d ∧ Below w.heap.size w wr) (fun i _ => ny - (intOf i).toNat)
  case atStart => exact ⟨0, Nat.zero_le _, Nat.zero_le _, rfl, hr2, g2⟩
  case round =>
    clear hr2 g2
    obtain ⟨k, hk, hk8, rfl, hr, hB⟩ := hrel
    have HR := hidOg hr
    have HB := hidOg hB
    have hsz := hB.size
    clear hr hB
    by_cases hky : k < ny
    · obtain ⟨b, off, rfl, hbB, hcs⟩ := (HY.out.i.below HB.out (Nat.le_refl _)) (by have := HNy.out; omega)
      have c0 := hcs k (by have := HNy.out; omega)
      obtain ⟨u0, u1⟩ := HY.out.u.at (k := k) (by have := HNy.out; omega)
      clear hcs
      obtain ⟨x, hxx⟩ : ∃ x, x = iG Y k := ⟨_, rfl⟩
      rw [← hxx] at c0 u0 u1
      clear hxx
      by_cases h8 : k = 8
      · have h8' : ((k : Int) == 8) = true := (by simp; omega); clear h8
        go_wp2
        go_loopw [56] (fun i wr => ∃ k : Nat, k ≤ nz ∧ k ≤ 8 ∧ i = .int .i64 k ∧ Row wr q m d ∧ Below w.heap.size w wr) (fun i _ => nz - (intOf i).toNat)
        case atStart => exact ⟨0, Nat.zero_le _, Nat.zero_le _, rfl, HR.out, HB.out⟩
        case round =>
          clear HR HB hsz
          obtain ⟨j, hj, hj8, rfl, hr, hB⟩ := hrel
          have HR := hidOg hr
          have HB := hidOg hB
          have hsz := hB.size
          clear hr hB
          by_cases hjz : j < nz
          · obtain ⟨b, off, rfl, hbB, hcs⟩ := (HZ.out.below HB.out (Nat.le_refl _)) (by have := HNz.out; omega)
            have c0 := hcs j (by have := HNz.out; omega)
            clear hcs
            obtain ⟨nn, hnn⟩ : ∃ nn, nn = iG zs j := ⟨_, rfl⟩
            rw [← hnn] at c0
            clear hnn
            by_cases h8 : j = 8
            · subst h8
              go_wp2_with (first
                | (go_at_call 10; refine Calls.mono (CF _ HB.out) ?_; clear CF; rintro e w9 ⟨q9, d9, rfl, hr9, hb9⟩; have r9 := HR.out.to hb9; have CQ := CEm q d q9 d9 _ r9 hr9; have g9 := HB.out.trans (hb9.mono HB.out.size))
                | (go_at_call 18; refine Calls.mono CQ ?_; clear CQ; rintro e w10 ⟨rfl, hb10⟩))
              go_ret
              exact ⟨rfl, g9.trans (hb10.mono g9.size)⟩
            · have h8' : ((j : Int) == 8) = false := by simp; omega
              go_wp2_with (first
                | (go_at_call 27; refine Calls.mono (CT27 nn q d _ HR.out) ?_; clear CT27; rintro e w3 ⟨q3, d3, rfl, hi3, hb3⟩; have g3 := HB.out.trans (hb3.mono HB.out.size); have r3 := HR.out.to hb3; have CM1 := CM28 nn q d _ r3; clear CM28)
                | (go_at_call 28; refine Calls.mono CM1 ?_; clear CM1; rintro e w4 ⟨q4, d4, rfl, hr4, hb4⟩; have g4 := g3.trans (hb4.mono g3.size); have r4 := r3.to hb4; have i4 := hi3.to hb4; have CT1 := CT30 nn q d _ r4; clear CT30 g3 r3 hi3 hb4)
                | (go_at_call 30; refine Calls.mono CT1 ?_; clear CT1; rintro e w5 ⟨q5, d5, rfl, hi5, hb5⟩; have g5 := g4.trans (hb5.mono g4.size); have r5 := r4.to hb5; have i5 := i4.to hb5; have m5 := hr4.row.to hb5; have CQ1 := CE29 nn q5 d5 q3 d3 _ hi5 i5; clear CE29 g4 r4 i4 hr4 hb5)
                | (go_at_call 29; refine Calls.mono CQ1 ?_; clear CQ1; rintro e w6 ⟨rfl, hb6⟩; have g6 := g5.trans (hb6.mono g5.size); have r6 := r5.to hb6; have m6 := m5.to hb6; have CM2 := CM31 nn q d _ r6; clear CM31 g5 r5 m5 hb6 hi5 i5)
                | (go_at_call 31; refine Calls.mono CM2 ?_; clear CM2; rintro e w7 ⟨q7, d7, rfl, hr7, hb7⟩; have g7 := g6.trans (hb7.mono g6.size); have r7 := r6.to hb7; have m7 := m6.to hb7; have CQ2 := CE31 nn q7 d7 q4 d4 _ hr7.row m7; clear CE31 g6 r6 m6 hb7)
                | (go_at_call 18; refine Calls.mono CQ2 ?_; clear CQ2; rintro e w8 ⟨rfl, hb8⟩; have g8 := g7.trans (hb8.mono g7.size); have r8 := r7.to hb8; clear g7 r7 hr7 m7 hb8))
              go_roundw
              case rel => exact ⟨j + 1, by omega, by omega, by go_num, r8, g8⟩
              case measure => simp [intOf]; omega
          · obtain rfl : j = nz := by omega
            go_wp2_with (first
              | (go_at_call 10; refine Calls.mono (CF _ HB.out) ?_; clear CF; rintro e w9 ⟨q9, d9, rfl, hr9, hb9⟩; have r9 := HR.out.to hb9; have CQ := CEm q d q9 d9 _ r9 hr9; have g9 := HB.out.trans (hb9.mono HB.out.size))
              | (go_at_call 18; refine Calls.mono CQ ?_; clear CQ; rintro e w10 ⟨rfl, hb10⟩))
            go_ret
            exact ⟨rfl, g9.trans (hb10.mono g9.size)⟩
      · have h8' : ((k : Int) == 8) = false := by simp; omega
        go_wp2_with (first
          | (go_at_call 23; refine Calls.mono (CT23 x u0 u1 q d _ HR.out) ?_; clear CT23; rintro e w3 ⟨q3, d3, rfl, hr3, hb3⟩; have g3 := HB.out.trans (hb3.mono HB.out.size); have r3 := HR.out.to hb3; have CH1 := CH24 x q d _ r3; clear CH24)
          | (go_at_call 24; refine Calls.mono CH1 ?_; clear CH1; rintro e w4 ⟨rfl, hb4⟩; have g4 := g3.trans (hb4.mono g3.size); have r4 := r3.to hb4; have t4 := hr3.row.to hb4; have CH2 := CH25 x q d _ r4; clear CH25 g3 r3 hr3 hb4)
          | (go_at_call 25; refine Calls.mono CH2 ?_; clear CH2; rintro e w5 ⟨rfl, hw5⟩; rw [hw5]; clear hw5 w5; have CT1 := CT26 x u0 u1 q d _ r4; clear CT26)
          | (go_at_call 26; refine Calls.mono CT1 ?_; clear CT1; rintro e w6 ⟨q6, d6, rfl, hr6, hb6⟩; have g6 := g4.trans (hb6.mono g4.size); have r6 := r4.to hb6; have t6 := t4.to hb6; have CQ1 := CE26 x q6 d6 q3 d3 _ hr6.row t6; clear CE26 g4 r4 t4 hb6)
          | (go_at_call 18; refine Calls.mono CQ1 ?_; clear CQ1; rintro e w8 ⟨rfl, hb8⟩; have g8 := g6.trans (hb8.mono g6.size); have r8 := r6.to hb8; clear g6 r6 t6 hr6 hb8))
        go_roundw
        case rel => exact ⟨k + 1, by omega, by omega, by go_num, r8, g8⟩
        case measure => simp [intOf]; omega
    · obtain rfl : k = ny := by omega
      go_wp2
      go_loopw [56] (fun i wr => ∃ k : Nat, k ≤ nz ∧ k ≤ 8 ∧ i = .int .i64 k ∧ Row wr q m d ∧ Below w.heap.size w wr) (fun i _ => nz - (intOf i).toNat)
      case atStart => exact ⟨0, Nat.zero_le _, Nat.zero_le _, rfl, HR.out, HB.out⟩
      case round =>
        clear HR HB hsz
        obtain ⟨j, hj, hj8, rfl, hr, hB⟩ := hrel
        have HR := hidOg hr
        have HB := hidOg hB
        have hsz := hB.size
        clear hr hB
        by_cases hjz : j < nz
        · obtain ⟨b, off, rfl, hbB, hcs⟩ := (HZ.out.below HB.out (Nat.le_refl _)) (by have := HNz.out; omega)
          have c0 := hcs j (by have := HNz.out; omega)
          clear hcs
          obtain ⟨nn, hnn⟩ : ∃ nn, nn = iG zs j := ⟨_, rfl⟩
          rw [← hnn] at c0
          clear hnn
          by_cases h8 : j = 8
          · subst h8
            go_wp2_with (first
              | (go_at_call 10; refine Calls.mono (CF _ HB.out) ?_; clear CF; rintro e w9 ⟨q9, d9, rfl, hr9, hb9⟩; have r9 := HR.out.to hb9; have CQ := CEm q d q9 d9 _ r9 hr9; have g9 := HB.out.trans (hb9.mono HB.out.size))
              | (go_at_call 18; refine Calls.mono CQ ?_; clear CQ; rintro e w10 ⟨rfl, hb10⟩))
            go_ret
            exact ⟨rfl, g9.trans (hb10.mono g9.size)⟩
          · have h8' : ((j : Int) == 8) = false := by simp; omega
            go_wp2_with (first
              | (go_at_call 27; refine Calls.mono (CT27 nn q d _ HR.out) ?_; clear CT27; rintro e w3 ⟨q3, d3, rfl, hi3, hb3⟩; have g3 := HB.out.trans (hb3.mono HB.out.size); have r3 := HR.out.to hb3; have CM1 := CM28 nn q d _ r3; clear CM28)
              | (go_at_call 28; refine Calls.mono CM1 ?_; clear CM1; rintro e w4 ⟨q4, d4, rfl, hr4, hb4⟩; have g4 := g3.trans (hb4.mono g3.size); have r4 := r3.to hb4; have i4 := hi3.to hb4; have CT1 := CT30 nn q d _ r4; clear CT30 g3 r3 hi3 hb4)
              | (go_at_call 30; refine Calls.mono CT1 ?_; clear CT1; rintro e w5 ⟨q5, d5, rfl, hi5, hb5⟩; have g5 := g4.trans (hb5.mono g4.size); have r5 := r4.to hb5; have i5 := i4.to hb5; have m5 := hr4.row.to hb5; have CQ1 := CE29 nn q5 d5 q3 d3 _ hi5 i5; clear CE29 g4 r4 i4 hr4 hb5)
              | (go_at_call 29; refine Calls.mono CQ1 ?_; clear CQ1; rintro e w6 ⟨rfl, hb6⟩; have g6 := g5.trans (hb6.mono g5.size); have r6 := r5.to hb6; have m6 := m5.to hb6; have CM2 := CM31 nn q d _ r6; clear CM31 g5 r5 m5 hb6 hi5 i5)
              | (go_at_call 31; refine Calls.mono CM2 ?_; clear CM2; rintro e w7 ⟨q7, d7, rfl, hr7, hb7⟩; have g7 := g6.trans (hb7.mono g6.size); have r7 := r6.to hb7; have m7 := m6.to hb7; have CQ2 := CE31 nn q7 d7 q4 d4 _ hr7.row m7; clear CE31 g6 r6 m6 hb7)
              | (go_at_call 18; refine Calls.mono CQ2 ?_; clear CQ2; rintro e w8 ⟨rfl, hb8⟩; have g8 := g7.trans (hb8.mono g7.size); have r8 := r7.to hb8; clear g7 r7 hr7 m7 hb8))
            go_roundw
            case rel => exact ⟨j + 1, by omega, by omega, by go_num, r8, g8⟩
            case measure => simp [intOf]; omega
        · obtain rfl : j = nz := by omega
          go_wp2_with (first
            | (go_at_call 10; refine Calls.mono (CF _ HB.out) ?_; clear CF; rintro e w9 ⟨q9, d9, rfl, hr9, hb9⟩; have r9 := HR.out.to hb9; have CQ := CEm q d q9 d9 _ r9 hr9; have g9 := HB.out.trans (hb9.mono HB.out.size))
            | (go_at_call 18; refine Calls.mono CQ ?_; clear CQ; rintro e w10 ⟨rfl, hb10⟩))
          go_ret
          exact ⟨rfl, g9.trans (hb10.mono g9.size)⟩

set_option maxRecDepth 20000 in
set_option maxHeartbeats 8000000 in
theorem tells_f (px : Option Addr) (X : List Int) (cx : Nat) (py : Option Addr) (Y : List Int) (cy : Nat) (pz : Option Addr) (zs : List Int) (cz : Nat) (w : World) (hx : InR w px X cx) (hy : InR w py Y cy) (hz : IRow .i64 w.heap.size w pz zs) (hly : Y.length ≤ 9223372036854775807) (hlz : zs.length ≤ 9223372036854775807) (hm : mayT (X.take 20) = false) :
    Calls Try.prog 4 #[.slice px X.length cx, .slice py Y.length cy, .slice pz zs.length cz] w fun e w' => e = .returned (.bool true) ∧ Below w.heap.size w w' := by
  have CK := wakes_any w
  have CF := fun (w1 : World) (hb : Below w.heap.size w w1) => few_row px X cx w1 (hx.to hb)
  have um := hx.u.take 20
  have l20 := take20 X
  obtain ⟨m, hm'⟩ : ∃ m, m = X.take 20 := ⟨_, rfl⟩
  rw [← hm'] at CF um l20 hm
  clear hm' hx
  have CR := fun (q : Option Addr) (d : Nat) (w2 : World) (hr : Row w2 q m d) => right12 q m d w2 hr.i um hr.n
  have CH24 := fun (x : Int) (q : Option Addr) (d : Nat) (w2 : World) (hr : Row w2 q m d) => Has_any q m d x w2 hr um
  have CT26 := fun (x : Int) (h0 : 0 ≤ x) (h1 : x < 18446744073709551616) (q : Option Addr) (d : Nat) (w2 : World) (hr : Row w2 q m d) => taken_any q m d x w2 hr um h0 h1
  have CT30 := fun (x : Int) (q : Option Addr) (d : Nat) (w2 : World) (hr : Row w2 q m d) => targets_any q m d x w2 hr um
  have CM31 := fun (x : Int) (q : Option Addr) (d : Nat) (w2 : World) (hr : Row w2 q m d) => mentions_any q m d x w2 hr um
  have CEm := fun (q : Option Addr) (d : Nat) (q' : Option Addr) (d' : Nat) (w2 : World) (hr : Row w2 q m d) (hr' : Row w2 q' m d') => equal18 q m d q' m d' w2 hr.i hr'.i (by omega)
  rw [samI_refl] at CEm
  rw [hm] at CR
  have e1 : ∀ h, tolL m h = [] := fun h => by rw [tolL_eq, hm]; rfl
  have e2 : ∀ x, hasB m x = false := fun x => by unfold hasB; rw [hm]; rfl
  have e3 : ∀ x, tarL m x = [] := fun x => by unfold tarL; rw [e1]; rfl
  simp only [e1] at CT26 CM31
  simp only [e2] at CH24
  simp only [e3] at CT30
  have CEn := fun (q : Option Addr) (d : Nat) (q' : Option Addr) (d' : Nat) (w2 : World) (hr : Row w2 q [] d) (hr' : Row w2 q' [] d') => equal18 q [] d q' [] d' w2 hr.i hr'.i (by simp)
  have CE29 := fun (q : Option Addr) (d : Nat) (q' : Option Addr) (d' : Nat) (w2 : World) (hr : IRow .i64 w2.heap.size w2 q []) (hr' : IRow .i64 w2.heap.size w2 q' []) => equal29 q [] d q' [] d' w2 hr hr' (by simp)
  simp only [samI_refl] at CEn CE29
  clear e1 e2 e3 hm um
  obtain ⟨ny, hny⟩ : ∃ ny, ny = Y.length := ⟨_, rfl⟩
  obtain ⟨nz, hnz⟩ : ∃ nz, nz = zs.length := ⟨_, rfl⟩
  have HNy := hidOg hny
  have HNz := hidOg hnz
  have HY := hidOg hy
  have HZ := hidOg hz
  rw [← hny] at hly ⊢
  rw [← hnz] at hlz ⊢
  clear hny hnz hy hz
  go_enter Try.func4, Try.ntmps4
  go_wp2_with (first
    | (go_at_call 9; refine Calls.mono CK ?_; clear CK; rintro e w1 ⟨rfl, hb1⟩; have CF1 := CF _ hb1)
    | (go_at_call 10; refine Calls.mono CF1 ?_; clear CF1; rintro e w2 ⟨q, d, rfl, hr2, hb2⟩; have g2 := hb1.trans (hb2.mono hb1.size); have CR1 := CR q d _ hr2; clear CR hb2)
    | (go_at_call 12; refine Calls.mono CR1 ?_; clear CR1; rintro e w3 ⟨rfl, hw3⟩; rw [hw3]; clear hw3 w3))
  go_loopw [24] (fun i wr => ∃ k : Nat, k ≤ ny ∧ k ≤ 8 ∧ i = .int .i64 k ∧ Row wr q m d ∧ Below w.heap.size w wr) (fun i _ => ny - (intOf i).toNat)
  case atStart => exact ⟨0, Nat.zero_le _, Nat.zero_le _, rfl, hr2, g2⟩
  case round =>
    clear hr2 g2
    obtain ⟨k, hk, hk8, rfl, hr, hB⟩ := hrel
    have HR := hidOg hr
    have HB := hidOg hB
    have hsz := hB.size
    clear hr hB
    by_cases hky : k < ny
    · obtain ⟨b, off, rfl, hbB, hcs⟩ := (HY.out.i.below HB.out (Nat.le_refl _)) (by have := HNy.out; omega)
      have c0 := hcs k (by have := HNy.out; omega)
      obtain ⟨u0, u1⟩ := HY.out.u.at (k := k) (by have := HNy.out; omega)
      clear hcs
      obtain ⟨x, hxx⟩ : ∃ x, x = iG Y k := ⟨_, rfl⟩
      rw [← hxx] at c0 u0 u1
      clear hxx
      by_cases h8 : k = 8
      · have h8' : ((k : Int) == 8) = true := (by simp; omega); clear h8
        go_wp2
        go_loopw [56] (fun i wr => ∃ k : Nat, k ≤ nz ∧ k ≤ 8 ∧ i = .int .i64 k ∧ Row wr q m d ∧ Below w.heap.size w wr) (fun i _ => nz - (intOf i).toNat)
        case atStart => exact ⟨0, Nat.zero_le _, Nat.zero_le _, rfl, HR.out, HB.out⟩
        case round =>
          clear HR HB hsz
          obtain ⟨j, hj, hj8, rfl, hr, hB⟩ := hrel
          have HR := hidOg hr
          have HB := hidOg hB
          have hsz := hB.size
          clear hr hB
          by_cases hjz : j < nz
          · obtain ⟨b, off, rfl, hbB, hcs⟩ := (HZ.out.below HB.out (Nat.le_refl _)) (by have := HNz.out; omega)
            have c0 := hcs j (by have := HNz.out; omega)
            clear hcs
            obtain ⟨nn, hnn⟩ : ∃ nn, nn = iG zs j := ⟨_, rfl⟩
            rw [← hnn] at c0
            clear hnn
            by_cases h8 : j = 8
            · subst h8
              go_wp2_with (first
                | (go_at_call 10; refine Calls.mono (CF _ HB.out) ?_; clear CF; rintro e w9 ⟨q9, d9, rfl, hr9, hb9⟩; have r9 := HR.out.to hb9; have CQ := CEm q d q9 d9 _ r9 hr9; have g9 := HB.out.trans (hb9.mono HB.out.size))
                | (go_at_call 18; refine Calls.mono CQ ?_; clear CQ; rintro e w10 ⟨rfl, hb10⟩))
              go_ret
              exact ⟨rfl, g9.trans (hb10.mono g9.size)⟩
            · have h8' : ((j : Int) == 8) = false := by simp; omega
              go_wp2_with (first
                | (go_at_call 30; refine Calls.mono (CT30 nn q d _ HR.out) ?_; clear CT30; rintro e w5 ⟨q5, d5, rfl, hi5, hb5⟩; have g5 := HB.out.trans (hb5.mono HB.out.size); have r5 := HR.out.to hb5; have CQ1 := CE29 q5 d5 none 0 _ hi5 IRow.nil; clear CE29)
                | (go_at_call 29; refine Calls.mono CQ1 ?_; clear CQ1; rintro e w6 ⟨rfl, hb6⟩; have g6 := g5.trans (hb6.mono g5.size); have r6 := r5.to hb6; have CM2 := CM31 nn q d _ r6; clear CM31 g5 r5 hb6 hi5)
                | (go_at_call 31; refine Calls.mono CM2 ?_; clear CM2; rintro e w7 ⟨q7, d7, rfl, hr7, hb7⟩; have g7 := g6.trans (hb7.mono g6.size); have r7 := r6.to hb7; have CQ2 := CEn q7 d7 none 0 _ hr7.row (Row.nil _); clear g6 r6 hb7)
                | (go_at_call 18; refine Calls.mono CQ2 ?_; clear CQ2; rintro e w8 ⟨rfl, hb8⟩; have g8 := g7.trans (hb8.mono g7.size); have r8 := r7.to hb8; clear g7 r7 hr7 hb8))
              go_roundw
              case rel => exact ⟨j + 1, by omega, by omega, by go_num, r8, g8⟩
              case measure => simp [intOf]; omega
          · obtain rfl : j = nz := by omega
            go_wp2_with (first
              | (go_at_call 10; refine Calls.mono (CF _ HB.out) ?_; clear CF; rintro e w9 ⟨q9, d9, rfl, hr9, hb9⟩; have r9 := HR.out.to hb9; have CQ := CEm q d q9 d9 _ r9 hr9; have g9 := HB.out.trans (hb9.mono HB.out.size))
              | (go_at_call 18; refine Calls.mono CQ ?_; clear CQ; rintro e w10 ⟨rfl, hb10⟩))
            go_ret
            exact ⟨rfl, g9.trans (hb10.mono g9.size)⟩
      · have h8' : ((k : Int) == 8) = false := by simp; omega
        go_wp2_with (first
          | (go_at_call 24; refine Calls.mono (CH24 x q d _ HR.out) ?_; clear CH24; rintro e w4 ⟨rfl, hb4⟩; have g4 := HB.out.trans (hb4.mono HB.out.size); have r4 := HR.out.to hb4; have CT1 := CT26 x u0 u1 q d _ r4; clear CT26)
          | (go_at_call 26; refine Calls.mono CT1 ?_; clear CT1; rintro e w6 ⟨q6, d6, rfl, hr6, hb6⟩; have g6 := g4.trans (hb6.mono g4.size); have r6 := r4.to hb6; have CQ1 := CEn q6 d6 none 0 _ hr6.row (Row.nil _); clear g4 r4 hb6)
          | (go_at_call 18; refine Calls.mono CQ1 ?_; clear CQ1; rintro e w8 ⟨rfl, hb8⟩; have g8 := g6.trans (hb8.mono g6.size); have r8 := r6.to hb8; clear g6 r6 hr6 hb8))
        go_roundw
        case rel => exact ⟨k + 1, by omega, by omega, by go_num, r8, g8⟩
        case measure => simp [intOf]; omega
    · obtain rfl : k = ny := by omega
      go_wp2
      go_loopw [56] (fun i wr => ∃ k : Nat, k ≤ nz ∧ k ≤ 8 ∧ i = .int .i64 k ∧ Row wr q m d ∧ Below w.heap.size w wr) (fun i _ => nz - (intOf i).toNat)
      case atStart => exact ⟨0, Nat.zero_le _, Nat.zero_le _, rfl, HR.out, HB.out⟩
      case round =>
        clear HR HB hsz
        obtain ⟨j, hj, hj8, rfl, hr, hB⟩ := hrel
        have HR := hidOg hr
        have HB := hidOg hB
        have hsz := hB.size
        clear hr hB
        by_cases hjz : j < nz
        · obtain ⟨b, off, rfl, hbB, hcs⟩ := (HZ.out.below HB.out (Nat.le_refl _)) (by have := HNz.out; omega)
          have c0 := hcs j (by have := HNz.out; omega)
          clear hcs
          obtain ⟨nn, hnn⟩ : ∃ nn, nn = iG zs j := ⟨_, rfl⟩
          rw [← hnn] at c0
          clear hnn
          by_cases h8 : j = 8
          · subst h8
            go_wp2_with (first
              | (go_at_call 10; refine Calls.mono (CF _ HB.out) ?_; clear CF; rintro e w9 ⟨q9, d9, rfl, hr9, hb9⟩; have r9 := HR.out.to hb9; have CQ := CEm q d q9 d9 _ r9 hr9; have g9 := HB.out.trans (hb9.mono HB.out.size))
              | (go_at_call 18; refine Calls.mono CQ ?_; clear CQ; rintro e w10 ⟨rfl, hb10⟩))
            go_ret
            exact ⟨rfl, g9.trans (hb10.mono g9.size)⟩
          · have h8' : ((j : Int) == 8) = false := by simp; omega
            go_wp2_with (first
              | (go_at_call 30; refine Calls.mono (CT30 nn q d _ HR.out) ?_; clear CT30; rintro e w5 ⟨q5, d5, rfl, hi5, hb5⟩; have g5 := HB.out.trans (hb5.mono HB.out.size); have r5 := HR.out.to hb5; have CQ1 := CE29 q5 d5 none 0 _ hi5 IRow.nil; clear CE29)
              | (go_at_call 29; refine Calls.mono CQ1 ?_; clear CQ1; rintro e w6 ⟨rfl, hb6⟩; have g6 := g5.trans (hb6.mono g5.size); have r6 := r5.to hb6; have CM2 := CM31 nn q d _ r6; clear CM31 g5 r5 hb6 hi5)
              | (go_at_call 31; refine Calls.mono CM2 ?_; clear CM2; rintro e w7 ⟨q7, d7, rfl, hr7, hb7⟩; have g7 := g6.trans (hb7.mono g6.size); have r7 := r6.to hb7; have CQ2 := CEn q7 d7 none 0 _ hr7.row (Row.nil _); clear g6 r6 hb7)
              | (go_at_call 18; refine Calls.mono CQ2 ?_; clear CQ2; rintro e w8 ⟨rfl, hb8⟩; have g8 := g7.trans (hb8.mono g7.size); have r8 := r7.to hb8; clear g7 r7 hr7 hb8))
            go_roundw
            case rel => exact ⟨j + 1, by omega, by omega, by go_num, r8, g8⟩
            case measure => simp [intOf]; omega
        · obtain rfl : j = nz := by omega
          go_wp2_with (first
            | (go_at_call 10; refine Calls.mono (CF _ HB.out) ?_; clear CF; rintro e w9 ⟨q9, d9, rfl, hr9, hb9⟩; have r9 := HR.out.to hb9; have CQ := CEm q d q9 d9 _ r9 hr9; have g9 := HB.out.trans (hb9.mono HB.out.size))
            | (go_at_call 18; refine Calls.mono CQ ?_; clear CQ; rintro e w10 ⟨rfl, hb10⟩))
          go_ret
          exact ⟨rfl, g9.trans (hb10.mono g9.size)⟩

theorem tells_walk (px : Option Addr) (X : List Int) (cx : Nat) (py : Option Addr) (Y : List Int) (cy : Nat) (pz : Option Addr) (zs : List Int) (cz : Nat) (w : World) (hx : InR w px X cx) (hy : InR w py Y cy) (hz : IRow .i64 w.heap.size w pz zs) (hly : Y.length ≤ 9223372036854775807) (hlz : zs.length ≤ 9223372036854775807) :
    Calls Try.prog 4 #[.slice px X.length cx, .slice py Y.length cy, .slice pz zs.length cz] w fun e w' => e = .returned (.bool true) ∧ Below w.heap.size w w' := by
  cases hm : mayT (X.take 20)
  · exact tells_f px X cx py Y cy pz zs cz w hx hy hz hly hlz hm
  · exact tells_t px X cx py Y cy pz zs cz w hx hy hz hly hlz hm
end Go.Proofs.Ytooaghcjlomcpaa
