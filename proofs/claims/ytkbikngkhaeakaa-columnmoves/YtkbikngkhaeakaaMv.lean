/- ColumnMoves: the walk. -/
import Derived.Test.YtkbikngkhaeakaaMvM
import Derived.Deep.CutRange
import Derived.Deep.CutBlock
namespace Go.Proofs.Ytkbikngkhaeakaa
open Go.RowKit

set_option maxRecDepth 20000 in
set_option maxHeartbeats 16000000 in
theorem moves_walk (wd rs : Int) (p : Option Addr) (l : List Int) (c : Nat) (wd2 rs2 : Int) (p2 : Option Addr) (l2 : List Int) (c2 : Nat) (row : Int) (pv : Option Addr) (V : List RR) (d : Nat) (w : World) (h : InR w p l c) (h2 : InR w p2 l2 c2) (hV : VRow w.heap.size w pv V) (hVd : V.length ≤ d) (hVr : RoomV V) (hVn : V.length ≤ maxLen) (hVl : ∀ k, k < V.length → (rL V k).length ≤ maxLen) :
    Calls Try.prog 5 #[.agg #[.int .i64 wd, .int .i64 rs, .slice p l.length c], .agg #[.int .i64 wd2, .int .i64 rs2, .slice p2 l2.length c2], .agg #[.int .i64 row, .slice pv V.length d]] w fun e w' => e = .returned (.bool true) ∧ Below w.heap.size w w' := by
  have CO := fun (X : World) (hb : Below w.heap.size w X) => own10 wd rs p l c X (h.to hb)
  have CO2 := fun (X : World) (hb : Below w.heap.size w X) => own10 wd2 rs2 p2 l2 c2 X (h2.to hb)
  have CV := fun (X : World) (hb : Below w.heap.size w X) => values22 pv V d X (hV.to hb) hVd hVr hVn hVl
  obtain ⟨L, hL⟩ : ∃ L, L = l.take 60 := ⟨_, rfl⟩
  obtain ⟨L2, hL2⟩ : ∃ L2, L2 = l2.take 60 := ⟨_, rfl⟩
  have h60 : L.length ≤ 60 := by rw [hL]; simp; omega
  have h602 : L2.length ≤ 60 := by rw [hL2]; simp; omega
  have H60 := hidOg h60
  have H602 := hidOg h602
  rw [← hL] at CO
  rw [← hL2] at CO2
  obtain ⟨n, hn⟩ : ∃ n, n = l.length := ⟨_, rfl⟩
  obtain ⟨n2, hn2⟩ : ∃ n2, n2 = l2.length := ⟨_, rfl⟩
  obtain ⟨nv, hnv⟩ : ∃ nv, nv = V.length := ⟨_, rfl⟩
  obtain ⟨VS, hVS⟩ : ∃ VS, VS = valS V (min V.length 8) := ⟨_, rfl⟩
  have HV1 : Hid (VS.length ≤ 8 ∧ ∀ x ∈ VS, x.length ≤ 6) := by
    unfold Hid; rw [hVS]
    unfold valS
    refine ⟨by simp; omega, fun x hx => ?_⟩
    obtain ⟨y, _, rfl⟩ := List.mem_map.1 hx
    simp; omega
  rw [← hVS] at CV
  rw [← hn] at CO ⊢
  rw [← hn2] at CO2 ⊢
  rw [← hnv] at CV ⊢
  have T0 := hidOg (Tr.start w (.int .i64 wd) (.int .i64 rs) (.slice p n c) (.int .i64 wd2) (.int .i64 rs2) (.slice p2 n2 c2) (.int .i64 row) (.slice pv nv d))
  clear h h2 hL hL2 hn hn2 hV hVd hVr hVn hVl hVS hnv h60 h602
  replace CO : ∀ (X : World), Below w.heap.size w X → Calls Try.prog 10 #[.agg #[.int .i64 wd, .int .i64 rs, .slice p n c]] X fun e w' => ∃ q k, e = .returned (.agg #[.int .i64 wd, .int .i64 rs, .slice q L.length k]) ∧ OwnR X.heap.size w' q L k ∧ Below X.heap.size X w' := CO
  replace CO2 : ∀ (X : World), Below w.heap.size w X → Calls Try.prog 10 #[.agg #[.int .i64 wd2, .int .i64 rs2, .slice p2 n2 c2]] X fun e w' => ∃ q k, e = .returned (.agg #[.int .i64 wd2, .int .i64 rs2, .slice q L2.length k]) ∧ OwnR X.heap.size w' q L2 k ∧ Below X.heap.size X w' := CO2
  replace CV : ∀ (X : World), Below w.heap.size w X → Calls Try.prog 22 #[.slice pv nv d] X fun e w' => ∃ q c X', e = .returned (.slice q X'.length c) ∧ lS X' = VS ∧ RV X.heap.size X' q c w' ∧ Below X.heap.size X w' := CV
  go_enter Try.func5, Try.ntmps5
  go_wp2_with (first | (go_at_call 9; refine Calls.mono (wakes9 _) ?_; rintro e w1 ⟨rfl, hb1⟩; have T1 := hidOg (T0.out.below hb1); obtain ⟨a0, a1, a2, a3, a4, a5, a6, a7⟩ := T1.out.s8; have az : w.heap.size + 2 < w1.heap.size := (Array.getElem?_eq_some_iff.1 T1.out.t).1; clear hb1))
  have T2 := T1
  have T3 := T1
  have T4 := T1
  go_cut [7, 8, 9] from 23 to 29 (fun s7 s8 s9 wx => ∃ A qa ca B qb cb ql X cl, s7 = .pointer (some ⟨A, 0, none⟩) ∧ s8 = .pointer (some ⟨B, 0, none⟩) ∧ s9 = .slice ql X.length cl ∧ BC A wd rs qa L ca wx ∧ BC B wd2 rs2 qb L2 cb wx ∧ lS X = VS ∧ RV 0 X ql cl wx ∧ Tr w wx (.int .i64 wd) (.int .i64 rs) (.slice p n c) (.int .i64 wd2) (.int .i64 rs2) (.slice p2 n2 c2) (.int .i64 row) (.slice pv nv d))
  case first =>
    first | (go_region_held3 (fun w' => w'.cell? ⟨w.heap.size, 0, none⟩ = some (.int .i64 wd) ∧ w'.cell? ⟨w.heap.size, 1, none⟩ = some (.int .i64 rs) ∧ w'.cell? ⟨w.heap.size, 2, none⟩ = some (.slice p n c) ∧ w'.cell? ⟨w.heap.size + 1, 0, none⟩ = some (.int .i64 wd2) ∧ w'.cell? ⟨w.heap.size + 1, 1, none⟩ = some (.int .i64 rs2) ∧ w'.cell? ⟨w.heap.size + 1, 2, none⟩ = some (.slice p2 n2 c2) ∧ w'.cell? ⟨w.heap.size + 2, 0, none⟩ = some (.int .i64 row) ∧ w'.cell? ⟨w.heap.size + 2, 1, none⟩ = some (.slice pv nv d)) (first | (refine Tr.s8 (x := .int .i64 wd) (y := .int .i64 rs) (z := .slice p n c) (x' := .int .i64 wd2) (y' := .int .i64 rs2) (z' := .slice p2 n2 c2) (u := .int .i64 row) (v := .slice pv nv d) ?_; (repeat (first | with_reducible exact T4.out | with_reducible exact T3.out | with_reducible exact T2.out | with_reducible exact T1.out | with_reducible apply Tr.alloc | with_reducible apply Tr.drew | (with_reducible refine Tr.set3 ?_ (by omega)))); done) | fail) (first | (go_at_call_has 10 p; (with_reducible refine Calls.mono (CO _ ?_) ?_); (focus (refine Tr.b (x := .int .i64 wd) (y := .int .i64 rs) (z := .slice p n c) (x' := .int .i64 wd2) (y' := .int .i64 rs2) (z' := .slice p2 n2 c2) (u := .int .i64 row) (v := .slice pv nv d) ?_; (repeat (first | with_reducible exact T4.out | with_reducible exact T3.out | with_reducible exact T2.out | with_reducible exact T1.out | with_reducible apply Tr.alloc | with_reducible apply Tr.drew | (with_reducible refine Tr.set3 ?_ (by omega)))); done)); rintro e w2 ⟨qa, ca, rfl, hx, hb2⟩; obtain ⟨F1, hF1, hA2⟩ := oe0x hx; (try rw [size_drew] at hF1); (try rw [World.size_alloc] at hF1); (try rw [World.size_alloc] at hF1); have A2 := hidOg hA2; clear hA2; clear hx; have T2 := hidOg (show Tr w w2 (.int .i64 wd) (.int .i64 rs) (.slice p n c) (.int .i64 wd2) (.int .i64 rs2) (.slice p2 n2 c2) (.int .i64 row) (.slice pv nv d) by refine Tr.below ?_ hb2; (repeat (first | with_reducible exact T4.out | with_reducible exact T3.out | with_reducible exact T2.out | with_reducible exact T1.out | with_reducible apply Tr.alloc | with_reducible apply Tr.drew | (with_reducible refine Tr.set3 ?_ (by omega)))); done); have HB12 := hidOg (show Below w1.heap.size w1 w2 by first | with_reducible exact bd0 hb2 | with_reducible exact bd1 hb2 | with_reducible exact bd2 hb2); have hz2 := HB12.out.size; (first | (have HYY := hidOg (zz2 hb2); obtain ⟨yaa, yab, yac, yad, yae⟩ := cells3 HYY.out.1; obtain ⟨yba, ybb, ybc, ybd, ybe⟩ := cells3 HYY.out.2) | (have HY := hidOg (zz1 hb2); obtain ⟨yaa, yab, yac, yad, yae⟩ := cells3 HY.out) | skip)) | (go_at_call_has 10 p2; (with_reducible refine Calls.mono (CO2 _ ?_) ?_); (focus (refine Tr.b (x := .int .i64 wd) (y := .int .i64 rs) (z := .slice p n c) (x' := .int .i64 wd2) (y' := .int .i64 rs2) (z' := .slice p2 n2 c2) (u := .int .i64 row) (v := .slice pv nv d) ?_; (repeat (first | with_reducible exact T4.out | with_reducible exact T3.out | with_reducible exact T2.out | with_reducible exact T1.out | with_reducible apply Tr.alloc | with_reducible apply Tr.drew | (with_reducible refine Tr.set3 ?_ (by omega)))); done)); rintro e w3 ⟨qb, cb, rfl, hx, hb3⟩; obtain ⟨F2, hF2, hA4⟩ := oe0x hx; (try rw [size_drew] at hF2); (try rw [World.size_alloc] at hF2); (try rw [World.size_alloc] at hF2); have A4 := hidOg hA4; clear hA4; clear hx; have T3 := hidOg (show Tr w w3 (.int .i64 wd) (.int .i64 rs) (.slice p n c) (.int .i64 wd2) (.int .i64 rs2) (.slice p2 n2 c2) (.int .i64 row) (.slice pv nv d) by refine Tr.below ?_ hb3; (repeat (first | with_reducible exact T4.out | with_reducible exact T3.out | with_reducible exact T2.out | with_reducible exact T1.out | with_reducible apply Tr.alloc | with_reducible apply Tr.drew | (with_reducible refine Tr.set3 ?_ (by omega)))); done); have HB23 := hidOg (show Below w2.heap.size w2 w3 by first | with_reducible exact hb3 | with_reducible exact be1 hb3 | with_reducible exact be2 hb3); have hz3 := HB23.out.size; have A3 := hidOg (OF.below A2.out HB23.out); (first | (have UU := hidOg (atW HB23.out HYY.out.1); have UV := hidOg (atW HB23.out HYY.out.2)) | (have UU := hidOg (atW HB23.out HY.out)) | skip); (first | (have VV := hidOg (ze2 hb3); obtain ⟨vaa, vab, vac, vad, vae⟩ := cells3 VV.out.1; obtain ⟨vba, vbb, vbc, vbd, vbe⟩ := cells3 VV.out.2) | (have V1 := hidOg (ze1 hb3); obtain ⟨vaa, vab, vac, vad, vae⟩ := cells3 V1.out) | skip)) | (go_at_call_has 22 pv; (with_reducible refine Calls.mono (CV _ ?_) ?_); (focus (refine Tr.b (x := .int .i64 wd) (y := .int .i64 rs) (z := .slice p n c) (x' := .int .i64 wd2) (y' := .int .i64 rs2) (z' := .slice p2 n2 c2) (u := .int .i64 row) (v := .slice pv nv d) ?_; (repeat (first | with_reducible exact T4.out | with_reducible exact T3.out | with_reducible exact T2.out | with_reducible exact T1.out | with_reducible apply Tr.alloc | with_reducible apply Tr.drew | (with_reducible refine Tr.set3 ?_ (by omega)))); done)); rintro e w4 ⟨ql, cl, X, rfl, hX, hRX, hb4⟩; have HX := hidOg hX; have R4 := hidOg (hRX.base (Nat.zero_le _)); clear hX hRX; have T4 := hidOg (show Tr w w4 (.int .i64 wd) (.int .i64 rs) (.slice p n c) (.int .i64 wd2) (.int .i64 rs2) (.slice p2 n2 c2) (.int .i64 row) (.slice pv nv d) by refine Tr.below ?_ hb4; (repeat (first | with_reducible exact T4.out | with_reducible exact T3.out | with_reducible exact T2.out | with_reducible exact T1.out | with_reducible apply Tr.alloc | with_reducible apply Tr.drew | (with_reducible refine Tr.set3 ?_ (by omega)))); done); have HB34 := hidOg (show Below w3.heap.size w3 w4 by first | with_reducible exact hb4 | with_reducible exact be1 hb4 | with_reducible exact be2 hb4); have hz4 := HB34.out.size; have A5 := hidOg (OF.below A3.out HB34.out); have A6 := hidOg (OF.below A4.out HB34.out); (first | (have U2 := hidOg (atW HB34.out UU.out); have U3 := hidOg (atW HB34.out UV.out); obtain ⟨uaa, uab, uac, uad, uae⟩ := cells3 U2.out; obtain ⟨uba, ubb, ubc, ubd, ube⟩ := cells3 U3.out) | (have U2 := hidOg (atW HB34.out UU.out); obtain ⟨uaa, uab, uac, uad, uae⟩ := cells3 U2.out) | skip); (first | (have P2 := hidOg (atW HB34.out VV.out.1); have P3 := hidOg (atW HB34.out VV.out.2); obtain ⟨paa, pab, pac, pad, pae⟩ := cells3 P2.out; obtain ⟨pba, pbb, pbc, pbd, pbe⟩ := cells3 P3.out) | (have P2 := hidOg (atW HB34.out V1.out); obtain ⟨paa, pab, pac, pad, pae⟩ := cells3 P2.out) | skip); (first | (have XX := hidOg (ze2 hb4); obtain ⟨xaa, xab, xac, xad, xae⟩ := cells3 XX.out.1; obtain ⟨xba, xbb, xbc, xbd, xbe⟩ := cells3 XX.out.2) | (have X1 := hidOg (ze1 hb4); obtain ⟨xaa, xab, xac, xad, xae⟩ := cells3 X1.out) | skip)) | fail)) | fail
    all_goals go_wp2
    all_goals go_meet
    all_goals
      refine ⟨_, qa, ca, _, qb, cb, ql, X, cl, rfl, rfl, rfl, BC.of (F := F1) (N := w2.heap.size) ?_ ?_, BC.of (F := F2) (N := w3.heap.size) ?_ ?_, HX.out, ?_, ?_⟩
      · (repeat (first | with_reducible exact U2.out | with_reducible exact U3.out | with_reducible exact P2.out | with_reducible exact P3.out | with_reducible exact XX.out.1 | with_reducible exact XX.out.2 | with_reducible exact X1.out | with_reducible exact heap_at rfl | with_reducible exact heap_at (by first | omega | (simp only [World.size_alloc]; omega) | (simp; done)) | with_reducible refine set3_same (x := .int .i64 0) (y := .int .i64 0) (z := .slice none 0 0) ?_ | with_reducible refine (set3_other (by omega)).trans ?_ | with_reducible refine (heap_alloc_old (by first | omega | (simp only [World.size_alloc]; omega) | (simp; omega) | (simp; done))).trans ?_))
      · repeat (first | with_reducible exact A5.out | with_reducible apply OF.alloc | with_reducible refine OF.set3 ?_ (by omega))
      · (repeat (first | with_reducible exact U2.out | with_reducible exact U3.out | with_reducible exact P2.out | with_reducible exact P3.out | with_reducible exact XX.out.1 | with_reducible exact XX.out.2 | with_reducible exact X1.out | with_reducible exact heap_at rfl | with_reducible exact heap_at (by first | omega | (simp only [World.size_alloc]; omega) | (simp; done)) | with_reducible refine set3_same (x := .int .i64 0) (y := .int .i64 0) (z := .slice none 0 0) ?_ | with_reducible refine (set3_other (by omega)).trans ?_ | with_reducible refine (heap_alloc_old (by first | omega | (simp only [World.size_alloc]; omega) | (simp; omega) | (simp; done))).trans ?_))
      · repeat (first | with_reducible exact A6.out | with_reducible apply OF.alloc | with_reducible refine OF.set3 ?_ (by omega))
      · (repeat' (first | with_reducible exact R4.out | with_reducible apply RV.al | with_reducible refine RV.box3 ?_ (cs := #[.int .i64 0, .int .i64 0, .slice none 0 0]) ?_ _ _ _ | with_reducible exact U2.out | with_reducible exact U3.out | with_reducible exact P2.out | with_reducible exact P3.out | with_reducible exact XX.out.1 | with_reducible exact XX.out.2 | with_reducible exact X1.out | with_reducible exact heap_at rfl | with_reducible exact heap_at (by first | omega | (simp only [World.size_alloc]; omega) | (simp; done)) | with_reducible refine set3_same (x := .int .i64 0) (y := .int .i64 0) (z := .slice none 0 0) ?_ | with_reducible refine (set3_other (by omega)).trans ?_ | with_reducible refine (heap_alloc_old (by first | omega | (simp only [World.size_alloc]; omega) | (simp; omega) | (simp; done))).trans ?_))
      · (repeat (first | with_reducible exact T4.out | with_reducible exact T3.out | with_reducible exact T2.out | with_reducible exact T1.out | with_reducible apply Tr.alloc | with_reducible apply Tr.drew | (with_reducible refine Tr.set3 ?_ (by omega))))
  case rest =>
    obtain ⟨A, qa, ca, B, qb, cb, ql, X, cl, rfl, rfl, rfl, hBA, hBB, hX, hRX, hT⟩ := hcut
    obtain ⟨wz, hwz⟩ : ∃ x, x = wc := ⟨_, rfl⟩
    subst hwz
    have HBA := hidOg hBA
    have HBB := hidOg hBB
    have HRX := hidOg hRX
    have HTR := hidOg hT
    have KC : Hid (∀ Z, Below wz.heap.size wz Z → BC A wd rs qa L ca Z ∧ BC B wd2 rs2 qb L2 cb Z ∧ RV 0 X ql cl Z ∧ Tr w Z (.int .i64 wd) (.int .i64 rs) (.slice p n c) (.int .i64 wd2) (.int .i64 rs2) (.slice p2 n2 c2) (.int .i64 row) (.slice pv nv d)) := fun Z hb => ⟨HBA.out.to hb, HBB.out.to hb, HRX.out.to hb, HTR.out.below hb⟩
    have hXn : X.length ≤ 8 := by rw [← lS_len, hX]; exact HV1.out.1
    have hXn63 : X.length ≤ 9223372036854775807 := by omega
    have HX6 : Hid (((lS X).flatten).length ≤ 48) := by
      have h1 := flat_le (m := 6) (rows := lS X) (by rw [hX]; exact HV1.out.2)
      rw [lS_len] at h1
      unfold Hid; omega
    have HXN := hidOg hXn
    have HS0 : Hid (A < wz.heap.size ∧ B < wz.heap.size ∧ w.heap.size + 2 < wz.heap.size) := ⟨hBA.lt, hBB.lt, (Array.getElem?_eq_some_iff.1 hT.t).1⟩
    obtain ⟨g0, g1, g2⟩ := hBA.cells
    clear hBA hBB hRX hT hX T0 T1 T2 T3 T4 a0 a1 a2 a3 a4 a5 a6 a7 az CV HBA HBB HRX HTR HV1
    have CS := fun (q : Option Addr) (k : Nat) (X : World) => small17 wd rs q L.length k X
    have CS2 := fun (q : Option Addr) (k : Nat) (X : World) => small17 wd2 rs2 q L2.length k X
    cases hs1 : smB wd rs L.length
    · rw [hs1] at CS
      go_wp2_with (first | (go_at_call_has 17 qa; refine Calls.mono (CS _ _ _) ?_; rintro e w2 ⟨rfl, hb⟩; have HZ2 := hidOg hb; clear hb))
      go_ret
      exact ⟨rfl, (KC.out _ HZ2.out).2.2.2.b⟩
    · rw [hs1] at CS
      cases hs2 : smB wd2 rs2 L2.length
      · rw [hs2] at CS2
        go_wp2_with (first
          | (go_at_call_has 17 qa; refine Calls.mono (CS _ _ _) ?_; rintro e w2 ⟨rfl, hb⟩; have HZ2 := hidOg hb; obtain ⟨y0, y1, y2⟩ := (KC.out _ HZ2.out).2.1.cells; clear hb)
          | (go_at_call_has 17 qb; refine Calls.mono (CS2 _ _ _) ?_; rintro e w3 ⟨rfl, hb⟩; have HZ3 := hidOg (HZ2.out.trans (hb.mono HZ2.out.size)); clear hb))
        go_ret
        exact ⟨rfl, (KC.out _ HZ3.out).2.2.2.b⟩
      · rw [hs2] at CS2
        have HS1 := hidOg hs1
        have HS2 := hidOg hs2
        clear hs1 hs2
        obtain ⟨⟨⟨x1, x2, M1⟩, e1⟩, hp⟩ : ∃ a, a = pA wd rs L X := ⟨_, rfl⟩
        have CP := fun (q : Option Addr) (k : Nat) (Z : World) (h1 : Row Z q L k) (h2 : k ≤ maxLen) (h3 : VRow Z.heap.size Z ql X) => push29 wd rs q L k ql X cl Z h1 h2 h3 (by omega)
        rw [← hp] at CP
        obtain ⟨m1, hm1⟩ : ∃ m, m = mayB wd rs L.length := ⟨_, rfl⟩
        obtain ⟨m2, hm2⟩ : ∃ m, m = mayB wd2 rs2 L2.length := ⟨_, rfl⟩
        have CR := fun (q : Option Addr) (k : Nat) (Z : World) => r12b wd rs q L.length k Z
        have CR2 := fun (q : Option Addr) (k : Nat) (Z : World) => r12b wd2 rs2 q L2.length k Z
        rw [← hm1] at CR
        rw [← hm2] at CR2
        have HP := hidOg hp
        have HM1 := hidOg hm1
        have HM2 := hidOg hm2
        clear hp hm1 hm2
        go_upto_if 45 with (first
          | (go_at_call_has 17 qa; refine Calls.mono (CS _ _ _) ?_; rintro e w2 ⟨rfl, hb⟩; have HZ2 := hidOg hb; obtain ⟨y0, y1, y2⟩ := (KC.out _ HZ2.out).2.1.cells; clear hb)
          | (go_at_call_has 17 qb; refine Calls.mono (CS2 _ _ _) ?_; rintro e w3 ⟨rfl, hb⟩; have HZ3 := hidOg (HZ2.out.trans (hb.mono HZ2.out.size)); obtain ⟨y0, y1, y2⟩ := (KC.out _ HZ3.out).1.cells; clear hb)
          | (go_at_call 29; refine Calls.mono (CP _ _ _ (KC.out _ HZ3.out).1.r (KC.out _ HZ3.out).1.m (KC.out _ HZ3.out).2.2.1.row) ?_; rintro e w4 ⟨q4, c4, rfl, ho, hb⟩; have HD4 : Hid (Be w3.heap.size w3 ((w4.alloc (.cells #[.int .i64 x1, .int .i64 x2, .slice q4 M1.length c4] 24)).alloc (.cells #[.int .i64 0, .int .i64 0, .slice none 0 0] 24))) := ((⟨hb, hb.size⟩ : Be w3.heap.size w3 w4).al _).al _; have B4 : Hid (BC w4.heap.size x1 x2 q4 M1 c4 ((w4.alloc (.cells #[.int .i64 x1, .int .i64 x2, .slice q4 M1.length c4] 24)).alloc (.cells #[.int .i64 0, .int .i64 0, .slice none 0 0] 24))) := (BC.new ho.row ho.cm).to (bal _ _); have Z4 : Hid (((w4.alloc (.cells #[.int .i64 x1, .int .i64 x2, .slice q4 M1.length c4] 24)).alloc (.cells #[.int .i64 0, .int .i64 0, .slice none 0 0] 24)).heap[w4.heap.size + 1]? = some (.cells #[.int .i64 0, .int .i64 0, .slice none 0 0] 24 (0, 0))) := heap_at (by simp); have HP4 : Hid (OwnR w3.heap.size ((w4.alloc (.cells #[.int .i64 x1, .int .i64 x2, .slice q4 M1.length c4] 24)).alloc (.cells #[.int .i64 0, .int .i64 0, .slice none 0 0] 24)) q4 M1 c4) := (ho.to (bal _ _)).to (bal _ _); have HS4 := hidOg hb.size; obtain ⟨y0, y1, y2⟩ := (KC.out _ (HZ3.out.trans (HD4.out.b.mono HZ3.out.size))).1.cells; clear hb ho)
          | (go_at_call_has 12 qa; refine Calls.mono (CR _ _ _) ?_; rintro e w5 ⟨rfl, hb⟩; have HD5 := hidOg (HD4.out.to hb); have B5 := hidOg (B4.out.to hb); have Z5 := hidOg (atW hb Z4.out); have HP5 := hidOg (HP4.out.to hb); clear hb y0 y1 y2 g0 g1 g2))
        have HZ5 : Hid (Below wz.heap.size wz w5) := HZ3.out.trans (HD5.out.b.mono HZ3.out.size)
        clear HD4 B4 Z4 HP4 CS CS2 CP
        go_cut [13, 15] from 46 to 65 (fun s13 _ wx => s13 = .int .i64 e1 ∧ (∃ q12 c12, BC (w4.heap.size + 1) x1 x2 q12 M1 c12 wx) ∧ BC w4.heap.size x1 x2 q4 M1 c4 wx ∧ OwnR w3.heap.size wx q4 M1 c4 ∧ Be w3.heap.size w3 wx)
        case first =>
          cases m1
          · have hq := HP.out
            rw [pA_no HM1.out.symm] at hq
            cases hq
            go_wp2
            go_meet
            case rel => exact ⟨rfl, ⟨none, 0, ⟨Z5.out, Row.nil _, Nat.zero_le _⟩⟩, B5.out, HP5.out, HD5.out⟩
          · have hmy := HM1.out.symm
            obtain ⟨h1, h1', h3, _, h5⟩ := mayB_t hmy
            obtain ⟨W, rfl⟩ : ∃ W : Nat, wd = W := ⟨wd.toNat, by omega⟩
            obtain ⟨R, rfl⟩ : ∃ R : Nat, rs = R := ⟨rs.toNat, by omega⟩
            have hW4 : W ≤ 4 := by omega
            have hl1 : L.length = W * R := by exact_mod_cast h5
            have hR : R ≤ 200 := by
              have h := HS1.out; unfold smB at h; rw [hmy] at h
              have : (R : Int) ≤ 200 := by simpa using h
              omega
            obtain ⟨Rn, hRn⟩ : ∃ i : Int, i = ((R + X.length : Nat) : Int) := ⟨_, rfl⟩
            obtain ⟨Mw, hMw⟩ : ∃ Mw, Mw = L ++ (lS X).flatten := ⟨_, rfl⟩
            have HFIN : Hid (∀ no a b M, Gk X W Rn Mw X.length no a b M → no = .int .i64 e1 ∧ a = x1 ∧ b = x2 ∧ M = M1) := fun no a b M h => by
              rw [hRn, hMw] at h
              exact h.fin hmy hR HXN.out HP.out
            have hMn : Mw.length ≤ 1000 := by rw [hMw, List.length_append]; have := H60.out; have := HX6.out; omega
            have hMf : Mw = (chK W R L ++ lS X).flatten := by rw [hMw, flat_more hl1]
            have CV1 := fun (Z : World) (h : BC A (W : Int) (R : Int) qa L ca Z) => rows18 W R qa L ca Z ⟨h.r, hl1, hW4, by omega, h.m⟩ (by omega)
            have KEY : Hid (∀ (Z : World) (q : Option Addr) (k : Nat) (YY : List RR), lS YY = chK W R L → RV w5.heap.size YY q k Z → RV 0 X ql cl Z → Below w5.heap.size w5 Z → ∃ (Y : List RR) (pY : Option Addr) (cY : Nat) (wY : World), (Builtin.append_ #[35, 35] 35 #[.slice q YY.length k, .slice ql X.length cl]).run Try.prog Z = .ok (.slice pY Y.length cY) wY ∧ Hid (lS Y = chK W R L ++ lS X) ∧ Hid (RV 0 Y pY cY wY) ∧ Hid (Below w5.heap.size w5 wY)) := fun Z q k YY hY hR1 hR2 hb => by
              obtain ⟨p', c', w', hrun, hR3, hg⟩ := app_all Z 35 w5.heap.size q YY k ql X cl hR1 hR2.row hR2.t (by rw [← lS_len, hY, chK_len]; omega) hb.size
              exact ⟨_, p', c', w', hrun, by unfold Hid; rw [← hY]; simp [lS], hR3.base (Nat.zero_le _), hb.trans (grown_bel (Below.refl _ _) (fun a ha => owns_fresh hR1.o a ha) hb.size hg)⟩
            have C16 := fun (q : Option Addr) (YY : List RR) (d : Nat) (Z : World) (hY : lS YY = chK W R L ++ lS X) (hV : VRow Z.heap.size Z q YY) => of1 (W := (W : Int)) (i1 := Rn) (A := chK W R L ++ lS X) (M := chK W R L ++ lS X) hMf (by rw [List.length_append, chK_len, lS_len, hRn]) (by rw [List.length_append, chK_len, lS_len]; omega) hMn rfl q YY d Z hY hV
            obtain ⟨A0, hA0⟩ : ∃ A0, A0 = chK W R L := ⟨_, rfl⟩
            rw [← hA0] at CV1 KEY C16
            clear hMf hMn hMw hRn hA0 h1 h1' h3 h5 hR hl1 hmy
            have HDd : Hid (Below w5.heap.size w5 w5.drew) := (Below.refl _ _).drew
            have KZ : Hid (∀ Z, Below w5.heap.size w5 Z → (BC A (W : Int) (R : Int) qa L ca Z ∧ RV 0 X ql cl Z) ∧ Z.cell? ⟨A, 0, none⟩ = some (.int .i64 (W : Int)) ∧ Z.cell? ⟨A, 1, none⟩ = some (.int .i64 (R : Int)) ∧ Z.cell? ⟨A, 2, none⟩ = some (.slice qa L.length ca)) := fun Z hb => by
              obtain ⟨f1, _, f3, _⟩ := KC.out Z (HZ5.out.trans (hb.mono HZ5.out.size))
              exact ⟨⟨f1, f3⟩, f1.cells⟩
            obtain ⟨_, j0, j1, j2⟩ := KZ.out _ (Below.refl _ _)
            have HNE : Hid (w4.heap.size + 1 ≠ A) := by have h1 := HS0.out.1; have h2 := HZ3.out.size; have h3 := HS4.out; unfold Hid; omega
            go_wp2
            first | (go_region_held3 (fun w' => w'.cell? ⟨A, 0, none⟩ = some (.int .i64 (W : Int)) ∧ w'.cell? ⟨A, 1, none⟩ = some (.int .i64 (R : Int)) ∧ w'.cell? ⟨A, 2, none⟩ = some (.slice qa L.length ca)) (first | with_reducible exact ⟨k0, k1, k2⟩ | with_reducible exact ⟨j0, j1, j2⟩ | with_reducible exact TT.out _ _ _ | go_keep) (first
              | (go_at_call 18; refine Calls.mono (CV1 _ (KZ.out _ HDd.out).1.1) ?_; rintro e w8 ⟨qy, cy, YY, rfl, hYY, hRY, hb⟩; have HX8 := hidOg (bd0 hb); obtain ⟨_, k0, k1, k2⟩ := KZ.out _ HX8.out; obtain ⟨Y, pY, cY, wY, hrun, HY9, HR9, HX9⟩ := KEY.out _ _ _ _ hYY hRY (KZ.out _ HX8.out).1.2 HX8.out; clear hb hYY hRY)
              | (refine step_app _ (by rfl) _ _ 35 (by rfl) _ _ (by rfl) (by rfl) 35 (by rfl) _ wY hrun ?_; obtain ⟨_, k0, k1, k2⟩ := KZ.out _ HX9.out; clear hrun)
              | (go_at_call 16; refine Calls.mono (C16 _ _ _ _ HY9.out HR9.out.row) ?_; rintro e w10 ⟨q10, c10, rfl, ho, hb⟩; have HX10 := hidOg (HX9.out.trans (hb.mono HX9.out.size)); have HO10 := hidOg ho; obtain ⟨_, k0, k1, k2⟩ := KZ.out _ HX10.out; have Z10 := hidOg (atW HX10.out Z5.out); obtain ⟨r0, r1, r2, rf⟩ := heap3_cell Z10.out; have TT := hidOg (fun (x y z : Value) => And.intro (set3far (x := x) (y := y) (z := z) HNE.out k0) (And.intro (set3far (x := x) (y := y) (z := z) HNE.out k1) (set3far (x := x) (y := y) (z := z) HNE.out k2))); clear ho hb)
              | fail)) | fail
            all_goals
              have HD10 := hidOg (HD5.out.to HX10.out)
              have HP10 := hidOg (HP5.out.to HX10.out)
              have B10 := hidOg (B5.out.to HX10.out)
              have HD12 := hidOg (HD10.out.st3 (B := w4.heap.size + 1) (by have := HS4.out; omega) (.int .i64 (W : Int)) (.int .i64 Rn) (.slice q10 Mw.length c10))
              have HP12 := hidOg (HP10.out.box3 Z10.out (.int .i64 (W : Int)) (.int .i64 Rn) (.slice q10 Mw.length c10))
              have B12 : Hid (BC w4.heap.size x1 x2 q4 M1 c4 (((w10.setCell ⟨w4.heap.size + 1, 0, none⟩ (.int .i64 (W : Int))).setCell ⟨w4.heap.size + 1, 1, none⟩ (.int .i64 Rn)).setCell ⟨w4.heap.size + 1, 2, none⟩ (.slice q10 Mw.length c10))) := ⟨(set3_other (by omega)).trans B10.out.b, HP12.out.row, HP12.out.cm⟩
              have B16 : Hid (BC (w4.heap.size + 1) (W : Int) Rn q10 Mw c10 (((w10.setCell ⟨w4.heap.size + 1, 0, none⟩ (.int .i64 (W : Int))).setCell ⟨w4.heap.size + 1, 1, none⟩ (.int .i64 Rn)).setCell ⟨w4.heap.size + 1, 2, none⟩ (.slice q10 Mw.length c10))) := ⟨set3_same Z10.out, (HO10.out.box3 Z10.out _ _ _).row, HO10.out.cm⟩
              obtain ⟨w12, hw12⟩ : ∃ x, x = (((w10.setCell ⟨w4.heap.size + 1, 0, none⟩ (.int .i64 (W : Int))).setCell ⟨w4.heap.size + 1, 1, none⟩ (.int .i64 Rn)).setCell ⟨w4.heap.size + 1, 2, none⟩ (.slice q10 Mw.length c10)) := ⟨_, rfl⟩
              rw [← hw12] at HD12 HP12 B12 B16 ⊢
              clear hw12 TT k0 k1 k2 j0 j1 j2 r0 r1 r2 rf Z10 B10 HP10 HX8 HX9 HX10 HD10 HO10 HR9 HY9 KZ HDd C16 CV1 KEY HD5 B5 Z5 HP5
              go_wp2
              go_loopw [13, 55] (fun no i wr => ∃ k : Nat, k ≤ X.length ∧ i = .int .i64 k ∧ (∃ a b q M' c', BC (w4.heap.size + 1) a b q M' c' wr ∧ Hid (Gk X W Rn Mw k no a b M')) ∧ BC w4.heap.size x1 x2 q4 M1 c4 wr ∧ OwnR w3.heap.size wr q4 M1 c4 ∧ Be w3.heap.size w3 wr) (fun _ i _ => X.length - (intOf i).toNat)
              case atStart => exact ⟨0, Nat.zero_le _, rfl, ⟨_, _, _, _, _, B16.out, Gk.start⟩, B12.out, HP12.out, HD12.out⟩
              case round =>
                obtain ⟨k, hk, rfl, ⟨a, b, q, M', c', hBX, HG⟩, hB4, hP4, hD⟩ := hrel
                have HBX := hidOg hBX
                have HB4 := hidOg hB4
                have HP4 := hidOg hP4
                have HD := hidOg hD
                obtain ⟨t0, t1, t2, tf⟩ := heap3_cell hBX.b
                have hKC := KC.out _ (HZ3.out.trans (hD.b.mono HZ3.out.size))
                obtain ⟨s0, s1, s2⟩ := hKC.1.cells
                clear hBX hB4 hP4 hD
                by_cases hlk : k < X.length
                · obtain ⟨b2, off2, hq, hbN2, hcs⟩ := hKC.2.2.1.row (by omega)
                  have d0 := (hcs k hlk).1
                  subst hq
                  clear hcs hKC hbN2
                  by_cases he : (rL X k).length = W
                  · have hd : (((rL X k).length : Int) != (W : Int)) = false := by simp [he]
                    have HE := hidOg he
                    clear he
                    go_wp2
                    go_roundw
                    case rel => exact ⟨k + 1, by omega, by go_num, ⟨_, _, _, _, _, HBX.out, HG.out.eq HE.out⟩, HB4.out, HP4.out, HD.out⟩
                    case measure => simp [intOf]; omega
                  · have hd : (((rL X k).length : Int) != (W : Int)) = true := by simp; omega
                    have HE := hidOg he
                    clear he
                    go_wp2
                    go_roundw
                    case rel => exact ⟨k + 1, by omega, by go_num, ⟨_, _, _, _, _, ⟨set3_same HBX.out.b, Row.nil _, Nat.zero_le _⟩, Gk.ne HE.out⟩, ⟨(set3_other (by omega)).trans HB4.out.b, (HP4.out.box3 HBX.out.b _ _ _).row, HP4.out.cm⟩, HP4.out.box3 HBX.out.b _ _ _, HD.out.st3 (B := w4.heap.size + 1) (by have := HS4.out; omega) _ _ _⟩
                    case measure => simp [intOf]; omega
                · obtain rfl : k = X.length := by omega
                  go_wp2
                  go_meet
                  case rel =>
                    obtain ⟨e1', e2', e3', e4'⟩ := HFIN.out _ _ _ _ HG.out
                    have hb := HBX.out
                    rw [e2', e3', e4'] at hb
                    exact ⟨e1', ⟨_, _, hb⟩, HB4.out, HP4.out, HD.out⟩
        case rest =>
          obtain ⟨rfl, ⟨q12, c12, hB12⟩, hB10, hP, hD⟩ := hcut
          obtain ⟨wy, hwy⟩ : ∃ x, x = wc := ⟨_, rfl⟩
          subst hwy
          have HB12 := hidOg hB12
          have HB10 := hidOg hB10
          have HPy := hidOg hP
          have HDy := hidOg hD
          have d1 : (e1 != e1) = false := by simp
          have CM1 := fun (q : Option Addr) (k : Nat) (q' : Option Addr) (k' : Nat) (Z : World) (h1 : IRow .u64 Z.heap.size Z q M1) (h2 : IRow .u64 Z.heap.size Z q' M1) => same2 x1 x2 M1 HPy.out.n q k q' k' Z h1 h2
          obtain ⟨⟨⟨y1, y2, N1⟩, ⟨⟨z1, z2, N2⟩, e2⟩⟩, hm⟩ : ∃ m, m = mA wd rs L wd2 rs2 L2 row := ⟨_, rfl⟩
          have CM := fun (Z : World) (h1 : Row Z qa L ca) (h2 : ca ≤ maxLen) (h3 : Row Z qb L2 cb) (h4 : cb ≤ maxLen) => move30 wd rs qa L ca wd2 rs2 qb L2 cb row Z h1 h2 h3 h4
          rw [← hm] at CM
          have HM := hidOg hm
          obtain ⟨r0, r1, r2⟩ := hB10.cells
          obtain ⟨t0, t1, t2⟩ := hB12.cells
          clear hm hB12 hB10 hP hD HD5 B5 Z5 HP5 HZ5
          go_upto_region 23 with (first
            | (go_at_call 14; refine Calls.mono (CM1 _ _ _ _ _ HB10.out.r.i HB12.out.r.i) ?_; rintro e w6 ⟨rfl, hb⟩; have HD6 := hidOg (HDy.out.to hb); have HP6 := hidOg (HPy.out.to hb); obtain ⟨r0, r1, r2⟩ := (HB10.out.to hb).cells; clear hb t0 t1 t2)
            | (go_at_call 26; refine Calls.mono (spoil26 x1 x2 _ M1 _ w3.heap.size _ HP6.out HD6.out.s) ?_; rintro e w7 ⟨rfl, hb⟩; have HZ7 : Hid (Below wz.heap.size wz w7) := HZ3.out.trans ((HD6.out.b.trans hb).mono HZ3.out.size); obtain ⟨g0, g1, g2⟩ := (KC.out _ HZ7.out).1.cells; obtain ⟨v0, v1, v2⟩ := (KC.out _ HZ7.out).2.1.cells; obtain ⟨_, _, _, _, _, _, s6, s7⟩ := (KC.out _ HZ7.out).2.2.2.s8; clear hb r0 r1 r2)
            | (go_at_call 30; refine Calls.mono (CM _ (KC.out _ HZ7.out).1.r (KC.out _ HZ7.out).1.m (KC.out _ HZ7.out).2.1.r (KC.out _ HZ7.out).2.1.m) ?_; rintro e w8 ⟨q16, c16, q17, c17, rfl, ho1, ho2, hap, hb⟩; have HD8 : Hid (Be w7.heap.size w7 ((((w8.alloc (.cells #[.int .i64 y1, .int .i64 y2, .slice q16 N1.length c16] 24)).alloc (.cells #[.int .i64 z1, .int .i64 z2, .slice q17 N2.length c17] 24)).alloc (.cells #[.int .i64 0, .int .i64 0, .slice none 0 0] 24)).alloc (.cells #[.int .i64 0, .int .i64 0, .slice none 0 0] 24))) := ((((⟨hb, hb.size⟩ : Be w7.heap.size w7 w8).al _).al _).al _).al _; have B16 : Hid (BC w8.heap.size y1 y2 q16 N1 c16 ((((w8.alloc (.cells #[.int .i64 y1, .int .i64 y2, .slice q16 N1.length c16] 24)).alloc (.cells #[.int .i64 z1, .int .i64 z2, .slice q17 N2.length c17] 24)).alloc (.cells #[.int .i64 0, .int .i64 0, .slice none 0 0] 24)).alloc (.cells #[.int .i64 0, .int .i64 0, .slice none 0 0] 24))) := (((BC.new ho1.row ho1.cm).to (bal _ _)).to (bal _ _)).to (bal _ _); have B17 : Hid (BC (w8.heap.size + 1) z1 z2 q17 N2 c17 ((((w8.alloc (.cells #[.int .i64 y1, .int .i64 y2, .slice q16 N1.length c16] 24)).alloc (.cells #[.int .i64 z1, .int .i64 z2, .slice q17 N2.length c17] 24)).alloc (.cells #[.int .i64 0, .int .i64 0, .slice none 0 0] 24)).alloc (.cells #[.int .i64 0, .int .i64 0, .slice none 0 0] 24))) := ⟨((heap_alloc_old (by simp)).trans ((heap_alloc_old (by simp)).trans (heap_at (by simp)))), ((((ho2.to (bal _ _)).to (bal _ _)).to (bal _ _)).to (bal _ _)).row, ho2.cm⟩; have Z18 : Hid (((((w8.alloc (.cells #[.int .i64 y1, .int .i64 y2, .slice q16 N1.length c16] 24)).alloc (.cells #[.int .i64 z1, .int .i64 z2, .slice q17 N2.length c17] 24)).alloc (.cells #[.int .i64 0, .int .i64 0, .slice none 0 0] 24)).alloc (.cells #[.int .i64 0, .int .i64 0, .slice none 0 0] 24)).heap[w8.heap.size + 2]? = some (.cells #[.int .i64 0, .int .i64 0, .slice none 0 0] 24 (0, 0))) := (heap_alloc_old (by simp)).trans (heap_at (by simp)); have Z19 : Hid (((((w8.alloc (.cells #[.int .i64 y1, .int .i64 y2, .slice q16 N1.length c16] 24)).alloc (.cells #[.int .i64 z1, .int .i64 z2, .slice q17 N2.length c17] 24)).alloc (.cells #[.int .i64 0, .int .i64 0, .slice none 0 0] 24)).alloc (.cells #[.int .i64 0, .int .i64 0, .slice none 0 0] 24)).heap[w8.heap.size + 3]? = some (.cells #[.int .i64 0, .int .i64 0, .slice none 0 0] 24 (0, 0))) := heap_at (by simp); have HO16 : Hid (OwnR w7.heap.size ((((w8.alloc (.cells #[.int .i64 y1, .int .i64 y2, .slice q16 N1.length c16] 24)).alloc (.cells #[.int .i64 z1, .int .i64 z2, .slice q17 N2.length c17] 24)).alloc (.cells #[.int .i64 0, .int .i64 0, .slice none 0 0] 24)).alloc (.cells #[.int .i64 0, .int .i64 0, .slice none 0 0] 24)) q16 N1 c16) := (((ho1.to (bal _ _)).to (bal _ _)).to (bal _ _)).to (bal _ _); have HO17 : Hid (OwnR w7.heap.size ((((w8.alloc (.cells #[.int .i64 y1, .int .i64 y2, .slice q16 N1.length c16] 24)).alloc (.cells #[.int .i64 z1, .int .i64 z2, .slice q17 N2.length c17] 24)).alloc (.cells #[.int .i64 0, .int .i64 0, .slice none 0 0] 24)).alloc (.cells #[.int .i64 0, .int .i64 0, .slice none 0 0] 24)) q17 N2 c17) := (((ho2.to (bal _ _)).to (bal _ _)).to (bal _ _)).to (bal _ _); have HAP := hidOg hap; have HS8 := hidOg hb.size; obtain ⟨g0, g1, g2⟩ := (KC.out _ (HZ7.out.trans (HD8.out.b.mono HZ7.out.size))).1.cells; obtain ⟨v0, v1, v2⟩ := (KC.out _ (HZ7.out.trans (HD8.out.b.mono HZ7.out.size))).2.1.cells; clear hb ho1 ho2 hap s6 s7))
          obtain ⟨wm, hwm⟩ : ∃ x, x = ((((w8.alloc (.cells #[.int .i64 y1, .int .i64 y2, .slice q16 N1.length c16] 24)).alloc (.cells #[.int .i64 z1, .int .i64 z2, .slice q17 N2.length c17] 24)).alloc (.cells #[.int .i64 0, .int .i64 0, .slice none 0 0] 24)).alloc (.cells #[.int .i64 0, .int .i64 0, .slice none 0 0] 24)) := ⟨_, rfl⟩
          rw [← hwm] at HD8 B16 B17 Z18 Z19 HO16 HO17 g0 g1 g2 v0 v1 v2 ⊢
          have HSM : Hid (w8.heap.size + 4 = wm.heap.size) := by unfold Hid; rw [hwm]; simp only [World.size_alloc]
          clear hwm CM CM1 HB12 HB10 HPy HDy HD6 HP6 d1
          have HZM : Hid (Below wz.heap.size wz wm) := HZ7.out.trans (HD8.out.b.mono HZ7.out.size)
          go_cut [91] from 86 to 91 (fun s wx => s = .bool (m1 && m2) ∧ Below wm.heap.size wm wx)
          case first =>
            cases m1
            · go_wp2_with (first
                | (go_at_call_has 12 qa; refine Calls.mono (CR _ _ _) ?_; rintro e wa ⟨rfl, hb⟩; have HA1 := hidOg hb; clear hb))
              go_meet
              case rel => exact ⟨rfl, HA1.out⟩
            · go_wp2_with (first
                | (go_at_call_has 12 qa; refine Calls.mono (CR _ _ _) ?_; rintro e wa ⟨rfl, hb⟩; have HA1 := hidOg hb; obtain ⟨v0, v1, v2⟩ := (KC.out _ (HZM.out.trans (HA1.out.mono HZM.out.size))).2.1.cells; clear hb)
                | (go_at_call_has 12 qb; refine Calls.mono (CR2 _ _ _) ?_; rintro e wb ⟨rfl, hb⟩; have HA2 := hidOg (HA1.out.trans (hb.mono HA1.out.size)); clear hb))
              go_meet
              case rel => exact ⟨by rw [Bool.true_and], HA2.out⟩
          case rest =>
            obtain ⟨rfl, hcb⟩ := hcut
            obtain ⟨wa, hwa⟩ : ∃ x, x = wc := ⟨_, rfl⟩
            subst hwa
            have HD9 := hidOg (HD8.out.to hcb)
            have B169 := hidOg (B16.out.to hcb)
            have B179 := hidOg (B17.out.to hcb)
            have Z189 := hidOg (atW hcb Z18.out)
            have Z199 := hidOg (atW hcb Z19.out)
            have HO169 := hidOg (HO16.out.to hcb)
            have HO179 := hidOg (HO17.out.to hcb)
            have HSA : Hid (w8.heap.size + 4 ≤ wa.heap.size) := by have h1 := HSM.out; have h2 := hcb.size; unfold Hid; omega
            have HZA : Hid (Below wz.heap.size wz wa) := HZM.out.trans (hcb.mono HZM.out.size)
            obtain ⟨mm, hmm⟩ : ∃ mm, mm = (m1 && m2) := ⟨_, rfl⟩
            rw [← hmm]
            have HMM : Hid (mm = (mayB wd rs L.length && mayB wd2 rs2 L2.length)) := by unfold Hid; rw [hmm, HM1.out, HM2.out]
            clear hmm hcb HD8 B16 B17 Z18 Z19 HO16 HO17 HSM HZM g0 g1 g2 v0 v1 v2
            go_upto_if 91 with fail
            go_cut [13, 20] from 92 to 129 (fun s13 _ wx => s13 = .int .i64 e2 ∧ (∃ q c, BC (w8.heap.size + 2) y1 y2 q N1 c wx) ∧ (∃ q c, BC (w8.heap.size + 3) z1 z2 q N2 c wx) ∧ BC w8.heap.size y1 y2 q16 N1 c16 wx ∧ BC (w8.heap.size + 1) z1 z2 q17 N2 c17 wx ∧ OwnR w7.heap.size wx q16 N1 c16 ∧ OwnR w7.heap.size wx q17 N2 c17 ∧ Be w7.heap.size w7 wx)
            case first =>
              cases mm
              · have hq := HM.out
                rw [mA_no HMM.out.symm] at hq
                cases hq
                go_wp2
                go_meet
                case rel => exact ⟨rfl, ⟨none, 0, ⟨Z189.out, Row.nil _, Nat.zero_le _⟩⟩, ⟨none, 0, ⟨Z199.out, Row.nil _, Nat.zero_le _⟩⟩, B169.out, B179.out, HO169.out, HO179.out, HD9.out⟩
              · have hmm := HMM.out.symm
                have hb12 := hmm
                rw [Bool.and_eq_true] at hb12
                obtain ⟨hm1, hm2⟩ := hb12
                obtain ⟨h1, h1', h3, _, h5⟩ := mayB_t hm1
                obtain ⟨g1, g1', g3, _, g5⟩ := mayB_t hm2
                obtain ⟨W, rfl⟩ : ∃ W : Nat, wd = W := ⟨wd.toNat, by omega⟩
                obtain ⟨R, rfl⟩ : ∃ R : Nat, rs = R := ⟨rs.toNat, by omega⟩
                obtain ⟨W2, rfl⟩ : ∃ W : Nat, wd2 = W := ⟨wd2.toNat, by omega⟩
                obtain ⟨R2, rfl⟩ : ∃ R : Nat, rs2 = R := ⟨rs2.toNat, by omega⟩
                have hW4 : W ≤ 4 := by omega
                have hl1 : L.length = W * R := by exact_mod_cast h5
                have hl2 : L2.length = W2 * R2 := by exact_mod_cast g5
                have hR : R ≤ 200 := by
                  have h := HS1.out; unfold smB at h; rw [hm1] at h
                  have : (R : Int) ≤ 200 := by simpa using h
                  omega
                have hR2 : R2 ≤ 200 := by
                  have h := HS2.out; unfold smB at h; rw [hm2] at h
                  have : (R2 : Int) ≤ 200 := by simpa using h
                  omega
                clear h1 h1' h3 h5 g1 g1' g3 g5
                obtain ⟨b0, b1, b2⟩ := (KC.out _ HZA.out).1.cells
                obtain ⟨v0, v1, v2⟩ := (KC.out _ HZA.out).2.1.cells
                obtain ⟨_, _, _, _, _, _, s6, s7⟩ := (KC.out _ HZA.out).2.2.2.s8
                by_cases hz0 : row < 0
                · have hq := HM.out
                  rw [mA_out hmm (by omega)] at hq
                  cases hq
                  have hzn : ¬ (row ≥ 0) := by omega
                  clear hmm hm1 hm2 hl1 hl2
                  go_wp2
                  go_meet
                  case rel => exact ⟨rfl, ⟨none, 0, ⟨Z189.out, Row.nil _, Nat.zero_le _⟩⟩, ⟨none, 0, ⟨Z199.out, Row.nil _, Nat.zero_le _⟩⟩, B169.out, B179.out, HO169.out, HO179.out, HD9.out⟩
                · have hzp : row ≥ 0 := by omega
                  by_cases hzR : (R : Int) ≤ row
                  · have hq := HM.out
                    rw [mA_out hmm (by omega)] at hq
                    cases hq
                    have hzn : ¬ (row < (R : Int)) := by omega
                    clear hmm hm1 hm2 hl1 hl2
                    go_wp2
                    go_meet
                    case rel => exact ⟨rfl, ⟨none, 0, ⟨Z189.out, Row.nil _, Nat.zero_le _⟩⟩, ⟨none, 0, ⟨Z199.out, Row.nil _, Nat.zero_le _⟩⟩, B169.out, B179.out, HO169.out, HO179.out, HD9.out⟩
                  · have hzl : row < (R : Int) := by omega
                    by_cases hWW : W = W2
                    · subst hWW
                      obtain ⟨r, rfl⟩ : ∃ r : Nat, row = r := ⟨row.toNat, by omega⟩
                      have hr : r < R := by omega
                      have hd : ((W : Int) == (W : Int)) = true := by simp
                      have hq := HM.out
                      rw [mA_in hm1 hm2 hR2 hr] at hq
                      obtain ⟨U, hU⟩ : ∃ U, U = (chK W R L)[r]'(by rw [chK_len]; exact hr) := ⟨_, rfl⟩
                      rw [← hU] at hq
                      have hUl : U.length = W := by rw [hU]; exact chK_mem hl1 (List.getElem_mem _)
                      injection hq with hq1 hq2
                      injection hq1 with hq3 hq4
                      injection hq2 with hq5 hq6
                      injection hq4 with hq7 hq8
                      injection hq5 with hq9 hqa
                      injection hqa with hqb hqc
                      subst hq3 hq9 hq6
                      have hN1n : N1.length ≤ 1000 := by rw [hq8, left_len hl1 hr]; have := Nat.mul_le_mul hW4 (show R - 1 ≤ 200 by omega); omega
                      have hN2n : N2.length ≤ 1000 := by rw [hqc, List.length_append, hUl]; have := H602.out; omega
                      have hN2f : N2 = (chK W R2 L2 ++ [U]).flatten := by rw [hqc, flat_more hl2]; simp
                      have CV1 := fun (Z : World) (h : BC A (W : Int) (R : Int) qa L ca Z) => rows18 W R qa L ca Z ⟨h.r, hl1, hW4, by omega, h.m⟩ (by omega)
                      have CV2 := fun (Z : World) (h : BC B (W : Int) (R2 : Int) qb L2 cb Z) => rows18 W R2 qb L2 cb Z ⟨h.r, hl2, hW4, by omega, h.m⟩ (by omega)
                      have C16 := fun (q : Option Addr) (YY : List RR) (d : Nat) (Z : World) (hY : lS YY = swO (chK W R L) r) (hV : VRow Z.heap.size Z q YY) => of1 (W := (W : Int)) (i1 := y2) (A := swO (chK W R L) r) (M := swO (chK W R L) r) hq8 (by rw [swO_len, chK_len, hq7]) (by rw [swO_len, chK_len]; omega) hN1n rfl q YY d Z hY hV
                      have C16b := fun (q : Option Addr) (YY : List RR) (d : Nat) (Z : World) (hY : lS YY = chK W R2 L2 ++ [U]) (hV : VRow Z.heap.size Z q YY) => of1 (W := (W : Int)) (i1 := z2) (A := chK W R2 L2 ++ [U]) (M := chK W R2 L2 ++ [U]) hN2f (by rw [List.length_append, chK_len, hqb]; simp) (by rw [List.length_append, chK_len]; simp; omega) hN2n rfl q YY d Z hY hV
                      obtain ⟨A0, hA0⟩ : ∃ A0, A0 = chK W R L := ⟨_, rfl⟩
                      obtain ⟨D0, hD0⟩ : ∃ D0, D0 = chK W R2 L2 := ⟨_, rfl⟩
                      have hA0l : A0.length = R := by rw [hA0, chK_len]
                      have hD0l : D0.length ≤ 200 := by rw [hD0, chK_len]; exact hR2
                      have hUA : ∀ h : r < A0.length, U = A0[r]'h := fun h => by simp only [hU, hA0]
                      rw [← hA0] at CV1 C16
                      rw [← hD0] at CV2 C16b
                      have C25 := fun (q : Option Addr) (YY : List RR) (d : Nat) (Z : World) (hY : lS YY = A0) (hV : RV 0 YY q d Z) => without25 q YY d r Z hV (by rw [← lS_len, hY]; omega) (by rw [← lS_len, hY]; omega)
                      have HA0l := hidOg hA0l
                      have HD0l := hidOg hD0l
                      have HUA := hidOg hUA
                      have HUl := hidOg hUl
                      clear hmm hm1 hm2 hl1 hl2 hU hUl hq7 hq8 hqb hqc hN1n hN2n hN2f hA0 hD0 hA0l hD0l hUA hR2
                      go_upto_region 27 with (first
                        | (go_at_call_has 18 qa; refine Calls.mono (CV1 _ (KC.out _ HZA.out).1) ?_; rintro e w9 ⟨qy, cy, YY, rfl, hYY, hRY, hb⟩; have HA9 := hidOg hb; have HYY := hidOg hYY; have HRY := hidOg hRY; clear hb hYY hRY b0 b1 b2 v0 v1 v2 s6 s7))
                      have hYl : YY.length = R := by rw [← lS_len, HYY.out, HA0l.out]
                      have hrY : r < YY.length := by omega
                      obtain ⟨G, rfl, hG0, hG1, hcY, _⟩ := HRY.out.cells hrY
                      have hel : (gR YY r).2.1 = U := by
                        rw [gR_lS hrY, HUA.out (by rw [HA0l.out]; exact hr)]; simp only [HYY.out]
                      have hE0 : OwnR 0 w9 (gR YY r).1 (gR YY r).2.1 (gR YY r).2.2 := HRY.out.t _ (by rw [gR_eq hrY]; exact List.getElem_mem _)
                      obtain ⟨⟨ep, el, ec⟩, he⟩ : ∃ e, e = gR YY r := ⟨_, rfl⟩
                      rw [← he] at hcY hel hE0
                      simp only at hcY hel hE0
                      subst hel
                      rw [HUl.out] at hcY
                      have HRY0 := hidOg (HRY.out.base (Nat.zero_le _))
                      have HRYd := hidOg (HRY0.out.to ((Below.refl _ w9).drew))
                      have HRYe := hidOg (HRYd.out.to (bal _ (.cells #[.slice ep W ec] 38)))
                      have KZB : Hid (∀ Z, Below w9.heap.size w9 Z → Below wz.heap.size wz Z) := fun Z hb => HZA.out.trans ((HA9.out.trans (hb.mono HA9.out.size)).mono HZA.out.size)
                      have KZ : Hid (∀ Z, Below w9.heap.size w9 Z → Z.cell? ⟨A, 0, none⟩ = some (.int .i64 (W : Int)) ∧ Z.cell? ⟨B, 0, none⟩ = some (.int .i64 (W : Int)) ∧ Z.cell? ⟨B, 1, none⟩ = some (.int .i64 (R2 : Int)) ∧ Z.cell? ⟨B, 2, none⟩ = some (.slice qb L2.length cb) ∧ Z.cell? ⟨w.heap.size + 2, 0, none⟩ = some (.int .i64 (r : Int)) ∧ Z.cell? ⟨G, r, none⟩ = some (.slice ep W ec)) := fun Z hb => by
                        obtain ⟨f1, f2, _, f4⟩ := KC.out Z (KZB.out Z hb)
                        obtain ⟨k1, k2, k3⟩ := f2.cells
                        obtain ⟨_, _, _, _, _, _, k4, _⟩ := f4.s8
                        exact ⟨f1.cells.1, k1, k2, k3, k4, (hb.cell (p := ⟨G, r, none⟩) hG1).trans hcY⟩
                      have hZl : ∀ ZZ : List RR, lS ZZ = D0 → ZZ.length + ([(ep, el, ec)] : List RR).length ≤ 100000 := fun ZZ hZ => by
                        have h1 : ZZ.length = D0.length := by rw [← hZ, lS_len]
                        have h2 := HD0l.out
                        simp; omega
                      have KEY : Hid (∀ (Z : World) (ab : Nat) (q : Option Addr) (c : Nat) (ZZ : List RR), lS ZZ = D0 → RV w9.heap.size ZZ q c Z → Z.cell? ⟨ab, 0, none⟩ = some (.slice ep W ec) → Below w9.heap.size w9 Z → ∃ (Y : List RR) (pY : Option Addr) (cY : Nat) (wY : World), (Builtin.append_ #[35, 35] 35 #[.slice q ZZ.length c, .slice (some ⟨ab, 0, none⟩) 1 1]).run Try.prog Z = .ok (.slice pY Y.length cY) wY ∧ Hid (lS Y = D0 ++ [el]) ∧ Hid (RV 0 Y pY cY wY) ∧ Hid (Below w9.heap.size w9 wY) ∧ Hid (Z.grownBy wY (q.map (·.block)) ∧ RV w9.heap.size ZZ q c Z)) := fun Z ab q c ZZ hZ hRZ hc hb => by
                        obtain ⟨p', c', w', hrun, hR, hg⟩ := app_rv Z 35 w9.heap.size q ZZ c [(ep, el, ec)] ⟨ab, 0, none⟩ 1 hRZ (fun j u hj => by
                          have hj0 : j = 0 := by have := (List.getElem?_eq_some_iff.1 hj).1; simp at this; exact this
                          subst hj0
                          rw [addr_add, show ab = ab from rfl, Nat.add_zero, hc]
                          rw [← HUl.out]; simpa [vR] using hj) (fun x hx => by rw [List.mem_singleton.1 hx]; exact hE0.to hb) (hZl ZZ hZ) hb.size
                        exact ⟨_, p', c', w', hrun, by unfold Hid; rw [← hZ]; simp [lS], hR.base (Nat.zero_le _), hb.trans (grown_bel (Below.refl _ _) (fun a ha => owns_fresh hRZ.o a ha) hb.size hg), ⟨hg, hRZ⟩⟩
                      have HN1 : Hid (w8.heap.size + 2 ≠ A ∧ w8.heap.size + 2 ≠ B ∧ w8.heap.size + 2 ≠ w.heap.size + 2 ∧ w8.heap.size + 2 ≠ G) := by
                        have h1 := HS0.out; have h2 := HZ7.out.size; have h3 := HS8.out; have h4 := HSA.out
                        unfold Hid; omega
                      have HN2 : Hid (w8.heap.size + 3 ≠ A ∧ w8.heap.size + 3 ≠ B ∧ w8.heap.size + 3 ≠ w.heap.size + 2 ∧ w8.heap.size + 3 ≠ G) := by
                        have h1 := HS0.out; have h2 := HZ7.out.size; have h3 := HS8.out; have h4 := HSA.out
                        unfold Hid; omega
                      obtain ⟨j0, j1, j2, j3, j4, j5⟩ := KZ.out _ (Below.refl _ _)
                      have hri0 : (0 : Int) ≤ (r : Int) := by omega
                      have hri1 : (r : Int) < (YY.length : Int) := by omega
                      have hri2 : (r : Int) ≤ (YY.length : Int) := by omega
                      have hYn : YY.length ≤ 1000 := by omega
                      clear hE0 he hcY hrY hG0 hG1 HRY hYl
                      have arr0 : ∀ (Z : World), (Z.alloc (.cells #[.slice ep W ec] 38)).cell? ⟨Z.heap.size, 0, none⟩ = some (.slice ep W ec) := fun Z => cell1_heap (heap_alloc_new Z _)
                      have HARR := hidOg arr0
                      clear arr0
                      first | (go_region_held3 (fun w' => w'.cell? ⟨A, 0, none⟩ = some (.int .i64 (W : Int)) ∧ w'.cell? ⟨B, 0, none⟩ = some (.int .i64 (W : Int)) ∧ w'.cell? ⟨B, 1, none⟩ = some (.int .i64 (R2 : Int)) ∧ w'.cell? ⟨B, 2, none⟩ = some (.slice qb L2.length cb) ∧ w'.cell? ⟨w.heap.size + 2, 0, none⟩ = some (.int .i64 (r : Int)) ∧ w'.cell? ⟨G, r, none⟩ = some (.slice ep W ec)) (first | with_reducible exact ⟨k0, k1, k2, k3, k4, k5⟩ | with_reducible exact ⟨j0, j1, j2, j3, j4, j5⟩ | with_reducible exact TT.out _ _ _ | with_reducible exact TU.out _ _ _ _ _ _ | go_keep) (first
                        | (go_at_call 25; refine Calls.mono (C25 _ _ _ _ HYY.out HRYd.out) ?_; rintro e w10 ⟨q10, c10, Y10, rfl, hY, hR, hb⟩; have HX10 := hidOg (show Below w9.heap.size w9 w10 by first | with_reducible exact bd0 hb | exact bdq hb); have HR10 := hidOg hR; have HY10 : Hid (lS Y10 = swO A0 r) := hY.trans (by rw [HYY.out]); obtain ⟨k0, k1, k2, k3, k4, k5⟩ := KZ.out _ HX10.out; (first | (have QC := hidOg (arr_cellq hb)) | (have QC := hidOg (arr_cell hb)) | skip); clear hb hR hY)
                        | (go_at_call 25; refine Calls.mono (C25 _ _ _ _ HYY.out HRYe.out) ?_; rintro e w10 ⟨q10, c10, Y10, rfl, hY, hR, hb⟩; have HX10 := hidOg (show Below w9.heap.size w9 w10 by first | with_reducible exact bd0 hb | exact bdq hb); have HR10 := hidOg hR; have HY10 : Hid (lS Y10 = swO A0 r) := hY.trans (by rw [HYY.out]); obtain ⟨k0, k1, k2, k3, k4, k5⟩ := KZ.out _ HX10.out; (first | (have QC := hidOg (arr_cellq hb)) | (have QC := hidOg (arr_cell hb)) | skip); clear hb hR hY)
                        | (go_at_call_has 16 q10; refine Calls.mono (C16 _ _ _ _ HY10.out HR10.out.row) ?_; rintro e w11 ⟨q11, c11, rfl, ho, hb⟩; have HX11 := hidOg (show Below w9.heap.size w9 w11 by first | exact HX10.out.trans (hb.mono HX10.out.size) | exact HX10.out.trans ((be1 hb).mono HX10.out.size)); have HO11 := hidOg ho; obtain ⟨k0, k1, k2, k3, k4, k5⟩ := KZ.out _ HX11.out; (first | (have QC := hidOg (arr_cell hb)) | (have QC := hidOg (cell_on hb QC.out)) | skip); clear ho hb)
                        | (go_at_call_has 16 q10; refine Calls.mono (C16 _ _ _ _ HY10.out (HR10.out.to (bal _ _)).row) ?_; rintro e w11 ⟨q11, c11, rfl, ho, hb⟩; have HX11 := hidOg (show Below w9.heap.size w9 w11 by first | exact HX10.out.trans (hb.mono HX10.out.size) | exact HX10.out.trans ((be1 hb).mono HX10.out.size)); have HO11 := hidOg ho; obtain ⟨k0, k1, k2, k3, k4, k5⟩ := KZ.out _ HX11.out; (first | (have QC := hidOg (arr_cell hb)) | (have QC := hidOg (cell_on hb QC.out)) | skip); clear ho hb)
                        | (go_at_call 18; refine Calls.mono (CV2 _ (KC.out _ (KZB.out _ HX11.out)).2.1) ?_; rintro e w12 ⟨q12', c12', ZZ, rfl, hZZ, hRZ, hb⟩; have HX12 := hidOg (show Below w9.heap.size w9 w12 by first | exact HX11.out.trans (hb.mono HX11.out.size) | exact HX11.out.trans ((be1 hb).mono HX11.out.size)); have HO12 := hidOg (HO11.out.to (by first | exact hb | exact be1 hb)); have HZZ := hidOg hZZ; have HRZ : Hid (RV w9.heap.size ZZ q12' c12' w12) := hRZ.base (by first | exact HX11.out.size | (rw [World.size_alloc]; exact Nat.le_succ_of_le HX11.out.size)); obtain ⟨k0, k1, k2, k3, k4, k5⟩ := KZ.out _ HX12.out; (first | (have QC := hidOg (arr_cell hb)) | (have QC := hidOg (cell_on hb QC.out)) | skip); clear hb hZZ hRZ)
                        | (go_at_call 18; refine Calls.mono (CV2 _ ((KC.out _ (KZB.out _ HX11.out)).2.1.to (bal _ _))) ?_; rintro e w12 ⟨q12', c12', ZZ, rfl, hZZ, hRZ, hb⟩; have HX12 := hidOg (show Below w9.heap.size w9 w12 by first | exact HX11.out.trans (hb.mono HX11.out.size) | exact HX11.out.trans ((be1 hb).mono HX11.out.size)); have HO12 := hidOg (HO11.out.to (by first | exact hb | exact be1 hb)); have HZZ := hidOg hZZ; have HRZ : Hid (RV w9.heap.size ZZ q12' c12' w12) := hRZ.base (by first | exact HX11.out.size | (rw [World.size_alloc]; exact Nat.le_succ_of_le HX11.out.size)); obtain ⟨k0, k1, k2, k3, k4, k5⟩ := KZ.out _ HX12.out; (first | (have QC := hidOg (arr_cell hb)) | (have QC := hidOg (cell_on hb QC.out)) | skip); clear hb hZZ hRZ)
                        | (have hqc := QC.out; obtain ⟨Y, pY, cY, wY, hrun, HY13, HR13, HXY, HG1⟩ := KEY.out _ _ _ _ _ HZZ.out HRZ.out hqc HX12.out; refine step_app _ (by rfl) _ _ 35 (by rfl) _ _ (by rfl) (by rfl) 35 (by rfl) _ wY hrun ?_; have HO13 := hidOg (HO12.out.ker2 HG1.out); obtain ⟨k0, k1, k2, k3, k4, k5⟩ := KZ.out _ HXY.out; clear hrun)
                        | (obtain ⟨Y, pY, cY, wY, hrun, HY13, HR13, HXY, HG1⟩ := KEY.out _ _ _ _ _ HZZ.out (HRZ.out.to (bal _ _)) (HARR.out w12) (HX12.out.alloc HX12.out.size _); refine step_app _ (by rfl) _ _ 35 (by rfl) _ _ (by rfl) (by rfl) 35 (by rfl) _ wY hrun ?_; have HO13 := hidOg ((HO12.out.to (bal _ _)).ker2 HG1.out); obtain ⟨k0, k1, k2, k3, k4, k5⟩ := KZ.out _ HXY.out; clear hrun)
                        | (go_at_call_has 16 pY; refine Calls.mono (C16b _ _ _ _ HY13.out HR13.out.row) ?_; rintro e w14 ⟨q14, c14, rfl, ho, hb⟩; have HX14 := hidOg (HXY.out.trans (hb.mono HXY.out.size)); have HO14 := hidOg ho; have HP14 := hidOg (HO13.out.to hb); have HA14 := hidOg (HA9.out.trans (HX14.out.mono HA9.out.size)); obtain ⟨k0, k1, k2, k3, k4, k5⟩ := KZ.out _ HX14.out; have Z14 := hidOg (atW HA14.out Z189.out); have Z15 := hidOg (atW HA14.out Z199.out); obtain ⟨r0, r1, r2, rf⟩ := heap3_cell Z14.out; obtain ⟨t0, t1, t2, tf⟩ := heap3_cell Z15.out; have TT := hidOg (fun (x y z : Value) => (And.intro (set3far (x := x) (y := y) (z := z) HN1.out.1 k0) (And.intro (set3far (x := x) (y := y) (z := z) HN1.out.2.1 k1) (And.intro (set3far (x := x) (y := y) (z := z) HN1.out.2.1 k2) (And.intro (set3far (x := x) (y := y) (z := z) HN1.out.2.1 k3) (And.intro (set3far (x := x) (y := y) (z := z) HN1.out.2.2.1 k4) (set3far (x := x) (y := y) (z := z) HN1.out.2.2.2 k5))))))); have TU := hidOg (fun (x y z x' y' z' : Value) => (And.intro (set3far (x := x') (y := y') (z := z') HN2.out.1 (set3far (x := x) (y := y) (z := z) HN1.out.1 k0)) (And.intro (set3far (x := x') (y := y') (z := z') HN2.out.2.1 (set3far (x := x) (y := y) (z := z) HN1.out.2.1 k1)) (And.intro (set3far (x := x') (y := y') (z := z') HN2.out.2.1 (set3far (x := x) (y := y) (z := z) HN1.out.2.1 k2)) (And.intro (set3far (x := x') (y := y') (z := z') HN2.out.2.1 (set3far (x := x) (y := y) (z := z) HN1.out.2.1 k3)) (And.intro (set3far (x := x') (y := y') (z := z') HN2.out.2.2.1 (set3far (x := x) (y := y) (z := z) HN1.out.2.2.1 k4)) (set3far (x := x') (y := y') (z := z') HN2.out.2.2.2 (set3far (x := x) (y := y) (z := z) HN1.out.2.2.2 k5)))))))); clear ho hb)
                        | fail)) | fail
                      all_goals
                        have BX := hidOg (B169.out.to HA14.out)
                        have BY := hidOg (B179.out.to HA14.out)
                        have HOX := hidOg (HO169.out.to HA14.out)
                        have HOY := hidOg (HO179.out.to HA14.out)
                        have HDX := hidOg (HD9.out.to HA14.out)
                        have Z16 : Hid ((((w14.setCell ⟨w8.heap.size + 2, 0, none⟩ (.int .i64 (W : Int))).setCell ⟨w8.heap.size + 2, 1, none⟩ (.int .i64 y2)).setCell ⟨w8.heap.size + 2, 2, none⟩ (.slice q11 N1.length c11)).heap[w8.heap.size + 3]? = some (.cells #[.int .i64 0, .int .i64 0, .slice none 0 0] 24 (0, 0))) := (set3_other (by omega)).trans Z15.out
                        have C1 : Hid (OwnR w7.heap.size (((((((w14.setCell ⟨w8.heap.size + 2, 0, none⟩ (.int .i64 (W : Int))).setCell ⟨w8.heap.size + 2, 1, none⟩ (.int .i64 y2)).setCell ⟨w8.heap.size + 2, 2, none⟩ (.slice q11 N1.length c11)).setCell ⟨w8.heap.size + 3, 0, none⟩ (.int .i64 (W : Int))).setCell ⟨w8.heap.size + 3, 1, none⟩ (.int .i64 z2)).setCell ⟨w8.heap.size + 3, 2, none⟩ (.slice q14 N2.length c14))) q16 N1 c16) := (HOX.out.box3 Z14.out _ _ _).box3 Z16.out _ _ _
                        have C2 : Hid (OwnR w7.heap.size (((((((w14.setCell ⟨w8.heap.size + 2, 0, none⟩ (.int .i64 (W : Int))).setCell ⟨w8.heap.size + 2, 1, none⟩ (.int .i64 y2)).setCell ⟨w8.heap.size + 2, 2, none⟩ (.slice q11 N1.length c11)).setCell ⟨w8.heap.size + 3, 0, none⟩ (.int .i64 (W : Int))).setCell ⟨w8.heap.size + 3, 1, none⟩ (.int .i64 z2)).setCell ⟨w8.heap.size + 3, 2, none⟩ (.slice q14 N2.length c14))) q17 N2 c17) := (HOY.out.box3 Z14.out _ _ _).box3 Z16.out _ _ _
                        have C3 := (HP14.out.box3 Z14.out (.int .i64 (W : Int)) (.int .i64 y2) (.slice q11 N1.length c11)).box3 Z16.out (.int .i64 (W : Int)) (.int .i64 z2) (.slice q14 N2.length c14)
                        have C4 := (HO14.out.box3 Z14.out (.int .i64 (W : Int)) (.int .i64 y2) (.slice q11 N1.length c11)).box3 Z16.out (.int .i64 (W : Int)) (.int .i64 z2) (.slice q14 N2.length c14)
                        have HREL : Hid ((∃ q c, BC (w8.heap.size + 2) (W : Int) y2 q N1 c (((((((w14.setCell ⟨w8.heap.size + 2, 0, none⟩ (.int .i64 (W : Int))).setCell ⟨w8.heap.size + 2, 1, none⟩ (.int .i64 y2)).setCell ⟨w8.heap.size + 2, 2, none⟩ (.slice q11 N1.length c11)).setCell ⟨w8.heap.size + 3, 0, none⟩ (.int .i64 (W : Int))).setCell ⟨w8.heap.size + 3, 1, none⟩ (.int .i64 z2)).setCell ⟨w8.heap.size + 3, 2, none⟩ (.slice q14 N2.length c14)))) ∧ (∃ q c, BC (w8.heap.size + 3) (W : Int) z2 q N2 c (((((((w14.setCell ⟨w8.heap.size + 2, 0, none⟩ (.int .i64 (W : Int))).setCell ⟨w8.heap.size + 2, 1, none⟩ (.int .i64 y2)).setCell ⟨w8.heap.size + 2, 2, none⟩ (.slice q11 N1.length c11)).setCell ⟨w8.heap.size + 3, 0, none⟩ (.int .i64 (W : Int))).setCell ⟨w8.heap.size + 3, 1, none⟩ (.int .i64 z2)).setCell ⟨w8.heap.size + 3, 2, none⟩ (.slice q14 N2.length c14)))) ∧ BC w8.heap.size (W : Int) y2 q16 N1 c16 (((((((w14.setCell ⟨w8.heap.size + 2, 0, none⟩ (.int .i64 (W : Int))).setCell ⟨w8.heap.size + 2, 1, none⟩ (.int .i64 y2)).setCell ⟨w8.heap.size + 2, 2, none⟩ (.slice q11 N1.length c11)).setCell ⟨w8.heap.size + 3, 0, none⟩ (.int .i64 (W : Int))).setCell ⟨w8.heap.size + 3, 1, none⟩ (.int .i64 z2)).setCell ⟨w8.heap.size + 3, 2, none⟩ (.slice q14 N2.length c14))) ∧ BC (w8.heap.size + 1) (W : Int) z2 q17 N2 c17 (((((((w14.setCell ⟨w8.heap.size + 2, 0, none⟩ (.int .i64 (W : Int))).setCell ⟨w8.heap.size + 2, 1, none⟩ (.int .i64 y2)).setCell ⟨w8.heap.size + 2, 2, none⟩ (.slice q11 N1.length c11)).setCell ⟨w8.heap.size + 3, 0, none⟩ (.int .i64 (W : Int))).setCell ⟨w8.heap.size + 3, 1, none⟩ (.int .i64 z2)).setCell ⟨w8.heap.size + 3, 2, none⟩ (.slice q14 N2.length c14))) ∧ OwnR w7.heap.size (((((((w14.setCell ⟨w8.heap.size + 2, 0, none⟩ (.int .i64 (W : Int))).setCell ⟨w8.heap.size + 2, 1, none⟩ (.int .i64 y2)).setCell ⟨w8.heap.size + 2, 2, none⟩ (.slice q11 N1.length c11)).setCell ⟨w8.heap.size + 3, 0, none⟩ (.int .i64 (W : Int))).setCell ⟨w8.heap.size + 3, 1, none⟩ (.int .i64 z2)).setCell ⟨w8.heap.size + 3, 2, none⟩ (.slice q14 N2.length c14))) q16 N1 c16 ∧ OwnR w7.heap.size (((((((w14.setCell ⟨w8.heap.size + 2, 0, none⟩ (.int .i64 (W : Int))).setCell ⟨w8.heap.size + 2, 1, none⟩ (.int .i64 y2)).setCell ⟨w8.heap.size + 2, 2, none⟩ (.slice q11 N1.length c11)).setCell ⟨w8.heap.size + 3, 0, none⟩ (.int .i64 (W : Int))).setCell ⟨w8.heap.size + 3, 1, none⟩ (.int .i64 z2)).setCell ⟨w8.heap.size + 3, 2, none⟩ (.slice q14 N2.length c14))) q17 N2 c17 ∧ Be w7.heap.size w7 (((((((w14.setCell ⟨w8.heap.size + 2, 0, none⟩ (.int .i64 (W : Int))).setCell ⟨w8.heap.size + 2, 1, none⟩ (.int .i64 y2)).setCell ⟨w8.heap.size + 2, 2, none⟩ (.slice q11 N1.length c11)).setCell ⟨w8.heap.size + 3, 0, none⟩ (.int .i64 (W : Int))).setCell ⟨w8.heap.size + 3, 1, none⟩ (.int .i64 z2)).setCell ⟨w8.heap.size + 3, 2, none⟩ (.slice q14 N2.length c14)))) :=
                          ⟨⟨q11, c11, (set3_other (by omega)).trans (set3_same Z14.out), C3.row, C3.cm⟩, ⟨q14, c14, set3_same Z16.out, C4.row, C4.cm⟩, ⟨(set3_other (by omega)).trans ((set3_other (by omega)).trans BX.out.b), C1.out.row, C1.out.cm⟩, ⟨(set3_other (by omega)).trans ((set3_other (by omega)).trans BY.out.b), C2.out.row, C2.out.cm⟩, C1.out, C2.out, (HDX.out.st3 (B := w8.heap.size + 2) (by have := HS8.out; omega) _ _ _).st3 (B := w8.heap.size + 3) (by have := HS8.out; omega) _ _ _⟩
                        obtain ⟨wn, hwn⟩ : ∃ x, x = (((((((w14.setCell ⟨w8.heap.size + 2, 0, none⟩ (.int .i64 (W : Int))).setCell ⟨w8.heap.size + 2, 1, none⟩ (.int .i64 y2)).setCell ⟨w8.heap.size + 2, 2, none⟩ (.slice q11 N1.length c11)).setCell ⟨w8.heap.size + 3, 0, none⟩ (.int .i64 (W : Int))).setCell ⟨w8.heap.size + 3, 1, none⟩ (.int .i64 z2)).setCell ⟨w8.heap.size + 3, 2, none⟩ (.slice q14 N2.length c14))) := ⟨_, rfl⟩
                        rw [← hwn] at HREL ⊢
                        clear hwn C1 C2 C3 C4 BX BY HOX HOY HDX Z16 Z14 Z15 TT TU r0 r1 r2 rf t0 t1 t2 tf k0 k1 k2 k3 k4 k5 j0 j1 j2 j3 j4 j5
                        go_wp2
                        go_meet
                        case rel => exact ⟨rfl, HREL.out⟩
                    · have hq := HM.out
                      rw [mA_out hmm (by omega)] at hq
                      cases hq
                      have hd : ((W : Int) == (W2 : Int)) = false := by simp; omega
                      clear hmm hm1 hm2 hl1 hl2
                      go_wp2
                      go_meet
                      case rel => exact ⟨rfl, ⟨none, 0, ⟨Z189.out, Row.nil _, Nat.zero_le _⟩⟩, ⟨none, 0, ⟨Z199.out, Row.nil _, Nat.zero_le _⟩⟩, B169.out, B179.out, HO169.out, HO179.out, HD9.out⟩
            case rest =>
              obtain ⟨rfl, ⟨q18, c18, hB18⟩, ⟨q19, c19, hB19⟩, hB16, hB17, hO16, hO17, hD⟩ := hcut
              obtain ⟨wb, hwb⟩ : ∃ x, x = wc := ⟨_, rfl⟩
              subst hwb
              have HB18 := hidOg hB18
              have HB19 := hidOg hB19
              have HB16 := hidOg hB16
              have HB17 := hidOg hB17
              have HO16 := hidOg hO16
              have HO17 := hidOg hO17
              have HDb := hidOg hD
              have d2 : (e2 != e2) = false := by simp
              have CM1 := fun (q : Option Addr) (k : Nat) (q' : Option Addr) (k' : Nat) (Z : World) (h1 : IRow .u64 Z.heap.size Z q N1) (h2 : IRow .u64 Z.heap.size Z q' N1) => same2 y1 y2 N1 HO16.out.n q k q' k' Z h1 h2
              have CM2 := fun (q : Option Addr) (k : Nat) (q' : Option Addr) (k' : Nat) (Z : World) (h1 : IRow .u64 Z.heap.size Z q N2) (h2 : IRow .u64 Z.heap.size Z q' N2) => same2 z1 z2 N2 HO17.out.n q k q' k' Z h1 h2
              have CW := fun (q : Option Addr) (k : Nat) (Z : World) (h1 : Row Z qa L ca) (h2 : Row Z q L k) => same2 wd rs L (by have := H60.out; omega) qa ca q k Z h1.i h2.i
              have CW2 := fun (q : Option Addr) (k : Nat) (Z : World) (h1 : Row Z qb L2 cb) (h2 : Row Z q L2 k) => same2 wd2 rs2 L2 (by have := H602.out; omega) qb cb q k Z h1.i h2.i
              obtain ⟨r0, r1, r2⟩ := hB16.cells
              obtain ⟨t0, t1, t2⟩ := hB18.cells
              clear hB18 hB19 hB16 hB17 hO16 hO17 hD HM HMM HD9 B169 B179 Z189 Z199 HO169 HO179 HSA HZA
              go_upto_region 32 with (first
                | (go_at_call_has 14 q16; refine Calls.mono (CM1 _ _ _ _ _ HB16.out.r.i HB18.out.r.i) ?_; rintro e v1 ⟨rfl, hb⟩; have HD1 := hidOg (HDb.out.to hb); have HO161 := hidOg (HO16.out.to hb); have HO171 := hidOg (HO17.out.to hb); have HB161 := hidOg (HB16.out.to hb); have HB171 := hidOg (HB17.out.to hb); have HB191 := hidOg (HB19.out.to hb); obtain ⟨r0, r1, r2⟩ := HB171.out.cells; obtain ⟨t0, t1, t2⟩ := HB191.out.cells; clear hb)
                | (go_at_call_has 14 q17; refine Calls.mono (CM2 _ _ _ _ _ HB171.out.r.i HB191.out.r.i) ?_; rintro e v2 ⟨rfl, hb⟩; have HD2 := hidOg (HD1.out.to hb); have HO162 := hidOg (HO161.out.to hb); have HO172 := hidOg (HO171.out.to hb); have HB172 := hidOg (HB171.out.to hb); obtain ⟨r0, r1, r2⟩ := (HB161.out.to hb).cells; clear hb t0 t1 t2)
                | (go_at_call_has 26 q16; refine Calls.mono (spoil26k y1 y2 _ N1 _ w7.heap.size _ HO162.out HD2.out.s) ?_; rintro e v3 ⟨rfl, hb, hke⟩; have HD3 : Hid (Be w7.heap.size w7 v3) := ⟨HD2.out.b.trans hb, Nat.le_trans HD2.out.s hb.size⟩; have HO173 := hidOg (HO172.out.ker hke HAP.out); obtain ⟨r0, r1, r2, _⟩ := heap3_cell ((hke (w8.heap.size + 1) HB172.out.lt (HO162.out.nobox HB172.out.b)).trans HB172.out.b); clear hb hke)
                | (go_at_call_has 26 q17; refine Calls.mono (spoil26 z1 z2 _ N2 _ w7.heap.size _ HO173.out HD3.out.s) ?_; rintro e v4 ⟨rfl, hb⟩; have HZ4 : Hid (Below wz.heap.size wz v4) := HZ7.out.trans ((HD3.out.b.trans hb).mono HZ7.out.size); clear hb r0 r1 r2))
              have KS : Hid (∀ Z, Below wz.heap.size wz Z → Z.cell? ⟨A, 0, none⟩ = some (.int .i64 wd) ∧ Z.cell? ⟨A, 1, none⟩ = some (.int .i64 rs) ∧ Z.cell? ⟨A, 2, none⟩ = some (.slice qa L.length ca) ∧ Z.cell? ⟨B, 0, none⟩ = some (.int .i64 wd2) ∧ Z.cell? ⟨B, 1, none⟩ = some (.int .i64 rs2) ∧ Z.cell? ⟨B, 2, none⟩ = some (.slice qb L2.length cb) ∧ Z.cell? ⟨w.heap.size, 0, none⟩ = some (.int .i64 wd) ∧ Z.cell? ⟨w.heap.size, 1, none⟩ = some (.int .i64 rs) ∧ Z.cell? ⟨w.heap.size, 2, none⟩ = some (.slice p n c) ∧ Z.cell? ⟨w.heap.size + 1, 0, none⟩ = some (.int .i64 wd2) ∧ Z.cell? ⟨w.heap.size + 1, 1, none⟩ = some (.int .i64 rs2) ∧ Z.cell? ⟨w.heap.size + 1, 2, none⟩ = some (.slice p2 n2 c2)) := fun Z hb => by
                obtain ⟨f1, f2, _, f4⟩ := KC.out Z hb
                obtain ⟨k0, k1, k2⟩ := f1.cells
                obtain ⟨k3, k4, k5⟩ := f2.cells
                obtain ⟨k6, k7, k8, k9, k10, k11, _, _⟩ := f4.s8
                exact ⟨k0, k1, k2, k3, k4, k5, k6, k7, k8, k9, k10, k11⟩
              have HE0 : Hid (Below wz.heap.size wz v4.drew) := HZ4.out.drew
              obtain ⟨j0, j1, j2, j3, j4, j5, j6, j7, j8, j9, j10, j11⟩ := KS.out _ HZ4.out
              first | (go_region_held3 (fun w' => w'.cell? ⟨A, 0, none⟩ = some (.int .i64 wd) ∧ w'.cell? ⟨A, 1, none⟩ = some (.int .i64 rs) ∧ w'.cell? ⟨A, 2, none⟩ = some (.slice qa L.length ca) ∧ w'.cell? ⟨B, 0, none⟩ = some (.int .i64 wd2) ∧ w'.cell? ⟨B, 1, none⟩ = some (.int .i64 rs2) ∧ w'.cell? ⟨B, 2, none⟩ = some (.slice qb L2.length cb) ∧ w'.cell? ⟨w.heap.size, 0, none⟩ = some (.int .i64 wd) ∧ w'.cell? ⟨w.heap.size, 1, none⟩ = some (.int .i64 rs) ∧ w'.cell? ⟨w.heap.size, 2, none⟩ = some (.slice p n c) ∧ w'.cell? ⟨w.heap.size + 1, 0, none⟩ = some (.int .i64 wd2) ∧ w'.cell? ⟨w.heap.size + 1, 1, none⟩ = some (.int .i64 rs2) ∧ w'.cell? ⟨w.heap.size + 1, 2, none⟩ = some (.slice p2 n2 c2)) (first | with_reducible exact ⟨k0, k1, k2, k3, k4, k5, k6, k7, k8, k9, k10, k11⟩ | with_reducible exact ⟨j0, j1, j2, j3, j4, j5, j6, j7, j8, j9, j10, j11⟩ | go_keep) (first
                | (go_at_call_has 10 p; refine Calls.mono (CO _ (KC.out _ HE0.out).2.2.2.b) ?_; rintro e x5 ⟨qo, co, rfl, ho, hb⟩; have HE1 := hidOg (HE0.out.trans (hb.mono HE0.out.size)); have HOx := hidOg ho.row; obtain ⟨k0, k1, k2, k3, k4, k5, k6, k7, k8, k9, k10, k11⟩ := KS.out _ HE1.out; clear ho hb)
                | (go_at_call_has 14 qa; refine Calls.mono (CW _ _ _ (KC.out _ HE1.out).1.r HOx.out) ?_; rintro e x6 ⟨rfl, hb⟩; have HE2 := hidOg (HE1.out.trans (hb.mono HE1.out.size)); obtain ⟨k0, k1, k2, k3, k4, k5, k6, k7, k8, k9, k10, k11⟩ := KS.out _ HE2.out; clear hb)
                | (go_at_call_has 10 p2; refine Calls.mono (CO2 _ (KC.out _ HE2.out).2.2.2.b) ?_; rintro e x7 ⟨qo2, co2, rfl, ho, hb⟩; have HE3 := hidOg (HE2.out.trans (hb.mono HE2.out.size)); have HOy := hidOg ho.row; obtain ⟨k0, k1, k2, k3, k4, k5, k6, k7, k8, k9, k10, k11⟩ := KS.out _ HE3.out; clear ho hb)
                | (go_at_call_has 14 qb; refine Calls.mono (CW2 _ _ _ (KC.out _ HE3.out).2.1.r HOy.out) ?_; rintro e x8 ⟨rfl, hb⟩; have HE4 := hidOg (HE3.out.trans (hb.mono HE3.out.size)); obtain ⟨k0, k1, k2, k3, k4, k5, k6, k7, k8, k9, k10, k11⟩ := KS.out _ HE4.out; clear hb)
                | fail)) | fail
              all_goals
                go_wp2
                go_ret
                exact ⟨rfl, (KC.out _ HE4.out).2.2.2.b⟩
end Go.Proofs.Ytkbikngkhaeakaa
