/- ColumnSets: where it sets. -/
import Derived.Test.YtkbikngkhaeakaaSe
namespace Go.Proofs.Ytkbikngkhaeakaa
open Go.RowKit

theorem rows_ne {X Y : List RR} {A : List (List Int)} {r k : Nat} {v : List Int} (hX : lS X = A) (hY : lS Y = A.set r v) (hk : k < X.length) (hk' : k < Y.length) (hne : k ≠ r) : rL X k = rL Y k := by
  rw [← lS_at hk, ← lS_at hk']
  simp only [hX, hY]
  rw [List.getElem_set_ne (fun e => hne e.symm)]
set_option maxRecDepth 20000 in
set_option maxHeartbeats 8000000 in
theorem sets_yes (W R r : Nat) (p : Option Addr) (l : List Int) (c : Nat) (pv : Option Addr) (v : List Int) (d : Nat) (w : World) (h : InR w p l c) (hv : IRow .u64 w.heap.size w pv v) (hs : smB (W : Int) (R : Int) (l.take 60).length = true) (hr : r < R) (hm : mayB (W : Int) (R : Int) (l.take 60).length = true) (hl : (l.take 60).length = W * R) (hvl : v.length = W) (ht : tA (W : Int) (R : Int) (l.take 60) (r : Int) v = (((W : Int), (R : Int), ((chK W R (l.take 60)).set r v).flatten), 0)) :
    Calls Try.prog 8 #[.agg #[.int .i64 (W : Int), .int .i64 (R : Int), .slice p l.length c], .int .i64 (r : Int), .slice pv v.length d] w fun e w' => e = .returned (.bool true) ∧ Below w.heap.size w w' := by
  have CO := fun (X : World) (hb : Below w.heap.size w X) => own10 (W : Int) (R : Int) p l c X (h.to hb)
  obtain ⟨L, hL⟩ : ∃ L, L = l.take 60 := ⟨_, rfl⟩
  have h0 := heap_alloc_new w (.cells #[.int .i64 (W : Int), .int .i64 (R : Int), .slice p l.length c] 24)
  have h60 : L.length ≤ 60 := by rw [hL]; simp; omega
  rw [← hL] at CO hs hm hl ht
  have hR2 : R ≤ 200 := by
    unfold smB at hs; rw [hm] at hs
    have : (R : Int) ≤ 200 := by simpa using hs
    omega
  have H0 := hidOg h0
  have CS := fun (q : Option Addr) (k : Nat) (X : World) => small17 (W : Int) (R : Int) q L.length k X
  rw [hs] at CS
  obtain ⟨L', hL'⟩ : ∃ L', L' = ((chK W R L).set r v).flatten := ⟨_, rfl⟩
  have hl' : L'.length = W * R := by rw [hL']; exact set_len hl hvl
  have hm' : mayB (W : Int) (R : Int) L'.length = true := by rw [hl', ← hl]; exact hm
  have hs' : smB (W : Int) (R : Int) L'.length = true := by rw [hl', ← hl]; exact hs
  have hrk : r < (chK W R L).length := by rw [chK_len]; exact hr
  obtain ⟨old, hold⟩ : ∃ old, old = (chK W R L)[r]'hrk := ⟨_, rfl⟩
  have CT1 := fun (q : Option Addr) (k : Nat) (X : World) (hR : Row X q L k) (hc : k ≤ maxLen) (hb : Be w.heap.size w X) => set27 (W : Int) (R : Int) q L k (r : Int) pv v d X hR hc (hv.to hb.b)
  rw [ht, ← hL'] at CT1
  have CG8 := fun (q : Option Addr) (k : Nat) (X : World) (hR : Row X q L' k) (hc : k ≤ maxLen) => get23 (W : Int) (R : Int) q L' k (r : Int) X hR hc
  have e8 : gA (W : Int) (R : Int) L' (r : Int) = (v, 0) := by
    rw [get_yes hm' hr]
    congr 1
    have : chK W R L' = (chK W R L).set r v := by rw [hL']; exact chK_set hl hvl
    simp only [this, List.getElem_set_self]
  rw [e8] at CG8
  have CG7 := fun (q : Option Addr) (k : Nat) (X : World) (hR : Row X q L k) (hc : k ≤ maxLen) => get23 (W : Int) (R : Int) q L k (r : Int) X hR hc
  rw [get_yes hm hr, ← hold] at CG7
  have CT2 := fun (q : Option Addr) (k : Nat) (q2 : Option Addr) (d2 : Nat) (X : World) (hR : Row X q L' k) (hc : k ≤ maxLen) (hI : IRow .u64 X.heap.size X q2 old) => set27 (W : Int) (R : Int) q L' k (r : Int) q2 old d2 X hR hc hI
  have e2 : tA (W : Int) (R : Int) L' (r : Int) old = (((W : Int), (R : Int), L), 0) := by rw [hL', hold]; exact setb_yes hm hr hl hvl
  rw [e2] at CT2
  have CE := fun (q : Option Addr) (k : Nat) (X : World) (hI : IRow .u64 X.heap.size X q v) (hb : Be w.heap.size w X) => equal21 q v k pv v d X hI (hv.to hb.b) (by rw [hvl]; have := (mayB_t hm).2.1; omega)
  rw [samI_refl] at CE
  have CM := fun (q : Option Addr) (k : Nat) (q2 : Option Addr) (k2 : Nat) (X : World) (h1 : Row X q L k) (h2 : Row X q2 L k2) => same13 (W : Int) (R : Int) q L k (W : Int) (R : Int) q2 L k2 X h1.i h2.i (by omega)
  rw [samC_refl] at CM
  have CR7 := fun (q : Option Addr) (k : Nat) (X : World) (hR : Row X q L k) (hc : k ≤ maxLen) => rows20 (W : Int) (R : Int) q L k X hR hc hs
  have CR8 := fun (q : Option Addr) (k : Nat) (X : World) (hR : Row X q L' k) (hc : k ≤ maxLen) => rows20 (W : Int) (R : Int) q L' k X hR hc hs'
  rw [roS_of hm] at CR7
  rw [roS_of hm', show chK W R L' = (chK W R L).set r v from by rw [hL']; exact chK_set hl hvl] at CR8
  obtain ⟨A, hA⟩ : ∃ A, A = chK W R L := ⟨_, rfl⟩
  rw [← hA] at CR7 CR8
  have hAl : A.length = R := by rw [hA, chK_len]
  have hAm : ∀ x ∈ A, x.length ≤ 1000 := fun x hx => by
    rw [hA] at hx
    have := chK_mem hl hx
    have := (mayB_t hm).2.1; omega
  have HAl := hidOg hAl
  have HAm := hidOg hAm
  have HR2 := hidOg hR2
  have HB0 : Hid (Be w.heap.size w (w.alloc (.cells #[.int .i64 (W : Int), .int .i64 (R : Int), .slice p l.length c] 24))) := (Be.refl (Nat.le_refl _)).al _
  clear h hL hs h0 hv hr hm hl ht h60 hR2 hL' hl' hm' hs' hrk hold e8 e2 hA hAl hAm hvl
  go_enter Try.func8, Try.ntmps8
  go_wp2_with (first
    | (go_at_call 9; refine Calls.mono (wakes9 _) ?_; rintro e w1 ⟨rfl, hb1⟩; obtain ⟨a0, a1, a2, _⟩ := heap3_cell ((hb1.block w.heap.size (by simp)).trans H0.out); have HB1 := hidOg (HB0.out.to hb1); clear hb1)
    | (go_at_call 10; refine Calls.mono (CO _ HB1.out.b) ?_; rintro e w2 ⟨q2, c2, rfl, ho2, hb2⟩; have B7 := hidOg (BC.new (wd := (W : Int)) (rs := (R : Int)) ho2.row ho2.cm); have HB2 := hidOg ((HB1.out.to hb2).al (.cells #[.int .i64 (W : Int), .int .i64 (R : Int), .slice q2 L.length c2] 24)); clear ho2 hb2 a0 a1 a2 CO)
    | (go_at_call 17; refine Calls.mono (CS _ _ _) ?_; rintro e w3 ⟨rfl, hb3⟩; have B73 := hidOg (B7.out.to hb3); obtain ⟨y0, y1, y2⟩ := B73.out.cells; have HB3 := hidOg (HB2.out.to hb3); clear hb3 B7 CS HB2)
    | (go_at_call_has 27 pv; refine Calls.mono (CT1 _ _ _ B73.out.r B73.out.m HB3.out) ?_; rintro e w4 ⟨q4, c4, rfl, ho4, hb4⟩; have B8 := hidOg (BC.new (wd := (W : Int)) (rs := (R : Int)) ho4.row ho4.cm); have B74 := hidOg ((B73.out.to hb4).to (bal w4 (.cells #[.int .i64 (W : Int), .int .i64 (R : Int), .slice q4 L'.length c4] 24))); have HB4 := hidOg ((HB3.out.to hb4).al (.cells #[.int .i64 (W : Int), .int .i64 (R : Int), .slice q4 L'.length c4] 24)); clear ho4 hb4 y0 y1 y2 B73 HB3 CT1)
    | (go_at_call_has 23 q4; refine Calls.mono (CG8 _ _ _ B8.out.r B8.out.m) ?_; rintro e w5 ⟨q5, c5, rfl, ho5, hb5⟩; have B85 := hidOg (B8.out.to hb5); have B75 := hidOg (B74.out.to hb5); obtain ⟨y0, y1, y2⟩ := B75.out.cells; have HB5 := hidOg (HB4.out.to hb5); have R5 := hidOg ho5.row; clear ho5 hb5 B8 B74 HB4 CG8)
    | (go_at_call_has 23 q2; refine Calls.mono (CG7 _ _ _ B75.out.r B75.out.m) ?_; rintro e w6 ⟨q6, c6, rfl, ho6, hb6⟩; have B86 := hidOg (B85.out.to hb6); have B76 := hidOg (B75.out.to hb6); obtain ⟨x0, x1, x2⟩ := B86.out.cells; have HB6 := hidOg (HB5.out.to hb6); have R56 := hidOg (R5.out.to hb6); have R6 := hidOg ho6.row; clear ho6 hb6 B85 B75 HB5 R5 CG7 y0 y1 y2)
    | (go_at_call_has 27 q6; refine Calls.mono (CT2 _ _ _ _ _ B86.out.r B86.out.m R6.out.i) ?_; rintro e w7 ⟨q7, c7, rfl, ho7, hb7⟩; have BA := hidOg (BC.new (wd := (W : Int)) (rs := (R : Int)) ho7.row ho7.cm); have hx7 := bal w7 (.cells #[.int .i64 (W : Int), .int .i64 (R : Int), .slice q7 L.length c7] 24); have B87 := hidOg ((B86.out.to hb7).to hx7); have B77 := hidOg ((B76.out.to hb7).to hx7); have HB7 := hidOg ((HB6.out.to hb7).al (.cells #[.int .i64 (W : Int), .int .i64 (R : Int), .slice q7 L.length c7] 24)); have R57 := hidOg ((R56.out.to hb7).to hx7); clear ho7 hb7 hx7 B86 B76 HB6 R56 R6 CT2 x0 x1 x2)
    | (go_at_call 21; refine Calls.mono (CE _ _ _ R57.out.i HB7.out) ?_; rintro e w8 ⟨rfl, hb8⟩; have BA8 := hidOg (BA.out.to hb8); have B88 := hidOg (B87.out.to hb8); have B78 := hidOg (B77.out.to hb8); obtain ⟨y0, y1, y2⟩ := B78.out.cells; obtain ⟨z0, z1, z2⟩ := BA8.out.cells; have HB8 := hidOg (HB7.out.to hb8); clear hb8 BA B87 B77 HB7 R57 CE)
    | (go_at_call 13; refine Calls.mono (CM _ _ _ _ _ BA8.out.r B78.out.r) ?_; rintro e w9 ⟨rfl, hb9⟩; have B89 := hidOg (B88.out.to hb9); have B79 := hidOg (B78.out.to hb9); have HB9 := hidOg (HB8.out.to hb9); clear hb9 BA8 B88 B78 HB8 CM y0 y1 y2 z0 z1 z2))
  have KS : Hid (∀ X, Below w9.heap.size w9 X → (BC w2.heap.size (W : Int) (R : Int) q2 L c2 X ∧ BC w4.heap.size (W : Int) (R : Int) q4 L' c4 X ∧ Be w.heap.size w X) ∧ X.cell? ⟨w2.heap.size, 0, none⟩ = some (.int .i64 (W : Int)) ∧ X.cell? ⟨w2.heap.size, 1, none⟩ = some (.int .i64 (R : Int)) ∧ X.cell? ⟨w2.heap.size, 2, none⟩ = some (.slice q2 L.length c2) ∧ X.cell? ⟨w4.heap.size, 0, none⟩ = some (.int .i64 (W : Int)) ∧ X.cell? ⟨w4.heap.size, 1, none⟩ = some (.int .i64 (R : Int)) ∧ X.cell? ⟨w4.heap.size, 2, none⟩ = some (.slice q4 L'.length c4)) := fun X hb => by
    obtain ⟨s0, s1, s2⟩ := (B79.out.to hb).cells
    obtain ⟨t0, t1, t2⟩ := (B89.out.to hb).cells
    exact ⟨⟨B79.out.to hb, B89.out.to hb, HB9.out.to hb⟩, s0, s1, s2, t0, t1, t2⟩
  have HZ0 : Hid (Below w9.heap.size w9 w9.drew) := (Below.refl _ _).drew
  obtain ⟨_, s0, s1, s2, t0, t1, t2⟩ := KS.out _ (Below.refl _ _)
  clear B79 B89 HB9
  go_region_held3 (fun w' => w'.cell? ⟨w2.heap.size, 0, none⟩ = some (.int .i64 (W : Int)) ∧ w'.cell? ⟨w2.heap.size, 1, none⟩ = some (.int .i64 (R : Int)) ∧ w'.cell? ⟨w2.heap.size, 2, none⟩ = some (.slice q2 L.length c2) ∧ w'.cell? ⟨w4.heap.size, 0, none⟩ = some (.int .i64 (W : Int)) ∧ w'.cell? ⟨w4.heap.size, 1, none⟩ = some (.int .i64 (R : Int)) ∧ w'.cell? ⟨w4.heap.size, 2, none⟩ = some (.slice q4 L'.length c4)) (first | with_reducible exact ⟨k0, k1, k2, k3, k4, k5⟩ | go_keep) (first
    | (go_at_call_has 20 q2; refine Calls.mono (CR7 _ _ _ (KS.out _ HZ0.out).1.1.r (KS.out _ HZ0.out).1.1.m) ?_; rintro e v1 ⟨qa, ca, XA, rfl, hXA, hRA, hb⟩; have HZ1 := hidOg (HZ0.out.trans (hb.mono HZ0.out.size)); have HXA := hidOg hXA; have HRA := hidOg hRA; obtain ⟨_, k0, k1, k2, k3, k4, k5⟩ := KS.out _ HZ1.out; clear hb hXA hRA)
    | (go_at_call_has 20 q4; refine Calls.mono (CR8 _ _ _ (KS.out _ HZ1.out).1.2.1.r (KS.out _ HZ1.out).1.2.1.m) ?_; rintro e v2 ⟨qb, cb, XB, rfl, hXB, hRB, hb⟩; have HZ2 := hidOg (HZ1.out.trans (hb.mono HZ1.out.size)); have HXB := hidOg hXB; have HRB := hidOg hRB; have HRA2 := hidOg (HRA.out.to hb); obtain ⟨_, k0, k1, k2, k3, k4, k5⟩ := KS.out _ HZ2.out; clear hb hXB hRB))
  have hXl : XA.length = R := by rw [← lS_len, HXA.out, HAl.out]
  have hYl : XB.length = R := by rw [← lS_len, HXB.out, List.length_set, HAl.out]
  have VA := hidOg HRA2.out.row
  have VB := hidOg HRB.out.row
  have KW : Hid (Be w.heap.size w v2) := (KS.out _ HZ2.out).1.2.2
  have HNE : Hid (∀ k, k < R → k ≠ r → rL XA k = rL XB k) := fun k hk hne => rows_ne HXA.out HXB.out (by omega) (by omega) hne
  have HLE : Hid (∀ k, k < R → (rL XA k).length ≤ 1000) := fun k hk => by
    refine HAm.out _ ?_
    rw [← HXA.out, ← lS_at (by omega : k < XA.length)]
    exact List.getElem_mem _
  have HXl := hidOg hXl
  have HYl := hidOg hYl
  rw [hXl, hYl]
  have hR200 := HR2.out
  clear HRA HRA2 HRB HZ0 HZ1 HZ2 KS HXA HXB HAm HAl CR7 CR8 k0 k1 k2 k3 k4 k5 s0 s1 s2 t0 t1 t2 hXl hYl
  go_wp2
  go_loopw [85] (fun i wr => ∃ k : Nat, k ≤ R ∧ i = .int .i64 k ∧ Below v2.heap.size v2 wr) (fun i _ => R - (intOf i).toNat)
  case atStart => exact ⟨0, Nat.zero_le _, rfl, Below.refl _ _⟩
  case round =>
    obtain ⟨k, hk, rfl, hB⟩ := hrel
    have HB := hidOg hB
    clear hB
    by_cases hlt : k < R
    · by_cases hkr : k = r
      · subst hkr
        have hd : ((k : Int) != (k : Int)) = false := by simp
        go_wp2
        go_region
        all_goals
          go_wp2
          go_roundw
          case rel => exact ⟨k + 1, by omega, by go_num, HB.out.drew⟩
          case measure => simp [intOf]; omega
      · have hd : ((k : Int) != (r : Int)) = true := by simp; omega
        obtain ⟨b, off, rfl, hbN, hcs⟩ := (VA.out.to HB.out) (by rw [HXl.out]; omega)
        obtain ⟨b', off', rfl, hbN', hcs'⟩ := (VB.out.to HB.out) (by rw [HYl.out]; omega)
        obtain ⟨c0, hI⟩ := hcs k (by rw [HXl.out]; exact hlt)
        obtain ⟨c0', hI'⟩ := hcs' k (by rw [HYl.out]; exact hlt)
        have CE := fun (X : World) (hb : Below wr.heap.size wr X) => equal21 (rP XA k) (rL XA k) (rC XA k) (rP XB k) (rL XB k) (rC XB k) X (hI.to hb) (hI'.to hb) (by have := HLE.out k hlt; omega)
        rw [← HNE.out k hlt hkr, samI_refl] at CE
        rw [← HNE.out k hlt hkr] at c0'
        have HD0 : Hid (Below wr.heap.size wr wr.drew) := (Below.refl _ _).drew
        have KK : Hid (∀ X, Below wr.heap.size wr X → X.cell? ⟨b, off + k, none⟩ = some (.slice (rP XA k) (rL XA k).length (rC XA k)) ∧ X.cell? ⟨b', off' + k, none⟩ = some (.slice (rP XB k) (rL XA k).length (rC XB k))) := fun X hb => ⟨(hb.cell (p := ⟨b, off + k, none⟩) hbN).trans c0, (hb.cell (p := ⟨b', off' + k, none⟩) hbN').trans c0'⟩
        clear hI hI' hcs hcs'
        go_wp2
        go_region_held3 (fun w' => w'.cell? ⟨b, off + k, none⟩ = some (.slice (rP XA k) (rL XA k).length (rC XA k)) ∧ w'.cell? ⟨b', off' + k, none⟩ = some (.slice (rP XB k) (rL XA k).length (rC XB k))) (first | with_reducible exact ⟨k0, k1⟩ | go_keep) (first
          | (go_at_call 21; refine Calls.mono (CE _ HD0.out) ?_; rintro e v3 ⟨rfl, hb3⟩; have HB3 := hidOg (HD0.out.trans (hb3.mono HD0.out.size)); obtain ⟨k0, k1⟩ := KK.out _ HB3.out; clear hb3))
        all_goals
          go_wp2
          go_roundw
          case rel => exact ⟨k + 1, by omega, by go_num, HB.out.trans (HB3.out.mono HB.out.size)⟩
          case measure => simp [intOf]; omega
    · obtain rfl : k = R := by omega
      go_wp2
      go_ret
      exact ⟨rfl, (KW.out.to HB.out).b⟩
theorem sets_walk (wd rs : Int) (p : Option Addr) (l : List Int) (c : Nat) (row : Int) (pv : Option Addr) (v : List Int) (d : Nat) (w : World) (h : InR w p l c) (hv : InR w pv v d) :
    Calls Try.prog 8 #[.agg #[.int .i64 wd, .int .i64 rs, .slice p l.length c], .int .i64 row, .slice pv v.length d] w fun e w' => e = .returned (.bool true) ∧ Below w.heap.size w w' := by
  cases hs : smB wd rs (l.take 60).length
  · exact sets_small wd rs p l c row pv v d w h hs
  · by_cases hn : (tA wd rs (l.take 60) row v).2 = 0
    · obtain ⟨W, R, r, rfl, rfl, rfl, hr, hm, hl, hvl, ht⟩ := set_yes hn
      exact sets_yes W R r p l c pv v d w h hv.i hs hr hm hl hvl ht
    · exact sets_no wd rs p l c row pv v d w h hv.i hs hn
end Go.Proofs.Ytkbikngkhaeakaa
