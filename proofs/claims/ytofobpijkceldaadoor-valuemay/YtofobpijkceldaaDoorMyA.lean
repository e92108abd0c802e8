/- ValueMay: its walk. -/
import Derived.Test.YtofobpijkceldaaDoorLaV
import Derived.Test.YtofobpijkceldaaDoorBaA
namespace Go.Proofs.YtofobpijkceldaaDoor
open Go.RowKit Go.Shelf

/-- What the walk keeps. -/
structure Tw (w W : World) : Prop where
  t : Tb W
  bel : Below w.heap.size w W
theorem Tw.to {w W W' : World} (h : Tw w W) (hb : Below W.heap.size W W') : Tw w W' := ⟨h.t.to hb, h.bel.trans (hb.mono h.bel.size)⟩

set_option maxRecDepth 100000 in
set_option maxHeartbeats 8000000 in
theorem may_walk (p : Option Addr) (R : List RR) (c : Nat) (q : Option Addr) (N : List Int) (d : Nat) (w : World) (hT : Tb w) (hv : VRow w.heap.size w p R) (ht : IRow .i64 w.heap.size w q N) (lR : R.length ≤ maxLen) (lN : N.length ≤ maxLen) :
    Calls Tryd.prog 3 #[.slice p R.length c, .slice q N.length d] w fun e w' => e = .returned (.bool true) ∧ Below w.heap.size w w' := by
  unfold maxLen at lR lN
  have CK := wakes9 w hT
  have HV := hidOg hv
  have HX := hidOg ht
  have H0 := hidOg (show Tw w w from ⟨hT, Below.refl _ _⟩)
  clear hv ht hT
  obtain ⟨nR, hnR⟩ : ∃ n, n = R.length := ⟨_, rfl⟩
  obtain ⟨nN, hnN⟩ : ∃ n, n = N.length := ⟨_, rfl⟩
  have HNR := hidOg hnR
  have HNN := hidOg hnN
  rw [← hnR] at lR ⊢
  rw [← hnN] at lN ⊢
  clear hnR hnN
  go_enter Tryd.func3, Tryd.ntmps3
  go_wp2_with (first | (go_at_call 9; refine Calls.mono CK ?_; rintro e w1 ⟨rfl, hb⟩; have H1 := hidOg (H0.out.to hb); clear hb))
  go_loopw [22] (fun ui wr => ∃ k : Nat, k ≤ nR ∧ ui = .int .i64 k ∧ Tw w wr) (fun ui _ => nR - (intOf ui).toNat)
  case atStart => exact ⟨0, Nat.zero_le _, rfl, H1.out⟩
  case round =>
    obtain ⟨k, hk, rfl, hW⟩ := hrel
    have H := hidOg hW
    clear hW H1
    by_cases hlt : k < nR
    · obtain ⟨b, off, rfl, hbB, hcs⟩ := (HV.out.to H.out.bel) (by have := HNR.out; omega)
      obtain ⟨c0, hin⟩ := hcs k (by have := HNR.out; omega)
      have HIn0 := hidOg hin
      clear hcs hin
      by_cases h6 : k = 6
      · have h6' : ((k : Int) == 6) = true := by rw [beq_iff_eq]; omega
        clear h6 HIn0
        go_wp2
        go_loopw [87] (fun ui wr => ∃ j : Nat, j ≤ nN ∧ ui = .int .i64 j ∧ Tw w wr) (fun ui _ => nN - (intOf ui).toNat)
        case atStart => exact ⟨0, Nat.zero_le _, rfl, H.out⟩
        case round =>
          obtain ⟨j, hj, rfl, hW⟩ := hrel
          have H2 := hidOg hW
          clear hW H
          by_cases hjt : j < nN
          · obtain ⟨b2, off2, rfl, hbB2, hcs⟩ := (HX.out.to H2.out.bel) (by have := HNN.out; omega)
            have c2 := hcs j (by have := HNN.out; omega)
            clear hcs
            by_cases h8 : j = 8
            · have h8' : ((j : Int) == 8) = true := by rw [beq_iff_eq]; omega
              clear h8
              go_wp2
              go_ret
              exact ⟨rfl, H2.out.bel⟩
            · have h8' : ((j : Int) == 8) = false := by rw [beq_eq_false_iff_ne]; omega
              clear h8
              obtain ⟨n, hn⟩ : ∃ n, n = iG N j := ⟨_, rfl⟩
              rw [← hn] at c2
              have CZ := fun (W : World) => zero18 n W
              obtain ⟨lq, hlq⟩ : ∃ lq, lq = zerL n := ⟨_, rfl⟩
              have hsm := samI_refl lq
              have hl4 : lq.length ≤ 4 := by
                rw [hlq]; unfold zerL
                cases h : isW n
                · simp
                · have := isW_t h; simp; omega
              cases hg : isW n
              · have e1 : zerE n = 2 := by unfold zerE; rw [hg]; rfl
                have e2 : lq = [] := by rw [hlq]; unfold zerL; rw [hg]; rfl
                rw [← hlq, e1, e2] at CZ
                have hsm2 := samI_refl ([] : List Int)
                have hn' := isW_f hg
                clear hg e1 e2 hlq hn hsm hl4
                by_cases hn0 : (0 : Int) ≤ n
                · have hn4 : ¬ (n ≤ 4) := by omega
                  clear hn'
                  go_wp2_with (first
                    | (go_at_call 18; refine Calls.mono (CZ _) ?_; rintro e w6 ⟨q6, c6, rfl, ho, hb⟩; have H2 := hidOg (H2.out.to hb); clear hb ho)
                    | (go_at_call 17; refine Calls.mono (equal17 _ [] _ _ [] _ _ IRow.nil IRow.nil (by simp)) ?_; rintro e w8 ⟨rfl, hb⟩; have H2 := hidOg (H2.out.to hb); clear hb))
                  go_roundw
                  case rel => exact ⟨j + 1, by omega, by go_num, H2.out⟩
                  case measure => simp [intOf]; omega
                · clear hn'
                  go_wp2_with (first
                    | (go_at_call 18; refine Calls.mono (CZ _) ?_; rintro e w6 ⟨q6, c6, rfl, ho, hb⟩; have H2 := hidOg (H2.out.to hb); clear hb ho)
                    | (go_at_call 17; refine Calls.mono (equal17 _ [] _ _ [] _ _ IRow.nil IRow.nil (by simp)) ?_; rintro e w8 ⟨rfl, hb⟩; have H2 := hidOg (H2.out.to hb); clear hb))
                  go_roundw
                  case rel => exact ⟨j + 1, by omega, by go_num, H2.out⟩
                  case measure => simp [intOf]; omega
              · have e1 : zerE n = 0 := by unfold zerE; rw [hg]; rfl
                have CF := fun (W : World) => refZero19 n W hg
                obtain ⟨hn0, hn4⟩ := isW_t hg
                rw [e1] at CZ
                simp only [← hlq] at CZ CF
                clear hg e1 hlq hn
                go_wp2_with (first
                  | (go_at_call 18; refine Calls.mono (CZ _) ?_; rintro e w6 ⟨q6, c6, rfl, ho, hb⟩; have HO6 := hidOg ho; have H2 := hidOg (H2.out.to hb); clear hb ho)
                  | (go_at_call 19; refine Calls.mono (CF _) ?_; rintro e w7 ⟨q7, c7, rfl, ho, hb⟩; have HO7 := hidOg ho; have HO6 := hidOg (HO6.out.to hb); have H2 := hidOg (H2.out.to hb); clear hb ho)
                  | (go_at_call 17; refine Calls.mono (equal17 _ _ _ _ _ _ _ HO6.out.row.i HO7.out.row.i (by omega)) ?_; rintro e w8 ⟨rfl, hb⟩; have H2 := hidOg (H2.out.to hb); clear hb))
                go_roundw
                case rel => exact ⟨j + 1, by omega, by go_num, H2.out⟩
                case measure => simp [intOf]; omega
          · go_wp2
            go_ret
            exact ⟨rfl, H2.out.bel⟩
      · have h6' : ((k : Int) == 6) = false := by rw [beq_eq_false_iff_ne]; omega
        clear h6
        have HIn : Hid (InR w (rP R k) (rL R k) (rC R k)) := by
          obtain ⟨b9, off9, _, _, hc9⟩ := HV.out (by have := HNR.out; omega)
          exact (hc9 k (by have := HNR.out; omega)).2
        clear HIn0
        obtain ⟨px, hpx⟩ : ∃ x, x = rP R k := ⟨_, rfl⟩
        obtain ⟨lx, hlx⟩ : ∃ x, x = rL R k := ⟨_, rfl⟩
        obtain ⟨cx, hcx⟩ : ∃ x, x = rC R k := ⟨_, rfl⟩
        rw [← hpx, ← hlx, ← hcx] at c0 HIn
        have CA := fun (W : World) (h : InR W px lx cx) => own10r px lx cx W h
        obtain ⟨la, hla⟩ : ∃ la, la = lx.take 8 := ⟨_, rfl⟩
        rw [← hla] at CA
        have hla8 : la.length ≤ 8 := by rw [hla]; simp; omega
        have hsm := samI_refl la
        have CR := fun (W : World) (q : Option Addr) (d : Nat) => right11 q la.length d W
        have CC := fun (W : World) (q : Option Addr) (d : Nat) => check12 q la.length d W
        clear hpx hlx hcx hla
        cases hg : isW la.length
        · have e1 : chkE la.length = 140 := by unfold chkE; rw [hg]; rfl
          rw [hg] at CR
          simp only [e1] at CC
          clear hg e1
          go_wp2_with (first
            | (go_at_call 10; refine Calls.mono (CA _ (HIn.out.to H.out.bel)) ?_; rintro e w2 ⟨qa, ca, rfl, ho, hb⟩; have HB := hidOg (show Bk w w2 qa la ca from ⟨ho.weak H.out.bel.size, H.out.t.to hb, H.out.bel.trans (hb.mono H.out.bel.size)⟩); clear hb ho)
            | (go_at_call 11; refine Calls.mono (CR _ _ _) ?_; rintro e w4 ⟨rfl, hw⟩; rw [hw]; clear hw w4)
            | (go_at_call 12; refine Calls.mono (CC _ _ _) ?_; rintro e w4 ⟨rfl, hw⟩; rw [hw]; clear hw w4))
          go_loopw [49] (fun ui wx => ∃ j : Nat, j ≤ nR ∧ ui = .int .i64 j ∧ Bk w wx qa la ca) (fun ui _ => nR - (intOf ui).toNat)
          case atStart => exact ⟨0, Nat.zero_le _, rfl, HB.out⟩
          case round =>
            obtain ⟨j, hj, rfl, hW⟩ := hrel
            have HB := hidOg hW
            clear hW
            by_cases hjr : j < nR
            · obtain ⟨b3, off3, e3, hbB3, hcs⟩ := (HV.out.to HB.out.bel) (by have := HNR.out; omega)
              obtain ⟨c3, hin⟩ := hcs j (by have := HNR.out; omega)
              obtain ⟨rfl, rfl⟩ : b = b3 ∧ off = off3 := by cases e3; exact ⟨rfl, rfl⟩
              have HIy := hidOg hin
              clear hcs hin e3
              obtain ⟨py, hpy⟩ : ∃ x, x = rP R j := ⟨_, rfl⟩
              obtain ⟨ly, hly⟩ : ∃ x, x = rL R j := ⟨_, rfl⟩
              obtain ⟨cy, hcy⟩ : ∃ x, x = rC R j := ⟨_, rfl⟩
              rw [← hpy, ← hly, ← hcy] at c3 HIy
              have CB := fun (W : World) (h : InR W py ly cy) => own10r py ly cy W h
              obtain ⟨lb, hlb⟩ : ∃ lb, lb = ly.take 8 := ⟨_, rfl⟩
              rw [← hlb] at CB
              have hlb8 : lb.length ≤ 8 := by rw [hlb]; simp; omega
              clear hpy hly hcy hlb
              by_cases hj6 : j < 6
              · have hj6' : (j : Int) < 6 := by omega
                go_wp2_with (first
                  | (go_at_call 10; refine Calls.mono (CB _ HIy.out) ?_; rintro e w9 ⟨qb, cb, rfl, ho, hb⟩; have HOb := hidOg ho; have HIy := hidOg (HIy.out.to hb); have HB := hidOg (HB.out.to hb); clear hb ho)
                  | (go_at_call 13; refine Calls.mono (compare13 _ _ _ _ _ _ _ HB.out.a.row.i HOb.out.row.i (by omega) (by omega)) ?_; rintro e w10 ⟨rfl, hw⟩; rw [hw]; clear hw w10)
                  | (go_at_call 14; refine Calls.mono (refCompare14 _ _ _ _ _ _ _ HB.out.a.row.i HOb.out.row.i (by omega) (by omega)) ?_; rintro e w10 ⟨rfl, hw⟩; rw [hw]; clear hw w10)
                  | (go_at_call 15; refine Calls.mono (same15 _ _ _ _ _ _ _ HB.out.a.row.i HOb.out.row.i (by omega)) ?_; rintro e w11 ⟨rfl, hb⟩; have HIy := hidOg (HIy.out.to hb); have HB := hidOg (HB.out.to hb); clear hb)
                  | (go_at_call 16; refine Calls.mono (refSame16 _ _ _ _ _ _ _ HB.out.a.row.i HOb.out.row.i (by omega) (by omega)) ?_; rintro e w10 ⟨rfl, hw⟩; rw [hw]; clear hw w10))
                go_roundw
                case rel => exact ⟨j + 1, by omega, by go_num, HB.out⟩
                case measure => simp [intOf]; omega
              · have hj6' : ¬ ((j : Int) < 6) := by omega
                go_wp2
                go_roundw
                case rel => exact ⟨j + 1, by omega, by go_num, HB.out⟩
                case measure => simp [intOf]; omega
            · go_wp2_with (first
                | (go_at_call 10; refine Calls.mono (CA _ (HIn.out.to HB.out.bel)) ?_; rintro e w12 ⟨qc, cc, rfl, ho, hb⟩; have HOc := hidOg ho; have HB := hidOg (HB.out.to hb); clear hb ho)
                | (go_at_call 17; refine Calls.mono (equal17 _ _ _ _ _ _ _ HB.out.a.row.i HOc.out.row.i (by omega)) ?_; rintro e w13 ⟨rfl, hb⟩; have HB := hidOg (HB.out.to hb); clear hb))
              go_roundw
              case rel => exact ⟨k + 1, by omega, by go_num, ⟨HB.out.t, HB.out.bel⟩⟩
              case measure => simp [intOf]; omega
        · have e1 : chkE la.length = 0 := by unfold chkE; rw [hg]; rfl
          rw [hg] at CR
          simp only [e1] at CC
          clear hg e1
          go_wp2_with (first
            | (go_at_call 10; refine Calls.mono (CA _ (HIn.out.to H.out.bel)) ?_; rintro e w2 ⟨qa, ca, rfl, ho, hb⟩; have HB := hidOg (show Bk w w2 qa la ca from ⟨ho.weak H.out.bel.size, H.out.t.to hb, H.out.bel.trans (hb.mono H.out.bel.size)⟩); clear hb ho)
            | (go_at_call 11; refine Calls.mono (CR _ _ _) ?_; rintro e w4 ⟨rfl, hw⟩; rw [hw]; clear hw w4)
            | (go_at_call 12; refine Calls.mono (CC _ _ _) ?_; rintro e w4 ⟨rfl, hw⟩; rw [hw]; clear hw w4))
          go_loopw [49] (fun ui wx => ∃ j : Nat, j ≤ nR ∧ ui = .int .i64 j ∧ Bk w wx qa la ca) (fun ui _ => nR - (intOf ui).toNat)
          case atStart => exact ⟨0, Nat.zero_le _, rfl, HB.out⟩
          case round =>
            obtain ⟨j, hj, rfl, hW⟩ := hrel
            have HB := hidOg hW
            clear hW
            by_cases hjr : j < nR
            · obtain ⟨b3, off3, e3, hbB3, hcs⟩ := (HV.out.to HB.out.bel) (by have := HNR.out; omega)
              obtain ⟨c3, hin⟩ := hcs j (by have := HNR.out; omega)
              obtain ⟨rfl, rfl⟩ : b = b3 ∧ off = off3 := by cases e3; exact ⟨rfl, rfl⟩
              have HIy := hidOg hin
              clear hcs hin e3
              obtain ⟨py, hpy⟩ : ∃ x, x = rP R j := ⟨_, rfl⟩
              obtain ⟨ly, hly⟩ : ∃ x, x = rL R j := ⟨_, rfl⟩
              obtain ⟨cy, hcy⟩ : ∃ x, x = rC R j := ⟨_, rfl⟩
              rw [← hpy, ← hly, ← hcy] at c3 HIy
              have CB := fun (W : World) (h : InR W py ly cy) => own10r py ly cy W h
              obtain ⟨lb, hlb⟩ : ∃ lb, lb = ly.take 8 := ⟨_, rfl⟩
              rw [← hlb] at CB
              have hlb8 : lb.length ≤ 8 := by rw [hlb]; simp; omega
              clear hpy hly hcy hlb
              by_cases hj6 : j < 6
              · have hj6' : (j : Int) < 6 := by omega
                go_wp2_with (first
                  | (go_at_call 10; refine Calls.mono (CB _ HIy.out) ?_; rintro e w9 ⟨qb, cb, rfl, ho, hb⟩; have HOb := hidOg ho; have HIy := hidOg (HIy.out.to hb); have HB := hidOg (HB.out.to hb); clear hb ho)
                  | (go_at_call 13; refine Calls.mono (compare13 _ _ _ _ _ _ _ HB.out.a.row.i HOb.out.row.i (by omega) (by omega)) ?_; rintro e w10 ⟨rfl, hw⟩; rw [hw]; clear hw w10)
                  | (go_at_call 14; refine Calls.mono (refCompare14 _ _ _ _ _ _ _ HB.out.a.row.i HOb.out.row.i (by omega) (by omega)) ?_; rintro e w10 ⟨rfl, hw⟩; rw [hw]; clear hw w10)
                  | (go_at_call 15; refine Calls.mono (same15 _ _ _ _ _ _ _ HB.out.a.row.i HOb.out.row.i (by omega)) ?_; rintro e w11 ⟨rfl, hb⟩; have HIy := hidOg (HIy.out.to hb); have HB := hidOg (HB.out.to hb); clear hb)
                  | (go_at_call 16; refine Calls.mono (refSame16 _ _ _ _ _ _ _ HB.out.a.row.i HOb.out.row.i (by omega) (by omega)) ?_; rintro e w10 ⟨rfl, hw⟩; rw [hw]; clear hw w10))
                go_roundw
                case rel => exact ⟨j + 1, by omega, by go_num, HB.out⟩
                case measure => simp [intOf]; omega
              · have hj6' : ¬ ((j : Int) < 6) := by omega
                go_wp2
                go_roundw
                case rel => exact ⟨j + 1, by omega, by go_num, HB.out⟩
                case measure => simp [intOf]; omega
            · go_wp2_with (first
                | (go_at_call 10; refine Calls.mono (CA _ (HIn.out.to HB.out.bel)) ?_; rintro e w12 ⟨qc, cc, rfl, ho, hb⟩; have HOc := hidOg ho; have HB := hidOg (HB.out.to hb); clear hb ho)
                | (go_at_call 17; refine Calls.mono (equal17 _ _ _ _ _ _ _ HB.out.a.row.i HOc.out.row.i (by omega)) ?_; rintro e w13 ⟨rfl, hb⟩; have HB := hidOg (HB.out.to hb); clear hb))
              go_roundw
              case rel => exact ⟨k + 1, by omega, by go_num, ⟨HB.out.t, HB.out.bel⟩⟩
              case measure => simp [intOf]; omega
    · go_wp2
      go_loopw [87] (fun ui wr => ∃ j : Nat, j ≤ nN ∧ ui = .int .i64 j ∧ Tw w wr) (fun ui _ => nN - (intOf ui).toNat)
      case atStart => exact ⟨0, Nat.zero_le _, rfl, H.out⟩
      case round =>
        obtain ⟨j, hj, rfl, hW⟩ := hrel
        have H2 := hidOg hW
        clear hW H
        by_cases hjt : j < nN
        · obtain ⟨b2, off2, rfl, hbB2, hcs⟩ := (HX.out.to H2.out.bel) (by have := HNN.out; omega)
          have c2 := hcs j (by have := HNN.out; omega)
          clear hcs
          by_cases h8 : j = 8
          · have h8' : ((j : Int) == 8) = true := by rw [beq_iff_eq]; omega
            clear h8
            go_wp2
            go_ret
            exact ⟨rfl, H2.out.bel⟩
          · have h8' : ((j : Int) == 8) = false := by rw [beq_eq_false_iff_ne]; omega
            clear h8
            obtain ⟨n, hn⟩ : ∃ n, n = iG N j := ⟨_, rfl⟩
            rw [← hn] at c2
            have CZ := fun (W : World) => zero18 n W
            obtain ⟨lq, hlq⟩ : ∃ lq, lq = zerL n := ⟨_, rfl⟩
            have hsm := samI_refl lq
            have hl4 : lq.length ≤ 4 := by
              rw [hlq]; unfold zerL
              cases h : isW n
              · simp
              · have := isW_t h; simp; omega
            cases hg : isW n
            · have e1 : zerE n = 2 := by unfold zerE; rw [hg]; rfl
              have e2 : lq = [] := by rw [hlq]; unfold zerL; rw [hg]; rfl
              rw [← hlq, e1, e2] at CZ
              have hsm2 := samI_refl ([] : List Int)
              have hn' := isW_f hg
              clear hg e1 e2 hlq hn hsm hl4
              by_cases hn0 : (0 : Int) ≤ n
              · have hn4 : ¬ (n ≤ 4) := by omega
                clear hn'
                go_wp2_with (first
                  | (go_at_call 18; refine Calls.mono (CZ _) ?_; rintro e w6 ⟨q6, c6, rfl, ho, hb⟩; have H2 := hidOg (H2.out.to hb); clear hb ho)
                  | (go_at_call 17; refine Calls.mono (equal17 _ [] _ _ [] _ _ IRow.nil IRow.nil (by simp)) ?_; rintro e w8 ⟨rfl, hb⟩; have H2 := hidOg (H2.out.to hb); clear hb))
                go_roundw
                case rel => exact ⟨j + 1, by omega, by go_num, H2.out⟩
                case measure => simp [intOf]; omega
              · clear hn'
                go_wp2_with (first
                  | (go_at_call 18; refine Calls.mono (CZ _) ?_; rintro e w6 ⟨q6, c6, rfl, ho, hb⟩; have H2 := hidOg (H2.out.to hb); clear hb ho)
                  | (go_at_call 17; refine Calls.mono (equal17 _ [] _ _ [] _ _ IRow.nil IRow.nil (by simp)) ?_; rintro e w8 ⟨rfl, hb⟩; have H2 := hidOg (H2.out.to hb); clear hb))
                go_roundw
                case rel => exact ⟨j + 1, by omega, by go_num, H2.out⟩
                case measure => simp [intOf]; omega
            · have e1 : zerE n = 0 := by unfold zerE; rw [hg]; rfl
              have CF := fun (W : World) => refZero19 n W hg
              obtain ⟨hn0, hn4⟩ := isW_t hg
              rw [e1] at CZ
              simp only [← hlq] at CZ CF
              clear hg e1 hlq hn
              go_wp2_with (first
                | (go_at_call 18; refine Calls.mono (CZ _) ?_; rintro e w6 ⟨q6, c6, rfl, ho, hb⟩; have HO6 := hidOg ho; have H2 := hidOg (H2.out.to hb); clear hb ho)
                | (go_at_call 19; refine Calls.mono (CF _) ?_; rintro e w7 ⟨q7, c7, rfl, ho, hb⟩; have HO7 := hidOg ho; have HO6 := hidOg (HO6.out.to hb); have H2 := hidOg (H2.out.to hb); clear hb ho)
                | (go_at_call 17; refine Calls.mono (equal17 _ _ _ _ _ _ _ HO6.out.row.i HO7.out.row.i (by omega)) ?_; rintro e w8 ⟨rfl, hb⟩; have H2 := hidOg (H2.out.to hb); clear hb))
              go_roundw
              case rel => exact ⟨j + 1, by omega, by go_num, H2.out⟩
              case measure => simp [intOf]; omega
        · go_wp2
          go_ret
          exact ⟨rfl, H2.out.bel⟩
end Go.Proofs.YtofobpijkceldaaDoor
