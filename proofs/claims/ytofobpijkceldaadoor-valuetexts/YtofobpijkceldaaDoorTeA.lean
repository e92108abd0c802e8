/- ValueTexts: its walk. -/
import Derived.Test.YtofobpijkceldaaDoorLaV
import Derived.Test.YtofobpijkceldaaDoorReR
import Derived.Test.YtofobpijkceldaaDoorBaA
namespace Go.Proofs.YtofobpijkceldaaDoor
open Go.RowKit Go.Shelf

/-- What the walk keeps. -/
structure Tw (w W : World) : Prop where
  t : Tb W
  bel : Below w.heap.size w W
theorem Tw.to {w W W' : World} (h : Tw w W) (hb : Below W.heap.size W W') : Tw w W' := ⟨h.t.to hb, h.bel.trans (hb.mono h.bel.size)⟩

set_option maxRecDepth 100000 in
set_option maxHeartbeats 8000000 in
theorem texts_walk (p : Option Addr) (R : List RR) (c : Nat) (q : Option Addr) (T : List ByteArray) (d : Nat) (w : World) (hT : Tb w) (hv : VRow w.heap.size w p R) (ht : TRow w.heap.size w q T) (lR : R.length ≤ maxLen) (lT : T.length ≤ maxLen) :
    Calls Tryd.prog 4 #[.slice p R.length c, .slice q T.length d] w fun e w' => e = .returned (.bool true) ∧ Below w.heap.size w w' := by
  unfold maxLen at lR lT
  have CK := wakes9 w hT
  have HV := hidOg hv
  have HX := hidOg ht
  have H0 := hidOg (show Tw w w from ⟨hT, Below.refl _ _⟩)
  clear hv ht hT
  obtain ⟨nR, hnR⟩ : ∃ n, n = R.length := ⟨_, rfl⟩
  obtain ⟨nT, hnT⟩ : ∃ n, n = T.length := ⟨_, rfl⟩
  have HNR := hidOg hnR
  have HNT := hidOg hnT
  rw [← hnR] at lR ⊢
  rw [← hnT] at lT ⊢
  clear hnR hnT
  go_enter Tryd.func4, Tryd.ntmps4
  go_wp2_with (first | (go_at_call 9; refine Calls.mono CK ?_; rintro e w1 ⟨rfl, hb⟩; have H1 := hidOg (H0.out.to hb); clear hb))
  go_loopw [22] (fun ui wr => ∃ k : Nat, k ≤ nR ∧ ui = .int .i64 k ∧ Tw w wr) (fun ui _ => nR - (intOf ui).toNat)
  case atStart => exact ⟨0, Nat.zero_le _, rfl, H1.out⟩
  case round =>
    obtain ⟨k, hk, rfl, hW⟩ := hrel
    have H := hidOg hW
    clear hW H1
    by_cases hlt : k < nR
    · obtain ⟨b, off, rfl, hbB, hcs⟩ := (HV.out.to H.out.bel) (by have := HNR.out; omega)
      obtain ⟨c0, hin⟩ := hcs k (by have := HNR.out; omega)
      have HIn := hidOg hin
      clear hcs hin
      by_cases h8 : k = 8
      · have h8' : ((k : Int) == 8) = true := by rw [beq_iff_eq]; omega
        clear h8
        go_wp2
        go_loopw [51] (fun ui wr => ∃ j : Nat, j ≤ nT ∧ ui = .int .i64 j ∧ Tw w wr) (fun ui _ => nT - (intOf ui).toNat)
        case atStart => exact ⟨0, Nat.zero_le _, rfl, H.out⟩
        case round =>
          obtain ⟨j, hj, rfl, hW⟩ := hrel
          have H2 := hidOg hW
          clear hW H
          by_cases hjt : j < nT
          · obtain ⟨b2, off2, rfl, hbB2, hcs⟩ := (HX.out.to H2.out.bel) (by have := HNT.out; omega)
            obtain ⟨c2, hsz⟩ := hcs j (by have := HNT.out; omega)
            unfold maxLen at hsz
            clear hcs
            by_cases h12 : j = 12
            · have h12' : ((j : Int) == 12) = true := by rw [beq_iff_eq]; omega
              clear h12
              go_wp2
              go_ret
              exact ⟨rfl, H2.out.bel⟩
            · have h12' : ((j : Int) == 12) = false := by rw [beq_eq_false_iff_ne]; omega
              clear h12
              obtain ⟨s, hs⟩ : ∃ s, s = sG T j := ⟨_, rfl⟩
              rw [← hs] at c2 hsz
              obtain ⟨n, hn⟩ : ∃ n, n = min s.size 120 := ⟨_, rfl⟩
              have hn1 : (if (120 : Int) < (s.size : Int) then (120 : Int) else (s.size : Int)) = (n : Int) := by split <;> omega
              have hn2 : min (s.size : Int) 120 = (n : Int) := by omega
              have n0 : (0 : Int) ≤ (n : Int) := by omega
              have n1 : (n : Int) ≤ (s.size : Int) := by omega
              obtain ⟨t, ht⟩ : ∃ t, s.extract 0 n = t := ⟨_, rfl⟩
              have hts : t.size ≤ 120 := by rw [← ht]; simp; omega
              have CR := fun (W : World) => read22 t W (by omega)
              by_cases hr : rdE (bL t) = 0
              · have CF := fun (W : World) => refRead_yes t W (by omega) hr
                rw [hr] at CR
                obtain ⟨lv, hlv⟩ : ∃ lv, lv = rdV (bL t) := ⟨_, rfl⟩
                have hl4 : lv.length ≤ 4 := by
                  have := (isW_t (text_read t hr).2.2).2; rw [hlv]; omega
                have hsm := samI_refl lv
                simp only [← hlv] at CR CF
                clear hr hlv hn hs hts
                go_wp2_with (first
                  | (go_at_call 22; refine Calls.mono (CR _) ?_; rintro e w6 ⟨q6, c6, rfl, ho, hb⟩; have HO6 := hidOg ho; have H2 := hidOg (H2.out.to hb); clear hb ho)
                  | (go_at_call 23; refine Calls.mono (CF _) ?_; rintro e w7 ⟨q7, c7, rfl, ho, hb⟩; have HO7 := hidOg ho; have HO6 := hidOg (HO6.out.to hb); have H2 := hidOg (H2.out.to hb); clear hb ho)
                  | (go_at_call 17; refine Calls.mono (equal17 _ _ _ _ _ _ _ HO6.out.row.i HO7.out.row.i (by omega)) ?_; rintro e w8 ⟨rfl, hb⟩; have H2 := hidOg (H2.out.to hb); clear hb))
                go_roundw
                case rel => exact ⟨j + 1, by omega, by go_num, H2.out⟩
                case measure => simp [intOf]; omega
              · have CF := fun (W : World) => refRead_no t W (by omega) hr
                have f1 := read_no t hr
                rw [f1.1, f1.2] at CR
                have hsm := samI_refl ([] : List Int)
                clear hr f1 hn hs hts
                go_wp2_with (first
                  | (go_at_call 22; refine Calls.mono (CR _) ?_; rintro e w6 ⟨q6, c6, rfl, ho, hb⟩; have H2 := hidOg (H2.out.to hb); clear hb ho)
                  | (go_at_call 23; refine Calls.mono (CF _) ?_; rintro e w7 ⟨q7, m7, c7, rfl, hb⟩; have H2 := hidOg (H2.out.to hb); clear hb)
                  | (go_at_call 17; refine Calls.mono (equal17 _ [] _ _ [] _ _ IRow.nil IRow.nil (by simp)) ?_; rintro e w8 ⟨rfl, hb⟩; have H2 := hidOg (H2.out.to hb); clear hb))
                go_roundw
                case rel => exact ⟨j + 1, by omega, by go_num, H2.out⟩
                case measure => simp [intOf]; omega
          · go_wp2
            go_ret
            exact ⟨rfl, H2.out.bel⟩
      · have h8' : ((k : Int) == 8) = false := by rw [beq_eq_false_iff_ne]; omega
        clear h8
        obtain ⟨px, hpx⟩ : ∃ x, x = rP R k := ⟨_, rfl⟩
        obtain ⟨lx, hlx⟩ : ∃ x, x = rL R k := ⟨_, rfl⟩
        obtain ⟨cx, hcx⟩ : ∃ x, x = rC R k := ⟨_, rfl⟩
        rw [← hpx, ← hlx, ← hcx] at c0 HIn
        have CA := own10r px lx cx wr HIn.out
        have hU : U64 (lx.take 8) := HIn.out.u.take 8
        obtain ⟨la, hla⟩ : ∃ la, la = lx.take 8 := ⟨_, rfl⟩
        rw [← hla] at CA hU
        obtain ⟨T1, hT1⟩ : ∃ T1, T1 = txtV la := ⟨_, rfl⟩
        have CT := fun (W : World) (q : Option Addr) (d : Nat) (h : Bk w W q la d) => text20 q la d W h.t h.a.row.i hU
        have CR := fun (W : World) (q : Option Addr) (d : Nat) => right11 q la.length d W
        clear hpx hlx hcx hla
        cases hg : isW la.length
        · have e1 : txtE la = 140 := by unfold txtE; rw [hg]; rfl
          have e2 : txtV la = ⟨#[]⟩ := by unfold txtV; rw [hg]; rfl
          rw [e1, e2] at CT
          rw [hg] at CR
          clear hg e1 e2 hT1
          go_wp2_with (first
            | (go_at_call 10; refine Calls.mono CA ?_; rintro e w2 ⟨qa, ca, rfl, ho, hb⟩; have HB := hidOg (show Bk w w2 qa la ca from ⟨ho.weak H.out.bel.size, H.out.t.to hb, H.out.bel.trans (hb.mono H.out.bel.size)⟩); clear hb ho)
            | (go_at_call 20; refine Calls.mono (CT _ _ _ HB.out) ?_; rintro e w3 ⟨rfl, hb⟩; have HB := hidOg (HB.out.to hb); clear hb)
            | (go_at_call 11; refine Calls.mono (CR _ _ _) ?_; rintro e w4 ⟨rfl, hw⟩; rw [hw]; clear hw w4))
          go_roundw
          case rel => exact ⟨k + 1, by omega, by go_num, ⟨HB.out.t, HB.out.bel⟩⟩
          case measure => simp [intOf]; omega
        · have e1 : txtE la = 0 := by unfold txtE; rw [hg]; rfl
          have CRT := fun (W : World) (q : Option Addr) (d : Nat) (h : Bk w W q la d) => refText21 q la d W h.a.row.i hU hg
          rw [e1, ← hT1] at CT
          rw [← hT1] at CRT
          rw [hg] at CR
          have hbs := beq_self_bytes T1
          clear hg e1 hT1
          go_wp2_with (first
            | (go_at_call 10; refine Calls.mono CA ?_; rintro e w2 ⟨qa, ca, rfl, ho, hb⟩; have HB := hidOg (show Bk w w2 qa la ca from ⟨ho.weak H.out.bel.size, H.out.t.to hb, H.out.bel.trans (hb.mono H.out.bel.size)⟩); clear hb ho)
            | (go_at_call 20; refine Calls.mono (CT _ _ _ HB.out) ?_; rintro e w3 ⟨rfl, hb⟩; have HB := hidOg (HB.out.to hb); clear hb)
            | (go_at_call 11; refine Calls.mono (CR _ _ _) ?_; rintro e w4 ⟨rfl, hw⟩; rw [hw]; clear hw w4)
            | (go_at_call 21; refine Calls.mono (CRT _ _ _ HB.out) ?_; rintro e w5 ⟨rfl, hw⟩; rw [hw]; clear hw w5))
          go_roundw
          case rel => exact ⟨k + 1, by omega, by go_num, ⟨HB.out.t, HB.out.bel⟩⟩
          case measure => simp [intOf]; omega
    · go_wp2
      go_loopw [51] (fun ui wr => ∃ j : Nat, j ≤ nT ∧ ui = .int .i64 j ∧ Tw w wr) (fun ui _ => nT - (intOf ui).toNat)
      case atStart => exact ⟨0, Nat.zero_le _, rfl, H.out⟩
      case round =>
        obtain ⟨j, hj, rfl, hW⟩ := hrel
        have H2 := hidOg hW
        clear hW H
        by_cases hjt : j < nT
        · obtain ⟨b2, off2, rfl, hbB2, hcs⟩ := (HX.out.to H2.out.bel) (by have := HNT.out; omega)
          obtain ⟨c2, hsz⟩ := hcs j (by have := HNT.out; omega)
          unfold maxLen at hsz
          clear hcs
          by_cases h12 : j = 12
          · have h12' : ((j : Int) == 12) = true := by rw [beq_iff_eq]; omega
            clear h12
            go_wp2
            go_ret
            exact ⟨rfl, H2.out.bel⟩
          · have h12' : ((j : Int) == 12) = false := by rw [beq_eq_false_iff_ne]; omega
            clear h12
            obtain ⟨s, hs⟩ : ∃ s, s = sG T j := ⟨_, rfl⟩
            rw [← hs] at c2 hsz
            obtain ⟨n, hn⟩ : ∃ n, n = min s.size 120 := ⟨_, rfl⟩
            have hn1 : (if (120 : Int) < (s.size : Int) then (120 : Int) else (s.size : Int)) = (n : Int) := by split <;> omega
            have hn2 : min (s.size : Int) 120 = (n : Int) := by omega
            have n0 : (0 : Int) ≤ (n : Int) := by omega
            have n1 : (n : Int) ≤ (s.size : Int) := by omega
            obtain ⟨t, ht⟩ : ∃ t, s.extract 0 n = t := ⟨_, rfl⟩
            have hts : t.size ≤ 120 := by rw [← ht]; simp; omega
            have CR := fun (W : World) => read22 t W (by omega)
            by_cases hr : rdE (bL t) = 0
            · have CF := fun (W : World) => refRead_yes t W (by omega) hr
              rw [hr] at CR
              obtain ⟨lv, hlv⟩ : ∃ lv, lv = rdV (bL t) := ⟨_, rfl⟩
              have hl4 : lv.length ≤ 4 := by
                have := (isW_t (text_read t hr).2.2).2; rw [hlv]; omega
              have hsm := samI_refl lv
              simp only [← hlv] at CR CF
              clear hr hlv hn hs hts
              go_wp2_with (first
                | (go_at_call 22; refine Calls.mono (CR _) ?_; rintro e w6 ⟨q6, c6, rfl, ho, hb⟩; have HO6 := hidOg ho; have H2 := hidOg (H2.out.to hb); clear hb ho)
                | (go_at_call 23; refine Calls.mono (CF _) ?_; rintro e w7 ⟨q7, c7, rfl, ho, hb⟩; have HO7 := hidOg ho; have HO6 := hidOg (HO6.out.to hb); have H2 := hidOg (H2.out.to hb); clear hb ho)
                | (go_at_call 17; refine Calls.mono (equal17 _ _ _ _ _ _ _ HO6.out.row.i HO7.out.row.i (by omega)) ?_; rintro e w8 ⟨rfl, hb⟩; have H2 := hidOg (H2.out.to hb); clear hb))
              go_roundw
              case rel => exact ⟨j + 1, by omega, by go_num, H2.out⟩
              case measure => simp [intOf]; omega
            · have CF := fun (W : World) => refRead_no t W (by omega) hr
              have f1 := read_no t hr
              rw [f1.1, f1.2] at CR
              have hsm := samI_refl ([] : List Int)
              clear hr f1 hn hs hts
              go_wp2_with (first
                | (go_at_call 22; refine Calls.mono (CR _) ?_; rintro e w6 ⟨q6, c6, rfl, ho, hb⟩; have H2 := hidOg (H2.out.to hb); clear hb ho)
                | (go_at_call 23; refine Calls.mono (CF _) ?_; rintro e w7 ⟨q7, m7, c7, rfl, hb⟩; have H2 := hidOg (H2.out.to hb); clear hb)
                | (go_at_call 17; refine Calls.mono (equal17 _ [] _ _ [] _ _ IRow.nil IRow.nil (by simp)) ?_; rintro e w8 ⟨rfl, hb⟩; have H2 := hidOg (H2.out.to hb); clear hb))
              go_roundw
              case rel => exact ⟨j + 1, by omega, by go_num, H2.out⟩
              case measure => simp [intOf]; omega
        · go_wp2
          go_ret
          exact ⟨rfl, H2.out.bel⟩
end Go.Proofs.YtofobpijkceldaaDoor
