/- AllocLives: its walk. -/
import Derived.Test.YtaglhajlgnjhcaaDoorLvB
import Derived.BigQuiet
import Derived.Deep.QuietTactic
import Derived.Deep.DeepCutAuto
namespace Go.Proofs.YtaglhajlgnjhcaaDoor
open Go.RowKit Go.Maps

theorem most_ok (x : Int) : 1 ≤ wrap64 (1 + wrap64 ((IntKind.u64.wrap x).tmod 5)) ∧ wrap64 (1 + wrap64 ((IntKind.u64.wrap x).tmod 5)) ≤ 5 := by
  rw [Int.tmod_eq_emod_of_nonneg (wrap_u64_nonneg x)]; unfold wrap64; omega
theorem small_max {n : Nat} (h : n ≤ 1000) : n < maxLen := Nat.lt_of_le_of_lt h (by decide)
theorem row1 {W : World} {b : Nat} {y : Int} (h : W.heap[b]? = some (.cells #[.int .u64 y] 41 (0, 0))) : IRow .u64 W.heap.size W (some ⟨b, 0, none⟩) [y] := fun _ =>
  ⟨b, 0, rfl, (Array.getElem?_eq_some_iff.1 h).1, fun k hk => by
    obtain rfl : k = 0 := by simp at hk; omega
    simp [World.cell?, h, iG]⟩
theorem uPut_same (u : Int → Int) (x : Int) : uPut u x x = u x + 1 := by unfold uPut; rw [if_pos rfl]

set_option maxRecDepth 20000 in
set_option maxHeartbeats 8000000 in
theorem lives_walk (most : Int) (r : Option Addr) (ts : List Int) (ct : Nat) (w : World) (hF : Fr w) (hi : IRow .i64 w.heap.size w r ts) (hw : ∀ z ∈ ts, (Lit.int .i64 z).wf = true) :
    Calls Tryd.prog 6 #[.int .i64 most, .slice r ts.length ct] w fun e w' => e = .returned (.bool true) ∧ Below w.heap.size w w' := by
  have CW := wakes_any w hF
  have hmm := @run_makeMap Tryd.prog
  have HF := hidOv hF
  have HT := hidOv hi
  have HW := hidOv hw
  obtain ⟨N, hN⟩ : ∃ N, N = ts.length := ⟨_, rfl⟩
  have HN := hidOv hN
  rw [← hN]
  clear hF hi hw hN
  go_enter Tryd.func6, Tryd.ntmps6
  go_wp2_with (first
    | (go_at_call 9; with_reducible refine Calls.mono CW ?_; clear CW; rintro e w1 ⟨rfl, hb1⟩; have HB1 := hidOv hb1; clear hb1)
    | (go_at_call 15; with_reducible refine Calls.mono (new_L _ _ (HF.out.below HB1.out HF.out.lt) (most_ok _).1 (most_ok _).2) ?_; rintro e w2 ⟨m, G, ⟨m1, m5⟩, rfl, hin, hb2⟩; have HS := hidOv (LW.start (m := m) (c := 2) (d := 0) HF.out.lt hin (HB1.out.trans (hb2.mono HB1.out.size))); clear hin hb2))
  clear HB1 hmm
  go_loopw [37] (fun i wr => ∃ (x : Nat) (p : Option Addr) (l : List (Int × Bool)) (c : Nat) (q : Option Addr) (f : List Int) (d : Nat) (u : Int → Int) (t : Int → Bool), x ≤ N ∧ x ≤ 120 ∧ i = .int .i64 x ∧ LW w wr w2.heap.size m p l c q f d (w2.heap.size + 1 + 1) (w2.heap.size + 1) (2 * x) u t ∧ LInv l u t ∧ mayB m l f = true) (fun i _ => N - (intOf i).toNat)
  case atStart => exact ⟨0, _, _, _, _, _, _, _, _, Nat.zero_le _, Nat.zero_le _, rfl, HS.out, linv_new, may_L2 m1 m5⟩
  case round =>
    clear HS
    obtain ⟨x, p, l, c, q, f, d, u, t, hxN, hx120, rfl, hL, hI, hm⟩ := hrel
    have HL := hidOv hL
    have HI := hidOv hI
    have HM := hidOv hm
    obtain ⟨y0, y1, y2, yf, yl⟩ := hL.s3
    obtain ⟨k1, k2, k3, k4⟩ := mayB_most hm
    by_cases hend : x < N ∧ x < 120
    · obtain ⟨hx1, hx2⟩ := hend
      obtain ⟨b, off, rfl, hbB, hcs⟩ := HT.out (by have := HN.out; omega)
      have c0 := (hL.b.cell (p := ⟨b, off + x, none⟩) (by exact hbB)).trans (hcs x (by have := HN.out; omega))
      have HZ := hidOv (HW.out (iG ts x) (iG_mem' (by have := HN.out; omega)))
      obtain ⟨z, hz⟩ : ∃ z, z = iG ts x := ⟨_, rfl⟩
      rw [← hz] at c0 HZ
      clear hcs hz
      obtain ⟨n3, hn3⟩ : ∃ n3, n3 = (livN l l.length).length := ⟨_, rfl⟩
      have hn7 : n3 ≤ 7 := by have := livN_len l l.length; omega
      have hn2 : 2 ≤ n3 := by have := liv_two hm; omega
      have hf7 : f.length ≤ 7 := by have := (mayB_parts hm).2.2.1; have := usN_le l l.length; omega
      obtain ⟨rm, hrm⟩ : ∃ rm : Int, rm = f.length + m + 2 - l.length := ⟨_, rfl⟩
      have CA := all_L hm
      have CR := room_L hm
      simp only [← hn3] at CA
      simp only [← hrm] at CR
      have HN3 := hidOv hn3
      have HRM := hidOv hrm
      by_cases hz0 : 0 ≤ z
      · by_cases hroom : 0 < rm
        · obtain ⟨l', f', id, hN, CT⟩ := take_L hm (by omega)
          obtain ⟨⟨i0, i1⟩, hdead, hlive⟩ := hN.id hm
          obtain ⟨hN1, hN2, hN3⟩ := hN.len
          have hm' := hN.may hm
          obtain ⟨⟨x0, x1⟩, tx, ⟨u0, u7⟩, hI', hlen⟩ := hI.take hm hN
          rw [← hn3] at hlen
          have er : (f'.length : Int) + m + 2 - l'.length = rm - 1 := by omega
          have CD := alive_L hm hdead i0 i1
          have CL := alive_L hm' hlive i0 i1
          have CA' := all_L hm'
          have CR' := room_L hm'
          have CC := check_L hm'
          simp only [hlen] at CA'
          simp only [er] at CR'
          obtain ⟨ix, hix'⟩ : ∃ ix, ix = id % 4294967296 := ⟨_, rfl⟩
          rw [← hix'] at x0 x1 u0 u7 hI'
          have hix : id.tmod 4294967296 = ix := by rw [Int.tmod_eq_emod_of_nonneg i0, hix']
          obtain ⟨uk, huk⟩ : ∃ uk, uk = u ix := ⟨_, rfl⟩
          rw [← huk] at u0 u7
          have HUK := hidOv huk
          have HI' := hidOv hI'
          have HM' := hidOv hm'
          have HTX := hidOv tx
          have l14 : l'.length ≤ 14 := by omega
          have f14 : f'.length ≤ 14 := by omega
          have hrm14 : rm ≤ 14 := by omega
          clear hL hI hm hN hdead hlive hm' hI' hlen er huk hix' tx hn3 hrm HN3 HRM hbB hN1 hN2 hN3
          go_wp2_with (first
            | (go_at_call 20; with_reducible refine Calls.mono (CA _ _ _ _ _ HL.out.i) ?_; clear CA; rintro e w3 ⟨pv, cv, rfl, hr3, hb3⟩; have HL3 := hidOv (HL.out.to hb3); obtain ⟨a0, a1, a2, af, al⟩ := HL3.out.s3; clear hr3 hb3)
            | (go_at_call 21; with_reducible refine Calls.mono (CR _ _ _ _ _ HL3.out.i) ?_; clear CR; rintro e w4 ⟨rfl, hb4⟩; have HL4 := hidOv (HL3.out.to hb4); obtain ⟨b0, b1, b2, bf, bl⟩ := HL4.out.s3; clear hb4)
            | (go_at_call 25; with_reducible refine Calls.mono (CT _ _ _ _ _ HL4.out.i) ?_; clear CT; rintro e w5 ⟨G5, H5, rfl, ho⟩; have HT5 := hidOv (LT.start HL4.out ho (by omega) (by omega)); clear ho; have K79 := HT5.out.a.mu.look (x := ix) x0 (by omega); obtain ⟨w6, K6, ht6⟩ := HT5.out.useU (x := ix) x0 (by omega) (by rw [← HUK.out]; exact u0) (by rw [← HUK.out]; omega) (small_max (by omega)); rw [← HUK.out] at K79 K6; have HT6 := hidOv ht6; have K83 := ht6.a.mt.look i0 i1; rw [HTX.out] at K83; have K87 := ht6.a.mu.look (x := ix) x0 (by omega); rw [uPut_same, ← HUK.out] at K87; obtain ⟨d0, d1, d2, df, dl⟩ := ht6.a.s3; clear ht6)
            | (go_at_call 22; with_reducible refine Calls.mono (CD _ _ _ _ _ HT6.out.a.i) ?_; clear CD; rintro e w7 ⟨rfl, hb7⟩; have HT7 := hidOv (HT6.out.to hb7); obtain ⟨e0, e1, e2, ef, el⟩ := HT7.out.b3; clear hb7)
            | (go_at_call 22; with_reducible refine Calls.mono (CL _ _ _ _ _ HT7.out.bi) ?_; clear CL; rintro e w8 ⟨rfl, hb8⟩; have HT8 := hidOv (HT7.out.to hb8); obtain ⟨g0, g1, g2, gf, gl⟩ := HT8.out.b3; clear hb8)
            | (go_at_call 20; with_reducible refine Calls.mono (CA' _ _ _ _ _ HT8.out.bi) ?_; clear CA'; rintro e w9 ⟨pv', cv', rfl, hr9, hb9⟩; have HT9 := hidOv (HT8.out.to hb9); obtain ⟨h0, h1, h2, hf, hl⟩ := HT9.out.b3; clear hr9 hb9)
            | (go_at_call 21; with_reducible refine Calls.mono (CR' _ _ _ _ _ HT9.out.bi) ?_; clear CR'; rintro e w10 ⟨rfl, hb10⟩; have HT10 := hidOv (HT9.out.to hb10); obtain ⟨j0, j1, j2, jf, jl⟩ := HT10.out.b3; clear hb10)
            | (go_at_call 11; with_reducible refine Calls.mono (CC _ _ _ _ _ HT10.out.bi) ?_; clear CC; rintro e w11 ⟨rfl, hb11⟩; have HT11 := hidOv (HT10.out.to hb11); clear hb11; obtain ⟨w12, K12, ht12⟩ := HT11.out.useM i0 i1 (small_max (by omega)); have HT12 := hidOv ht12; obtain ⟨n0, n1, n2, nf, nl⟩ := ht12.b3; obtain ⟨o0, o1, o2, of, ol⟩ := ht12.a.s3; clear ht12))
          go_roundw
          case rel => exact ⟨x + 1, _, _, _, _, _, _, _, _, by omega, by omega, by go_num, HT12.out.put.mono (by omega), HI'.out, HM'.out⟩
          case measure => simp [intOf]; omega
        · obtain ⟨en, hen, CT⟩ := take_N hm (by have := (mayB_parts hm).2.2.1; omega)
          clear hL hI hm hn3 hrm HN3 HRM hbB
          rcases hen with rfl | rfl
          all_goals
            go_wp2_with (first
              | (go_at_call 20; with_reducible refine Calls.mono (CA _ _ _ _ _ HL.out.i) ?_; clear CA; rintro e w3 ⟨pv, cv, rfl, hr3, hb3⟩; have HL3 := hidOv (HL.out.to hb3); obtain ⟨a0, a1, a2, af, al⟩ := HL3.out.s3; clear hr3 hb3)
              | (go_at_call 21; with_reducible refine Calls.mono (CR _ _ _ _ _ HL3.out.i) ?_; clear CR; rintro e w4 ⟨rfl, hb4⟩; have HL4 := hidOv (HL3.out.to hb4); obtain ⟨b0, b1, b2, bf, bl⟩ := HL4.out.s3; clear hb4)
              | (go_at_call 25; with_reducible refine Calls.mono (CT _ _ _ _ _ HL4.out.i) ?_; clear CT; rintro e w5 ⟨rfl, hb5⟩; have HL5 := hidOv (HL4.out.to hb5); clear hb5))
          all_goals go_roundw
          all_goals first
            | exact ⟨x + 1, _, _, _, _, _, _, _, _, by omega, by omega, by go_num, (HL5.out.to ((Below.refl _ _).alloc (Nat.le_refl _) _)).mono (by omega), HI.out, HM.out⟩
            | (simp [intOf]; omega)
      · by_cases h2 : n3 = 2
        · subst h2
          clear hL hI hm hn3 hrm HN3 HRM hbB
          go_wp2_with (first
            | (go_at_call 20; with_reducible refine Calls.mono (CA _ _ _ _ _ HL.out.i) ?_; clear CA; rintro e w3 ⟨pv, cv, rfl, hr3, hb3⟩; have HL3 := hidOv (HL.out.to hb3); obtain ⟨a0, a1, a2, af, al⟩ := HL3.out.s3; clear hr3 hb3)
            | (go_at_call 21; with_reducible refine Calls.mono (CR _ _ _ _ _ HL3.out.i) ?_; clear CR; rintro e w4 ⟨rfl, hb4⟩; have HL4 := hidOv (HL3.out.to hb4); obtain ⟨b0, b1, b2, bf, bl⟩ := HL4.out.s3; clear hb4))
          go_roundw
          case rel => exact ⟨x + 1, _, _, _, _, _, _, _, _, by omega, by omega, by go_num, HL4.out.mono (by omega), HI.out, HM.out⟩
          case measure => simp [intOf]; omega
        · obtain ⟨k, hk⟩ : ∃ k : Nat, (IntKind.u64.wrap z).tmod ((n3 : Int) - 2) = (k : Int) := by
            rw [Int.tmod_eq_emod_of_nonneg (wrap_u64_nonneg z)]
            exact ⟨(IntKind.u64.wrap z % ((n3 : Int) - 2)).toNat, by have := Int.emod_nonneg (IntKind.u64.wrap z) (b := (n3 : Int) - 2) (by omega); omega⟩
          have hk3 : 2 + k < n3 := by
            rw [Int.tmod_eq_emod_of_nonneg (wrap_u64_nonneg z)] at hk
            have := Int.emod_lt_of_pos (IntKind.u64.wrap z) (b := (n3 : Int) - 2) (by omega)
            omega
          obtain ⟨p1, p2, p3, p4⟩ := pick hm (k := k) (by omega)
          obtain ⟨l', left, hr, ha, hm', hnot, hlen, hll, hI'⟩ := give_one hm p1 p2
          have hI' := hI' u t hI
          obtain ⟨id, hid⟩ : ∃ id, id = iG (livN l l.length) (2 + k) := ⟨_, rfl⟩
          rw [← hid] at p1 p3 p4 hr ha hnot
          have CG := give_own hm ha hr p3 p4
          obtain ⟨f', hf'⟩ : ∃ f', f' = f ++ srt left := ⟨_, rfl⟩
          rw [← hf'] at CG hm'
          have CL := alive_L hm' hnot p3 p4
          have CA' := all_L hm'
          have CC := check_L hm'
          have f14 : f'.length ≤ 14 := by have := (mayB_parts hm').2.2.1; have := usN_le l' l'.length; omega
          have l14 : l'.length ≤ 14 := by omega
          obtain ⟨n4, hn4⟩ : ∃ n4, n4 = (livN l' l'.length).length := ⟨_, rfl⟩
          simp only [← hn4] at CA'
          have HN34 : Hid (n3 = n4 + 1) := hidOv (by omega)
          have HI' := hidOv hI'
          have HM' := hidOv hm'
          have HID := hidOv hid
          have hu3 : IntKind.u64.wrap ((n3 : Int) - 2) = (n3 : Int) - 2 := by rw [IntKind.wrap_u64]; omega
          clear hL hI hm hn3 hrm HRM hbB p1 p2 hr ha hm' hnot hlen hll hI' hid hf' hn4
          go_wp2_with (first
            | (go_at_call 20; with_reducible refine Calls.mono (CA _ _ _ _ _ HL.out.i) ?_; clear CA; rintro e w3 ⟨pv, cv, rfl, hr3, hb3⟩; have HL3 := hidOv (HL.out.to hb3); have HR3 := hidOv hr3; obtain ⟨a0, a1, a2, af, al⟩ := HL3.out.s3; clear hr3 hb3))
          go_at_call 21
          with_reducible refine Calls.mono (CR _ _ _ _ _ HL3.out.i) ?_
          clear CR
          rintro e w4 ⟨rfl, hb4⟩
          have HL4 := hidOv (HL3.out.to hb4)
          obtain ⟨vb, voff, rfl, hv1, hv2⟩ := (HR3.out.below hb4 (Nat.le_refl _)) (by have := HN3.out; omega)
          have v0 := hv2 (2 + k) (by have := HN3.out; omega)
          rw [← HID.out] at v0
          obtain ⟨b0, b1, b2, bf, bl⟩ := HL4.out.s3
          clear hb4 hv1 hv2 HR3
          have HLa := hidOv (HL4.out.to ((Below.refl _ _).alloc (Nat.le_refl _) (.cells #[.int .u64 id] 41)))
          have HRa := hidOv (row1 (W := w4.alloc (.cells #[.int .u64 id] 41)) (b := w4.heap.size) (heap_at rfl))
          go_wp2_with (first
            | (go_at_call 29; with_reducible refine Calls.mono (CG _ _ _ _ _ _ _ HLa.out.i HRa.out) ?_; clear CG; rintro e w5 ⟨G5, H5, rfl, ho⟩; have HT5 := hidOv (LT.start HLa.out ho (by omega) (by omega)); clear ho)
            | (go_at_call 22; with_reducible refine Calls.mono (CL _ _ _ _ _ HT5.out.bi) ?_; clear CL; rintro e w6 ⟨rfl, hb6⟩; have HT6 := hidOv (HT5.out.to hb6); obtain ⟨d0, d1, d2, df, dl⟩ := HT6.out.b3; clear hb6)
            | (go_at_call 20; with_reducible refine Calls.mono (CA' _ _ _ _ _ HT6.out.bi) ?_; clear CA'; rintro e w7 ⟨pv', cv', rfl, hr7, hb7⟩; have HT7 := hidOv (HT6.out.to hb7); obtain ⟨e0, e1, e2, ef, el⟩ := HT7.out.b3; have h43 : (n4 : Int) = (n3 : Int) - 1 := (by have := HN34.out; omega); clear hr7 hb7)
            | (go_at_call 11; with_reducible refine Calls.mono (CC _ _ _ _ _ HT7.out.bi) ?_; clear CC; rintro e w8 ⟨rfl, hb8⟩; have HT8 := hidOv (HT7.out.to hb8); clear hb8; obtain ⟨n0, n1, n2, nf, nl⟩ := HT8.out.b3; obtain ⟨o0, o1, o2, of, ol⟩ := HT8.out.a.s3))
          go_roundw
          case rel => exact ⟨x + 1, _, _, _, _, _, _, _, _, by omega, by omega, by go_num, HT8.out.put.mono (by omega), HI'.out, HM'.out⟩
          case measure => simp [intOf]; omega
    · have C1 := alive_L hm (lives_first hm).1 (by decide) (by decide)
      have C2 := alive_L hm (lives_first hm).2 (by decide) (by decide)
      by_cases h1 : x < N
      · obtain rfl : x = 120 := by omega
        obtain ⟨b, off, rfl, hbB, hcs⟩ := HT.out (by have := HN.out; omega)
        have c0 := (hL.b.cell (p := ⟨b, off + 120, none⟩) (by exact hbB)).trans (hcs 120 (by have := HN.out; omega))
        obtain ⟨z, hz⟩ : ∃ z, z = iG ts 120 := ⟨_, rfl⟩
        rw [← hz] at c0
        clear hL hI hm hbB hcs hz
        go_wp2_with (first
          | (go_at_call 22; with_reducible refine Calls.mono (C1 _ _ _ _ _ HL.out.i) ?_; clear C1; rintro e w3 ⟨rfl, hb3⟩; have HL3 := hidOv (HL.out.to hb3); obtain ⟨a0, a1, a2, af, al⟩ := HL3.out.s3; clear hb3)
          | (go_at_call 22; with_reducible refine Calls.mono (C2 _ _ _ _ _ HL3.out.i) ?_; clear C2; rintro e w4 ⟨rfl, hb4⟩; have HL4 := hidOv (HL3.out.to hb4); clear hb4))
        go_ret
        exact ⟨rfl, HL4.out.b⟩
      · clear hL hI hm
        go_wp2_with (first
          | (go_at_call 22; with_reducible refine Calls.mono (C1 _ _ _ _ _ HL.out.i) ?_; clear C1; rintro e w3 ⟨rfl, hb3⟩; have HL3 := hidOv (HL.out.to hb3); obtain ⟨a0, a1, a2, af, al⟩ := HL3.out.s3; clear hb3)
          | (go_at_call 22; with_reducible refine Calls.mono (C2 _ _ _ _ _ HL3.out.i) ?_; clear C2; rintro e w4 ⟨rfl, hb4⟩; have HL4 := hidOv (HL3.out.to hb4); clear hb4))
        go_ret
        exact ⟨rfl, HL4.out.b⟩
end Go.Proofs.YtaglhajlgnjhcaaDoor
