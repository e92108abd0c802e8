/- TypesPairs: the walk where the row is a type and the index one. -/
import Derived.Test.YtooaghcjlomcpaaSpB
import Derived.Test.YtooaghcjlomcpaaSpC
namespace Go.Proofs.Ytooaghcjlomcpaa
open Go.RowKit Go.Sort

set_option maxRecDepth 20000 in
set_option maxHeartbeats 2000000 in
theorem pairs_yes (px : Option Addr) (X : List Int) (cx : Nat) (i : Int) (w : World) (hx : InR w px X cx) (hm : mayT (X.take 20) = true) (hi1 : 1 ≤ i) (hi2 : i ≤ 1048578) :
    Calls Try.prog 8 #[.slice px X.length cx, .int .i64 i] w fun e w' => e = .returned (.bool true) ∧ Below w.heap.size w w' := by
  obtain ⟨i0, hi, hz0, hz1, hz2⟩ := info_parts Try.info3
  have CK := wakes_any w
  have CF := fun (w1 : World) (hb : Below w.heap.size w w1) => turn_few px X cx w1 (hx.to hb)
  have ux := hx.u.take 20
  have l20 : (X.take 20).length ≤ 20 := by simp; omega
  obtain ⟨A, hA⟩ : ∃ A, A = X.take 20 := ⟨_, rfl⟩
  rw [← hA] at CF ux hm l20
  clear hA hx
  have CP0 := fun (W : World) => pair_any 0 0 W
  rw [pair_00.1, pair_00.2] at CP0
  obtain ⟨F, hF⟩ : ∃ F, F = mk 2 0 0 := ⟨_, rfl⟩
  have hFu := mk_u 0 0 (by omega) (by omega) (by omega) (by omega)
  have CT := fun (q : Option Addr) (d : Nat) (W : World) (hr : Row W q A d) => taken_any q A d F W hr ux (by rw [hF]; exact hFu.1) (by rw [hF]; exact hFu.2)
  have eM : tolL A (takesB F) = A.filter paiK := by rw [tolL_eq, hm, if_pos rfl, hF]; exact congrArg (A.filter ·) (funext tak_00)
  rw [eM] at CT
  rw [← hF] at CP0
  have CC := fun (q : Option Addr) (d : Nat) (W : World) (hr : Row W q A d) => check_any q A d W hr ux
  rw [chk_may hm] at CC
  clear hF hFu eM
  have HFC := hidOg (fac_of hm ux hi1 hi2)
  obtain ⟨g1, g2, g3, g4⟩ := pair_i hi1 hi2
  have hm1 := mk_u i 0 (by omega) (by omega) (by omega) (by omega)
  have hm2 := mk_u 0 i (by omega) (by omega) (by omega) (by omega)
  rw [← g1] at hm1
  rw [← g3] at hm2
  have CT1 := fun (q : Option Addr) (d : Nat) (W : World) (hr : Row W q A d) => taken_any q A d (paiV i 0) W hr ux hm1.1 hm1.2
  have CT2 := fun (q : Option Addr) (d : Nat) (W : World) (hr : Row W q A d) => taken_any q A d (paiV 0 i) W hr ux hm2.1 hm2.2
  have CM := fun (q : Option Addr) (d : Nat) (W : World) (hr : Row W q A d) => mentions_any q A d i W hr ux
  have CG := fun (q : Option Addr) (d : Nat) (W : World) (hr : Row W q A d) => targets_any q A d i W hr ux
  unfold Gives at CT1 CT2 CM CT
  unfold GivesI at CG
  obtain ⟨fr, hfr⟩ : ∃ l, l = tolL A (takesB (paiV i 0)) := ⟨_, rfl⟩
  obtain ⟨to, hto⟩ : ∃ l, l = tolL A (takesB (paiV 0 i)) := ⟨_, rfl⟩
  obtain ⟨men, hmen⟩ : ∃ l, l = tolL A (menB i) := ⟨_, rfl⟩
  obtain ⟨gl, hgl⟩ : ∃ l, l = tarL A i := ⟨_, rfl⟩
  rw [← hfr] at CT1
  rw [← hto] at CT2
  rw [← hmen] at CM
  rw [← hgl] at CG
  rw [← hfr, ← hto, ← hmen, ← hgl] at HFC
  clear hfr hto hmen hgl hm1 hm2 hm
  have CP := pair_any
  obtain ⟨pv, hpv⟩ : ∃ f, f = paiV := ⟨_, rfl⟩
  obtain ⟨pe, hpe⟩ : ∃ f, f = paiE := ⟨_, rfl⟩
  rw [← hpv, ← hpe] at CP
  rw [← hpv] at CT1 CT2
  rw [← hpe] at g2 g4
  clear hpv hpe g1 g3
  obtain ⟨M, hM⟩ : ∃ M, M = A.filter paiK := ⟨_, rfl⟩
  have HM := hidOg hM
  rw [← hM] at CT
  clear hM
  have HU := hidOg ux
  obtain ⟨n, hn⟩ : ∃ n, n = A.length := ⟨_, rfl⟩
  have HN := hidOg hn
  rw [← hn] at CF CT CC CM CT1 CT2 CG l20
  clear hn ux
  have HNM : Hid (M.length ≤ n) := by unfold Hid; rw [HM.out, HN.out]; exact List.length_filter_le _ _
  have hnm := HNM.out
  have CN := fun (p : Option Addr) (c : Nat) (x : Int) (W : World) (hr : Row W p M c) => contains38 p M c x W hr.i hr.n
  obtain ⟨m, hm'⟩ : ∃ m, m = M.length := ⟨_, rfl⟩
  rw [← hm'] at CN hnm CT
  clear hm' HNM
  have CE := fun (p : Option Addr) (c : Nat) (q : Option Addr) (d : Nat) (W : World) (h1 : IRow .u64 W.heap.size W p men) (h2 : IRow .u64 W.heap.size W q men) => equal18 p men c q men d W h1 h2 (by have := HFC.out.k; omega)
  have hgl13 : gl.length ≤ 13 := by rw [HFC.out.g, List.length_map]; have := HFC.out.l; omega
  have CE9 := fun (p : Option Addr) (c : Nat) (q : Option Addr) (d : Nat) (W : World) (h1 : IRow .i64 W.heap.size W p gl) (h2 : IRow .i64 W.heap.size W q gl) => equal29 p gl c q gl d W h1 h2 (by omega)
  rw [samI_refl] at CE CE9
  obtain ⟨nf, hnf⟩ : ∃ k, k = fr.length := ⟨_, rfl⟩
  obtain ⟨nt, hnt⟩ : ∃ k, k = to.length := ⟨_, rfl⟩
  obtain ⟨nb, hnb⟩ : ∃ k, k = (fr ++ to).length := ⟨_, rfl⟩
  obtain ⟨ne, hne⟩ : ∃ k, k = men.length := ⟨_, rfl⟩
  obtain ⟨ng, hng⟩ : ∃ k, k = gl.length := ⟨_, rfl⟩
  have HNF := hidOg hnf
  have HNT := hidOg hnt
  have HNB := hidOg hnb
  have HNE := hidOg hne
  have HNG := hidOg hng
  have hb13 : nf + nt ≤ 13 := by rw [hnf, hnt]; exact HFC.out.l
  have HB13 : Hid ((fr ++ to).length ≤ 13) := by unfold Hid; rw [List.length_append]; exact HFC.out.l
  rw [← hnf] at CT1
  rw [← hnt] at CT2
  rw [← hne] at CM CE
  rw [← hng] at CG CE9 hgl13
  clear hnf hnt hnb hne hng
  have hi00 : (i == 0) = false := by simp; omega
  go_enter Try.func8, Try.ntmps8
  go_wp2_with (first
    | (go_at_call 9; refine Calls.mono CK ?_; rintro e w1 ⟨rfl, hb⟩; have H1 := hidOg hb; clear hb)
    | (go_at_call 10; refine Calls.mono (CF w1 H1.out) ?_; rintro e w2 ⟨q, d, rfl, hr, hb⟩; have H2 : Hid (Pr w w2 q A d) := ⟨hr, H1.out.trans (hb.mono H1.out.size)⟩; clear hr hb)
    | (go_at_call 37; refine Calls.mono (CP0 _) ?_; rintro e w3 ⟨rfl, hb⟩; have H3 := hidOg (H2.out.to hb); clear hb)
    | (go_at_call 26; refine Calls.mono (CT _ _ _ H3.out.a) ?_; rintro e w4 ⟨p4, c4, rfl, hr, hb⟩; have H4 := hidOg (H3.out.and hr hb); clear hr hb)
    | (go_at_call 11; refine Calls.mono (CC _ _ _ H4.out.a) ?_; rintro e w5 ⟨rfl, hb⟩; have H5 := hidOg (H4.out.to hb); clear hb))
  clear CK CF CP0 CT CC H1 H2 H3 H4
  go_loopw [48] (fun j wr => ∃ k : Nat, k ≤ n ∧ j = .int .i64 k ∧ Pq w wr q A d p4 M c4) (fun j _ => n - (intOf j).toNat)
  case atStart => exact ⟨0, Nat.zero_le _, rfl, H5.out⟩
  case round =>
    obtain ⟨k, hk, rfl, hp⟩ := hrel
    have HP := hidOg hp
    clear hp H5
    by_cases hlt : k < n
    · obtain ⟨b, off, rfl, hbB, hcs⟩ := HP.out.a.i (by have := HN.out; omega)
      have c0 := hcs k (by have := HN.out; omega)
      clear hcs
      obtain ⟨u0, u1⟩ := HU.out.at (k := k) (by have := HN.out; omega)
      have hin : iG A k ∈ A := iG_mem (by have := HN.out; omega)
      obtain ⟨x, hxk⟩ : ∃ x, x = iG A k := ⟨_, rfl⟩
      rw [← hxk] at c0 u0 u1 hin
      have CN1 := fun (W : World) (hr : Row W p4 M c4) => CN p4 c4 x W hr
      have eN : decide (x ∈ M) = decide (kindOf x = 3) := by rw [HM.out]; simp only [List.mem_filter, hin, true_and]; unfold paiK; simp
      rw [eN] at CN1
      have CI := fun (W : World) => kind_any x W u0 u1
      obtain ⟨kk, hkk⟩ : ∃ kk, kk = kindOf x := ⟨_, rfl⟩
      rw [← hkk] at CN1 CI
      clear hxk hin eN hkk CN CM CP CT1 CT2 CG CE CE9 u0 u1 hi hz0 hz1 hz2 g2 g4 hi00
      by_cases h3 : kk = 3
      · subst h3
        have e3 : decide ((3 : Int) = 3) = true := rfl
        rw [e3] at CN1
        go_wp2_with (first
          | (go_at_call 38; refine Calls.mono (CN1 _ HP.out.m) ?_; rintro e w6 ⟨rfl, rfl⟩)
          | (go_at_call 39; refine Calls.mono (CI _) ?_; rintro e w7 ⟨rfl, hb⟩; have H7 := hidOg (HP.out.to hb); clear hb))
        go_roundw
        case rel => exact ⟨k + 1, by omega, by go_num, H7.out⟩
        case measure => simp [intOf]; omega
      · have e3 : decide (kk = 3) = false := decide_eq_false h3
        have e3' : (kk == 3) = false := by simpa using h3
        rw [e3] at CN1
        clear e3 h3
        go_wp2_with (first
          | (go_at_call 38; refine Calls.mono (CN1 _ HP.out.m) ?_; rintro e w6 ⟨rfl, rfl⟩)
          | (go_at_call 39; refine Calls.mono (CI _) ?_; rintro e w7 ⟨rfl, hb⟩; have H7 := hidOg (HP.out.to hb); clear hb))
        go_roundw
        case rel => exact ⟨k + 1, by omega, by go_num, H7.out⟩
        case measure => simp [intOf]; omega
    · obtain rfl : k = n := by omega
      clear CN HM HU
      go_wp2_with (first
        | (go_at_call 37; refine Calls.mono (CP _ _ _) ?_; rintro e w8 ⟨rfl, hb⟩; have H8 := hidOg (HP.out.to hb); clear hb; try rw [g2])
        | (go_at_call 37; refine Calls.mono (CP _ _ _) ?_; rintro e w9 ⟨rfl, hb⟩; have H9 := hidOg (H8.out.to hb); clear hb; try rw [g4])
        | (go_at_call 31; refine Calls.mono (CM _ _ _ (by exact H9.out.a)) ?_; rintro e w10 ⟨pm, cm, rfl, hr, hb⟩; have H10 : Hid (Pq w w10 q A d pm men cm) := ⟨H9.out.a.to hb, hr.row, H9.out.w.trans (hb.mono H9.out.w.size)⟩; clear hr hb)
        | (go_at_call_has 26 (Value.int .u64 (pv i 0)); refine Calls.mono (CT1 _ _ _ (by exact H10.out.a)) ?_; rintro e w11 ⟨pf, cf, rfl, hr, hb⟩; have H11 : Hid (Pq w w11 q A d pm men cm ∧ Row w11 pf fr cf) := ⟨H10.out.to hb, hr.row⟩; clear hr hb)
        | (go_at_call_has 26 (Value.int .u64 (pv 0 i)); refine Calls.mono (CT2 _ _ _ (by exact H11.out.1.a)) ?_; rintro e w12 ⟨pt, ct, rfl, hr, hb⟩; have H12 : Hid (Pq w w12 q A d pm men cm ∧ Row w12 pf fr cf ∧ Row w12 pt to ct) := ⟨H11.out.1.to hb, H11.out.2.to hb, hr.row⟩; clear hr hb)
        | (go_at_call 40; refine Calls.mono (concat_new w12 pf fr cf pt to ct nf nt nb _ HNF.out HNT.out HNB.out H12.out.2.1 H12.out.2.2 HFC.out.l) ?_; rintro e w13 ⟨r, kr, W0, rfl, hb0, hO, hb⟩; have H13 : Hid (St w W0 w13 q A d pm men cm r (fr ++ to) kr) := ⟨H12.out.1.to hb0, hb, hO⟩; clear hb0 hO hb)
        | (go_at_call 41; refine Calls.mono (sort_both H13.out.o nb HNB.out HB13.out men HFC.out.m) ?_; rintro e w14 ⟨rfl, L, hL, hO, hg⟩; have HSL := hidOg hL; have H14 : Hid (St w W0 w14 q A d pm men cm r L kr) := H13.out.turn hg hO; clear hL hO hg)
        | (go_at_call_has 26 (Value.int .u64 (pv i 0)); refine Calls.mono (CT1 _ _ _ (by exact H14.out.a)) ?_; rintro e w15 ⟨pg, cg, rfl, hr, hb⟩; have H15 : Hid (St w W0 w15 q A d pm men cm r L kr ∧ Row w15 pg fr cg) := ⟨H14.out.to hb, hr.row⟩; clear hr hb))
      clear CM CT1 CT2 CP g2 g4 H8 H9 H10 H11 H12 H13 H14 HP
      go_loopw [16, 100] (fun o j wr => ∃ k2 : Nat, k2 ≤ nf ∧ j = .int .i64 k2 ∧ wr.ownsRow w15.heap.size 3 1 o k2 ((fr.take k2).map (fun y => Value.int .i64 (p2 y))) ∧ Below w15.heap.size w15 wr) (fun _ j _ => nf - (intOf j).toNat)
      case atStart => exact ⟨0, Nat.zero_le _, rfl, World.ownsRow_nil _ _ _ _, Below.refl _ _⟩
      case round =>
        obtain ⟨k2, hk2, rfl, ho, hB⟩ := hrel
        have HO := hidOg ho
        have HB := hidOg hB
        have hsz := hB.size
        clear ho hB
        by_cases hlt2 : k2 < nf
        · obtain ⟨b, off, rfl, hbB, hcs⟩ := (H15.out.2.to HB.out).i (by have := HNF.out; omega)
          have c0 := hcs k2 (by have := HNF.out; omega)
          clear hcs
          obtain ⟨u0, u1⟩ := HFC.out.u.at (k := k2) (by have := HNF.out; omega)
          obtain ⟨x, hxk⟩ : ∃ x, x = iG fr k2 := ⟨_, rfl⟩
          rw [← hxk] at c0 u0 u1
          have CI := fun (W : World) => parts_any x W u0 u1
          obtain ⟨a', ha'⟩ : ∃ a, a = p1 x := ⟨_, rfl⟩
          obtain ⟨b', hb'⟩ : ∃ b', b' = p2 x := ⟨_, rfl⟩
          have HVY : Hid (p2 (iG fr k2) = b') := by rw [← hxk]; exact hb'.symm
          rw [← ha', ← hb'] at CI
          clear ha' hb' hxk u0 u1 CE CE9 CG
          go_wp2_with (first
            | (go_at_call 42; refine Calls.mono (CI _) ?_; rintro e w6 ⟨rfl, hb⟩; have hs6 := hb.size; have HB6 := hidOg hb; clear hb)
            | (at_builtin; refine wpList_append_own _ rfl _ _ 39 rfl w15.heap.size 3 i0 (.int .i64 0) 1 8 Try.underlying39 hi hz0 hz1 hz2 rfl (by decide) _ _ _ rfl ((owns_to HO.out HB6.out).alloc _) _ 1 1 [.int .i64 (b')] rfl rfl (cell_one_new _ _ _) (by simp [Value.oneCell']) (by unfold maxLen; omega) (by omega) (by simp; omega) ?_; intro v7 w7 hown7 hgrow7 _))
          go_roundw
          case rel => exact ⟨k2 + 1, by omega, by go_num, goals_step (by have := HNF.out; omega) HVY.out hown7, ((HB.out.trans (HB6.out.mono hsz)).alloc (by omega) _).grown hgrow7 (by simp; omega) (fun j hj => own_ge HO.out hj)⟩
          case measure => simp [intOf]; omega
        · obtain rfl : k2 = nf := by omega
          have ho2 := goals_end HNF.out HFC.out.g HO.out
          obtain ⟨po, co, rfl, hig, hfg, _⟩ := irow_owns ho2
          have HS := hidOg (H15.out.1.to HB.out)
          have HIG := hidOg hig
          have HNN := hidOg (block_ne (N := w15.heap.size) H15.out.1.o.lt hfg)
          rw [← HNG.out]
          clear ho2 hig hfg HO HB hi hz0 hz1 hz2
          go_wp2_with (first
            | (go_at_call 43; refine Calls.mono (compact_men HS.out.o HSL.out HFC.out.s HNE.out) ?_; rintro e w17 ⟨c7, rfl, hO, hg⟩; have H17 := hidOg (HS.out.turn hg hO); have HG17 := hidOg (HIG.out.grown hg HNN.out); clear hO hg)
            | (go_at_call 18; refine Calls.mono (CE _ _ _ _ _ (by exact H17.out.o.row.i) (by exact H17.out.m.i)) ?_; rintro e w18 ⟨rfl, hb⟩; have H18 := hidOg (H17.out.to hb); have HG18 := hidOg (HG17.out.to hb); clear hb)
            | (go_at_call 30; refine Calls.mono (CG _ _ _ (by exact H18.out.a)) ?_; rintro e w19 ⟨p9, c9, rfl, hi9, hb⟩; have H19 := hidOg (H18.out.to hb); have HG19 := hidOg (HG18.out.to hb); have HT19 := hidOg hi9; clear hi9 hb)
            | (go_at_call 29; refine Calls.mono (CE9 _ _ _ _ _ (by exact HT19.out) (by exact HG19.out)) ?_; rintro e w20 ⟨rfl, hb⟩; have H20 := hidOg (H19.out.to hb); clear hb))
          go_ret
          exact ⟨rfl, H20.out.bw⟩

theorem pairs_walk (px : Option Addr) (X : List Int) (cx : Nat) (i : Int) (w : World) (hx : InR w px X cx) :
    Calls Try.prog 8 #[.slice px X.length cx, .int .i64 i] w fun e w' => e = .returned (.bool true) ∧ Below w.heap.size w w' := by
  cases hm : mayT (X.take 20)
  · exact pairs_bad px X cx i w hx hm
  · by_cases hi : 1 ≤ i ∧ i ≤ 1048578
    · exact pairs_yes px X cx i w hx hm hi.1 hi.2
    · exact pairs_no px X cx i w hx hm hi
end Go.Proofs.Ytooaghcjlomcpaa
