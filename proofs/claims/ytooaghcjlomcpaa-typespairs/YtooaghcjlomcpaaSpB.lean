/- TypesPairs: the walk where the index is none. -/
import Derived.Test.YtooaghcjlomcpaaSpA
namespace Go.Proofs.Ytooaghcjlomcpaa
open Go.RowKit Go.Sort

set_option maxRecDepth 20000 in
set_option maxHeartbeats 1000000 in
theorem pairs_no (px : Option Addr) (X : List Int) (cx : Nat) (i : Int) (w : World) (hx : InR w px X cx) (hm : mayT (X.take 20) = true) (hi : ¬ (1 ≤ i ∧ i ≤ 1048578)) :
    Calls Try.prog 8 #[.slice px X.length cx, .int .i64 i] w fun e w' => e = .returned (.bool true) ∧ Below w.heap.size w w' := by
  have CK := wakes_any w
  have CF := fun (w1 : World) (hb : Below w.heap.size w w1) => turn_few px X cx w1 (hx.to hb)
  have ux := hx.u.take 20
  have l20 : (X.take 20).length ≤ 20 := by simp; omega
  obtain ⟨A, hA⟩ : ∃ A, A = X.take 20 := ⟨_, rfl⟩
  rw [← hA] at CF ux hm l20
  clear hA hx
  have CP0 := fun (W : World) => pair_any 0 0 W
  rw [pair_00.1, pair_00.2] at CP0
  obtain ⟨F, hF⟩ : ∃ F, F = mk 2 0 0 := ⟨_, rfl⟩
  have hFu := mk_u 0 0 (by omega) (by omega) (by omega) (by omega)
  have CT := fun (q : Option Addr) (d : Nat) (W : World) (hr : Row W q A d) => taken_any q A d F W hr ux (by rw [hF]; exact hFu.1) (by rw [hF]; exact hFu.2)
  have eM : tolL A (takesB F) = A.filter paiK := by rw [tolL_eq, hm, if_pos rfl, hF]; exact congrArg (A.filter ·) (funext tak_00)
  rw [eM] at CT
  rw [← hF] at CP0
  have CC := fun (q : Option Addr) (d : Nat) (W : World) (hr : Row W q A d) => check_any q A d W hr ux
  rw [chk_may hm] at CC
  clear hF hFu hm eM
  have CM := fun (q : Option Addr) (d : Nat) (W : World) (hr : Row W q A d) => men_no q A d i W hr ux hi
  have CP := pair_any
  obtain ⟨pv, hpv⟩ : ∃ f, f = paiV := ⟨_, rfl⟩
  obtain ⟨pe, hpe⟩ : ∃ f, f = paiE := ⟨_, rfl⟩
  rw [← hpv, ← hpe] at CP
  have HE : Hid ((pe i 0 = 2) ∨ ((i == 0) = true ∧ pe i 0 = 0 ∧ pe 0 i = 0)) := by
    rw [hpe]
    by_cases e : i = 0
    · right; rw [e]; exact ⟨rfl, rfl, rfl⟩
    · left; exact (pair_no (by omega)).1
  clear hpv hpe hi
  obtain ⟨M, hM⟩ : ∃ M, M = A.filter paiK := ⟨_, rfl⟩
  have HM := hidOg hM
  rw [← hM] at CT
  clear hM
  have HU := hidOg ux
  obtain ⟨n, hn⟩ : ∃ n, n = A.length := ⟨_, rfl⟩
  have HN := hidOg hn
  rw [← hn] at CF CT CC CM l20
  clear hn ux
  have HNM : Hid (M.length ≤ n) := by unfold Hid; rw [HM.out, HN.out]; exact List.length_filter_le _ _
  have hnm := HNM.out
  have CN := fun (p : Option Addr) (c : Nat) (x : Int) (W : World) (hr : Row W p M c) => contains38 p M c x W hr.i hr.n
  obtain ⟨m, hm'⟩ : ∃ m, m = M.length := ⟨_, rfl⟩
  unfold Gives at CT
  rw [← hm'] at CN hnm CT
  clear hm' HNM
  go_enter Try.func8, Try.ntmps8
  go_wp2_with (first
    | (go_at_call 9; refine Calls.mono CK ?_; rintro e w1 ⟨rfl, hb⟩; have H1 := hidOg hb; clear hb)
    | (go_at_call 10; refine Calls.mono (CF w1 H1.out) ?_; rintro e w2 ⟨q, d, rfl, hr, hb⟩; have H2 : Hid (Pr w w2 q A d) := ⟨hr, H1.out.trans (hb.mono H1.out.size)⟩; clear hr hb)
    | (go_at_call 37; refine Calls.mono (CP0 _) ?_; rintro e w3 ⟨rfl, hb⟩; have H3 := hidOg (H2.out.to hb); clear hb)
    | (go_at_call 26; refine Calls.mono (CT _ _ _ H3.out.a) ?_; rintro e w4 ⟨p4, c4, rfl, hr, hb⟩; have H4 := hidOg (H3.out.and hr hb); clear hr hb)
    | (go_at_call 11; refine Calls.mono (CC _ _ _ H4.out.a) ?_; rintro e w5 ⟨rfl, hb⟩; have H5 := hidOg (H4.out.to hb); clear hb))
  clear CK CF CP0 CT CC H1 H2 H3 H4
  go_loopw [48] (fun j wr => ∃ k : Nat, k ≤ n ∧ j = .int .i64 k ∧ Pq w wr q A d p4 M c4) (fun j _ => n - (intOf j).toNat)
  case atStart => exact ⟨0, Nat.zero_le _, rfl, H5.out⟩
  case round =>
    obtain ⟨k, hk, rfl, hp⟩ := hrel
    have HP := hidOg hp
    clear hp H5
    by_cases hlt : k < n
    · obtain ⟨b, off, rfl, hbB, hcs⟩ := HP.out.a.i (by have := HN.out; omega)
      have c0 := hcs k (by have := HN.out; omega)
      clear hcs
      obtain ⟨u0, u1⟩ := HU.out.at (k := k) (by have := HN.out; omega)
      have hin : iG A k ∈ A := iG_mem (by have := HN.out; omega)
      obtain ⟨x, hxk⟩ : ∃ x, x = iG A k := ⟨_, rfl⟩
      rw [← hxk] at c0 u0 u1 hin
      have CN1 := fun (W : World) (hr : Row W p4 M c4) => CN p4 c4 x W hr
      have eN : decide (x ∈ M) = decide (kindOf x = 3) := by rw [HM.out]; simp only [List.mem_filter, hin, true_and]; unfold paiK; simp
      rw [eN] at CN1
      have CI := fun (W : World) => kind_any x W u0 u1
      obtain ⟨kk, hkk⟩ : ∃ kk, kk = kindOf x := ⟨_, rfl⟩
      rw [← hkk] at CN1 CI
      clear hxk hin eN hkk CN CM CP u0 u1
      by_cases h3 : kk = 3
      · subst h3
        have e3 : decide ((3 : Int) = 3) = true := rfl
        rw [e3] at CN1
        go_wp2_with (first
          | (go_at_call 38; refine Calls.mono (CN1 _ HP.out.m) ?_; rintro e w6 ⟨rfl, rfl⟩)
          | (go_at_call 39; refine Calls.mono (CI _) ?_; rintro e w7 ⟨rfl, hb⟩; have H7 := hidOg (HP.out.to hb); clear hb))
        go_roundw
        case rel => exact ⟨k + 1, by omega, by go_num, H7.out⟩
        case measure => simp [intOf]; omega
      · have e3 : decide (kk = 3) = false := decide_eq_false h3
        have e3' : (kk == 3) = false := by simpa using h3
        rw [e3] at CN1
        clear e3 h3
        go_wp2_with (first
          | (go_at_call 38; refine Calls.mono (CN1 _ HP.out.m) ?_; rintro e w6 ⟨rfl, rfl⟩)
          | (go_at_call 39; refine Calls.mono (CI _) ?_; rintro e w7 ⟨rfl, hb⟩; have H7 := hidOg (HP.out.to hb); clear hb))
        go_roundw
        case rel => exact ⟨k + 1, by omega, by go_num, H7.out⟩
        case measure => simp [intOf]; omega
    · obtain rfl : k = n := by omega
      clear CN
      rcases HE.out with E1 | ⟨hi0, E1, E2⟩
      all_goals
        go_wp2_with (first
          | (go_at_call 37; refine Calls.mono (CP _ _ _) ?_; rintro e w8 ⟨rfl, hb⟩; have H8 := hidOg (HP.out.to hb); clear hb; try rw [E1])
          | (go_at_call 37; refine Calls.mono (CP _ _ _) ?_; rintro e w9 ⟨rfl, hb⟩; have H9 := hidOg (H8.out.to hb); clear hb; try rw [E2])
          | (go_at_call 31; refine Calls.mono (CM _ _ _ H9.out.a) ?_; rintro e w10 ⟨p5, c5, rfl, hb⟩; have H10 := hidOg (H9.out.to hb); clear hb))
        go_ret
        exact ⟨rfl, H10.out.w⟩
end Go.Proofs.Ytooaghcjlomcpaa
