/- LookupTurn: the walk. -/
import Derived.Test.YtjnhalomkmdcgaaLwC
namespace Go.Proofs.Ytjnhalomkmdcgaa
open Go.RowKit

theorem pw_le {m : Nat} (h : ∃ e, m = 8 * 2 ^ e) (hm : m ≤ 130) : m ≤ 128 := by
  obtain ⟨e, rfl⟩ := h
  have : e ≤ 4 := by
    refine Classical.byContradiction fun hn => ?_
    have h1 : (2 : Nat) ^ 5 ≤ 2 ^ e := Nat.pow_le_pow_right (by omega) (by omega)
    omega
  have h1 : (2 : Nat) ^ e ≤ 2 ^ 4 := Nat.pow_le_pow_right (by omega) this
  omega
theorem pu_parts {L : List En} {t : List Int} {n : Int} (h : puE L t n = 0) : RiL hsT mayT L ∧ mayT t = true ∧ 0 ≤ n ∧ NotIn L t := by
  unfold puE at h
  cases hr : riB L
  · rw [hr] at h; simp at h
  · rw [hr, if_pos rfl] at h
    cases hm : mayT t
    · rw [hm] at h; simp at h
    · rw [hm, if_pos rfl] at h
      by_cases hn : 0 ≤ n
      · rw [if_pos hn] at h
        have hri := riB_of hr
        refine ⟨hri, rfl, hn, ?_⟩
        rcases in_or L t with hN | ⟨i, hi, hu, ht⟩
        · exact hN
        · exfalso
          have e := fi_some isCmp hri.dt hi hu
          rw [ht] at e
          have h0 : 0 ≤ (gE L i).2.2 := by
            rcases hri.ok i hi with ⟨h1 | h1, _⟩ | ⟨_, _, h1⟩
            · omega
            · omega
            · exact h1
          rw [if_pos (by rw [e]; exact h0)] at h
          exact absurd h (by decide)
      · rw [if_neg hn] at h; exact absurd h (by decide)
theorem drop_yes (p : Option Addr) (T A : List En) (c : Nat) (q : Option Addr) (t : List Int) (d : Nat) (w : World) (h : LkW w p T A) (hT : TRow w.heap.size w q t d) (ht : t.length ≤ 1000) (hf : 0 ≤ fiL A t) :
    Calls Try.prog 23 #[.agg #[.slice p T.length c], .slice q t.length d] w fun e w' => ∃ p' c' T', e = .returned (.tuple #[.agg #[.slice p' T'.length c'], .int .i64 0]) ∧ LkW w' p' T' (woL A t) ∧ EFr w.heap.size w' p' T' c' ∧ T'.length ≤ T.length ∧ Below w.heap.size w w' := by
  refine (drop23 p T c q t d w h.e (by have := h.n; omega) (lb_of_ri h.r.r) hT ht).mono ?_
  have hp : drE T t = 0 := by unfold drE; rw [riB_t h.r.r, if_pos rfl, h.r.a, if_pos hf]
  rw [hp, h.r.a]
  rintro e w' ⟨p', c', T', rfl, hE, hy, _, hb⟩
  exact ⟨p', c', T', rfl, ⟨hE.row, (hy rfl).1, Nat.le_trans (hy rfl).2 h.n⟩, hE, (hy rfl).2, hb⟩
theorem alO_of {T A : List En} (h : LkR T A) : alO T = A := by unfold alO; rw [riB_t h.r, if_pos rfl, h.a]
theorem chL_of {T A : List En} (h : LkR T A) : chL T = 0 := by unfold chL; rw [riB_t h.r, if_pos rfl]
theorem TRow.take {N : Nat} {w : World} {p : Option Addr} {l : List Int} {c : Nat} (h : TRow N w p l c) (k : Nat) : TRow N w p (l.take k) c := ⟨h.i.take k, by have := h.r; simp; omega, fun x hx => h.u x (List.mem_of_mem_take hx)⟩
theorem TRow.to {w w' : World} {p : Option Addr} {l : List Int} {c : Nat} (h : TRow w.heap.size w p l c) (hb : Below w.heap.size w w') : TRow w'.heap.size w' p l c := (h.below hb (Nat.le_refl _)).mono hb.size
set_option maxRecDepth 20000 in
set_option maxHeartbeats 2000000 in
theorem turn_walk (p : Option Addr) (L : List En) (c : Nat) (q : Option Addr) (t : List Int) (d : Nat) (n : Int) (w : World) (hE : ERow w.heap.size w p L) (hl : L.length ≤ maxLen) (hT : TRow w.heap.size w q t d) :
    Calls Try.prog 5 #[.agg #[.slice p L.length c], .slice q t.length d, .int .i64 n] w fun e w' => e = .returned (.bool true) ∧ Below w.heap.size w w' := by
  obtain ⟨lk, hlk⟩ : ∃ lk, lk = (t.take 14).length := ⟨_, rfl⟩
  have hmin : min (t.length : Int) 14 = (lk : Int) := by rw [hlk]; simp; omega
  have hmin2 : (if 14 < (t.length : Int) then 14 else (t.length : Int)) = (lk : Int) := by rw [hlk]; simp; split <;> omega
  have hkc : (lk : Int) ≤ (d : Int) := by have := hT.r; rw [hlk]; simp only [List.length_take]; omega
  have hk0 : (0 : Int) ≤ (lk : Int) := by omega
  have hk14 : lk ≤ 14 := by rw [hlk]; simp; omega
  obtain ⟨lt, hlt⟩ : ∃ lt, lt = t.length := ⟨_, rfl⟩
  obtain ⟨m, hm⟩ : ∃ m, m = L.length := ⟨_, rfl⟩
  have bw : Below w.heap.size w (w.alloc (.cells #[.slice p L.length c] 24)) := (Below.refl _ _).alloc (Nat.le_refl _) _
  have x0 := Boxed.new w 24 (.slice p L.length c)
  have CW := fun (W : World) => wakes7 W
  have CO := fun (W : World) (hb : Below w.heap.size w W) => own8 p L c W (hE.to hb) hl
  have HTt : Hid (∀ W, Below w.heap.size w W → TRow W.heap.size W q (t.take 14) d) := fun W hb => (hT.to hb).take 14
  obtain ⟨L0, hL0⟩ : ∃ L0, L0 = ownL L := ⟨_, rfl⟩
  obtain ⟨t0, ht0⟩ : ∃ t0, t0 = t.take 14 := ⟨_, rfl⟩
  have h130 : Hid (L0.length ≤ 130) := by unfold Hid; rw [hL0]; exact ownL_len L
  have hlb : Hid (LB L0) := by
    unfold Hid; rw [hL0]
    intro k hk
    have := ownL_lb L k hk; omega
  rw [← ht0] at HTt hlk
  rw [← hL0] at CO
  rw [← hlt] at hmin hmin2 ⊢
  rw [← hm] at bw x0 CO ⊢
  have HX0 := hidOg x0
  have HBw := hidOg bw
  have HLK := hidOg hlk
  have hm' : m ≤ 9223372036854775807 := by rw [hm]; unfold maxLen at hl; omega
  clear hT hE hl ht0 hL0 hlt hm x0 bw hlk
  have hb0 := fun (W : World) (o : Obj) => (Below.refl W.heap.size W).alloc (Nat.le_refl _) o
  have HA := hidOg hb0
  clear hb0
  by_cases hp : puE L0 t0 n = 0
  · obtain ⟨hri, hmt, hn0, hN⟩ := pu_parts hp
    obtain ⟨A0, hA0⟩ : ∃ A0, A0 = alL cmpL L0 := ⟨_, rfl⟩
    have hr0 : LkR L0 A0 := ⟨hri, hA0.symm⟩
    have hse : SE cmpL A0 := by rw [hA0]; exact alL_se isCmp hri.dt
    have hx : ∀ y ∈ A0, y.2.1 ≠ t0 := by
      rw [hA0]; intro y hy
      have := (alL_mem L0 y).1 hy
      exact hN y this.1 this.2
    have hf0 : fiL A0 t0 = -1 := by rw [hA0]; exact fi_none hN
    obtain ⟨A1, hA1⟩ : ∃ A1, A1 = wiL cmpL A0 (1, t0, n) := ⟨_, rfl⟩
    have hf1 : fiL A1 t0 = n := by
      rw [hA1]
      exact fiL_of isCmp (wiL_se isCmp (1, t0, n) hse hx) (x := (1, t0, n)) ((wiL_mem _ _ _).2 (.inl rfl))
    have hwo : woL A1 t0 = A0 := by rw [hA1]; exact woL_wiL isCmp (1, t0, n) hse hx
    have hal : A1.length = A0.length + 1 := by rw [hA1, wiL_len]
    have hm128 := pw_le hri.pw h130.out
    have hu := used_le L0
    have hla := lkr_len hr0
    have hen : enN L0.length (A0.length + 1) ≤ 256 := by unfold enN; split <;> omega
    have CP := fun (W : World) (p1 : Option Addr) (c1 : Nat) (h : LkW W p1 L0 A0) (ht : TRow W.heap.size W q t0 d) => put_yes p1 L0 A0 c1 q t0 d n W h ht hmt hn0 hf0 256 hen
    have CF3 := fun (W : World) (p1 : Option Addr) (c1 : Nat) (T : List En) (h : LkW W p1 T A1) (ht : TRow W.heap.size W q t0 d) => find_yes p1 T A1 c1 q t0 d n W h ht (by rw [← HLK.out]; omega) hf1.symm
    have CD := fun (W : World) (p1 : Option Addr) (c1 : Nat) (T : List En) (h : LkW W p1 T A1) (ht : TRow W.heap.size W q t0 d) => drop_yes p1 T A1 c1 q t0 d W h ht (by rw [← HLK.out]; omega) (by rw [hf1]; exact hn0)
    have CF4 := fun (W : World) (p1 : Option Addr) (c1 : Nat) (T : List En) (h : LkW W p1 T A0) (ht : TRow W.heap.size W q t0 d) => find_yes p1 T A0 c1 q t0 d (-1) W h ht (by rw [← HLK.out]; omega) hf0.symm
    have em : max n 0 = n := Int.max_eq_left hn0
    have ed : decide (0 ≤ n) = true := decide_eq_true hn0
    have e1 : max (-1 : Int) 0 = 0 := rfl
    have e2 : decide (0 ≤ (-1 : Int)) = false := rfl
    rw [em, ed] at CF3
    rw [e1, e2] at CF4
    rw [hwo] at CD
    rw [← hA1] at CP
    have CS := fun (W : World) (p4 : Option Addr) (c4 : Nat) (T4 : List En) (p2 : Option Addr) (c2 : Nat) (h4 : LkW W p4 T4 A0) (h2 : LkW W p2 L0 A0) => same26 p4 T4 c4 p2 L0 c2 W h4.e h2.e (by have := h4.n; omega) (by have := h2.n; omega) (lb_of_ri h4.r.r) (lb_of_ri h2.r.r)
    have CS' : ∀ (W : World) (p4 : Option Addr) (c4 : Nat) (T4 : List En) (p2 : Option Addr) (c2 : Nat), LkW W p4 T4 A0 → LkW W p2 L0 A0 → Calls Try.prog 26 #[.agg #[.slice p4 T4.length c4], .agg #[.slice p2 L0.length c2]] W fun e w' => e = .returned (.bool true) ∧ Below W.heap.size W w' := fun W p4 c4 T4 p2 c2 h4 h2 => by
      have := CS W p4 c4 T4 p2 c2 h4 h2
      rwa [alO_of h4.r, alO_of h2.r, saL_refl] at this
    have CC : ∀ (W : World) (p1 : Option Addr) (c1 : Nat) (T A : List En), LkW W p1 T A → Calls Try.prog 12 #[.agg #[.slice p1 T.length c1]] W fun e w' => e = .returned (.int .i64 0) ∧ Below W.heap.size W w' := fun W p1 c1 T A h => by
      have := check12 p1 T c1 W h.e (by have := h.n; omega) (lb_of_ri h.r.r)
      rwa [chL_of h.r] at this
    obtain ⟨k, hk⟩ : ∃ k, k = A0.length := ⟨_, rfl⟩
    have CM0 := fun (W : World) (p1 : Option Addr) (c1 : Nat) (h : LkW W p1 L0 A0) => many_yes p1 L0 A0 c1 W h k hk
    have CM1 := fun (W : World) (p1 : Option Addr) (c1 : Nat) (T : List En) (h : LkW W p1 T A1) => many_yes p1 T A1 c1 W h (k + 1) (by rw [hal, hk])
    have ek : ((k + 1 : Nat) : Int) = (k : Int) + 1 := by omega
    have hk130 : (k : Int) ≤ 130 := by omega
    rw [ek] at CM1
    have hwr : IntKind.i64.wrap ((k : Int) + 1) = (k : Int) + 1 := by rw [IntKind.wrap_i64]; omega
    rw [← HLK.out] at CP CF3 CD CF4
    have HR0 := hidOg hr0
    have H130 := hidOg (Nat.le_trans hm128 (by omega : 128 ≤ 256))
    obtain ⟨l0, hl0⟩ : ∃ l0, l0 = L0.length := ⟨_, rfl⟩
    rw [← hl0] at CP CM0 CO CS'
    clear hri hmt hn0 hN hA0 hr0 hse hx hf0 hA1 hf1 hwo hal hm128 hu hla hen em ed e1 e2 CS hk ek hp hl0 h130 hlb
    go_enter Try.func5, Try.ntmps5
    go_wp2_with (first
      | (go_at_call 7; refine Calls.mono (CW _) ?_; rintro e w1 ⟨rfl, hb1⟩; have x1 := Boxed.cell (Boxed.stays HX0.out hb1); have HB1 := hidOg (HBw.out.trans (hb1.mono HBw.out.size)); clear hb1)
      | (go_at_call 8; refine Calls.mono (CO _ HB1.out) ?_; rintro e w2 ⟨p2, c2, rfl, hE2, hb2⟩; have HE2 : Hid (LkW (w2.alloc (.cells #[.slice p2 l0 c2] 24)) p2 L0 A0) := LkW.alloc ⟨hE2.row, HR0.out, H130.out⟩ _; have X2 := hidOg (Boxed.new w2 24 (.slice p2 l0 c2)); have HB2 := hidOg (HB1.out.trans (hb2.mono HB1.out.size)); have HB2' := hidOg (HB2.out.trans ((HA.out w2 (.cells #[.slice p2 l0 c2] 24)).mono HB2.out.size)); clear hE2 hb2)
      | (go_at_call 24; refine Calls.mono (CP _ _ _ HE2.out (HTt.out _ HB2'.out)) ?_; rintro e w3 ⟨p3, c3, T3, rfl, hE3, hr3, hn3, hb3⟩; have HE3 : Hid (LkW (w3.alloc (.cells #[.slice p3 T3.length c3] 24)) p3 T3 A1) := LkW.alloc ⟨hE3.row, hr3, hn3⟩ _; have X3 := hidOg (Boxed.new w3 24 (.slice p3 T3.length c3)); have HBs := hidOg (hb3.trans ((HA.out w3 (.cells #[.slice p3 T3.length c3] 24)).mono hb3.size)); have HE2s := hidOg (HE2.out.to HBs.out); have X2s := hidOg (Boxed.stays X2.out HBs.out); have HB3 := hidOg (HB2'.out.trans (HBs.out.mono HB2'.out.size)); clear hE3 hr3 hn3 hb3)
      | (go_at_call_has 15 p3; refine Calls.mono (CF3 _ _ _ _ HE3.out (HTt.out _ HB3.out)) ?_; rintro e w4 ⟨rfl, hb4⟩; have HE2f := hidOg (HE2s.out.to hb4); have X2f := hidOg (Boxed.stays X2s.out hb4); have HE3f := hidOg (HE3.out.to hb4); have X3f := hidOg (Boxed.stays X3.out hb4); have x3f := Boxed.cell X3f.out; have HB4 := hidOg (HB3.out.trans (hb4.mono HB3.out.size)); clear hb4)
      | (go_at_call 23; refine Calls.mono (CD _ _ _ _ HE3f.out (HTt.out _ HB4.out)) ?_; rintro e w5 ⟨p5, c5, T5, rfl, hE5, _, _, hb5⟩; have HE5 : Hid (LkW (w5.alloc (.cells #[.slice p5 T5.length c5] 24)) p5 T5 A0) := LkW.alloc hE5 _; have X5 := hidOg (Boxed.new w5 24 (.slice p5 T5.length c5)); have HBt := hidOg (hb5.trans ((HA.out w5 (.cells #[.slice p5 T5.length c5] 24)).mono hb5.size)); have HE2g := hidOg (HE2f.out.to HBt.out); have X2g := hidOg (Boxed.stays X2f.out HBt.out); have HE3g := hidOg (HE3f.out.to HBt.out); have X3g := hidOg (Boxed.stays X3f.out HBt.out); have HB5 := hidOg (HB4.out.trans (HBt.out.mono HB4.out.size)); clear hE5 hb5)
      | (go_at_call_has 15 p5; refine Calls.mono (CF4 _ _ _ _ HE5.out (HTt.out _ HB5.out)) ?_; rintro e w6 ⟨rfl, hb6⟩; have HE2h := hidOg (HE2g.out.to hb6); have X2h := hidOg (Boxed.stays X2g.out hb6); have HE3h := hidOg (HE3g.out.to hb6); have X3h := hidOg (Boxed.stays X3g.out hb6); have HE5h := hidOg (HE5.out.to hb6); have X5h := hidOg (Boxed.stays X5.out hb6); have HB6 := hidOg (HB5.out.trans (hb6.mono HB5.out.size)); clear hb6))
    have KS : Hid (∀ W, Below w6.drew.heap.size w6.drew W → (LkW W p2 L0 A0 ∧ LkW W p3 T3 A1 ∧ LkW W p5 T5 A0 ∧ Below w.heap.size w W) ∧ W.cell? ⟨w5.heap.size, 0, none⟩ = some (.slice p5 T5.length c5) ∧ W.cell? ⟨w2.heap.size, 0, none⟩ = some (.slice p2 l0 c2) ∧ W.cell? ⟨w3.heap.size, 0, none⟩ = some (.slice p3 T3.length c3)) := fun W hb => by
      have h1 : Below w6.heap.size w6 W := (below_drew _ _).trans hb
      exact ⟨⟨HE2h.out.to h1, HE3h.out.to h1, HE5h.out.to h1, HB6.out.trans (h1.mono HB6.out.size)⟩, Boxed.cell (Boxed.stays X5h.out h1), Boxed.cell (Boxed.stays X2h.out h1), Boxed.cell (Boxed.stays X3h.out h1)⟩
    have HZ0 : Hid (Below w6.drew.heap.size w6.drew w6.drew) := Below.refl _ _
    have y5 := Boxed.cell X5h.out
    have y2 := Boxed.cell X2h.out
    have y3 := Boxed.cell X3h.out
    clear CP CF3 CF4 CD CO CW x1 x3f
    go_region_held3 (fun w' => w'.cell? ⟨w5.heap.size, 0, none⟩ = some (.slice p5 T5.length c5) ∧ w'.cell? ⟨w2.heap.size, 0, none⟩ = some (.slice p2 l0 c2) ∧ w'.cell? ⟨w3.heap.size, 0, none⟩ = some (.slice p3 T3.length c3)) (first | with_reducible exact ⟨k0, k1, k2⟩ | go_keep) (first
      | (go_at_call 26; refine Calls.mono (CS' _ _ _ _ _ _ (KS.out _ HZ0.out).1.2.2.1 (KS.out _ HZ0.out).1.1) ?_; rintro e v1 ⟨rfl, hb⟩; have HZ1 := hidOg (HZ0.out.trans (hb.mono HZ0.out.size)); obtain ⟨_, k0, k1, k2⟩ := KS.out _ HZ1.out; clear hb)
      | (go_at_call_has 12 p3; refine Calls.mono (CC _ _ _ _ _ (KS.out _ HZ1.out).1.2.1) ?_; rintro e v2 ⟨rfl, hb⟩; have HZ2 := hidOg (HZ1.out.trans (hb.mono HZ1.out.size)); obtain ⟨_, k0, k1, k2⟩ := KS.out _ HZ2.out; clear hb)
      | (go_at_call_has 12 p5; refine Calls.mono (CC _ _ _ _ _ (KS.out _ HZ2.out).1.2.2.1) ?_; rintro e v3 ⟨rfl, hb⟩; have HZ3 := hidOg (HZ2.out.trans (hb.mono HZ2.out.size)); obtain ⟨_, k0, k1, k2⟩ := KS.out _ HZ3.out; clear hb)
      | (go_at_call_has 14 p3; refine Calls.mono (CM1 _ _ _ _ (KS.out _ HZ3.out).1.2.1) ?_; rintro e v4 ⟨rfl, hb⟩; have HZ4 := hidOg (HZ3.out.trans (hb.mono HZ3.out.size)); obtain ⟨_, k0, k1, k2⟩ := KS.out _ HZ4.out; clear hb)
      | (go_at_call_has 14 p2; refine Calls.mono (CM0 _ _ _ (KS.out _ HZ4.out).1.1) ?_; rintro e v5 ⟨rfl, hb⟩; have HZ5 := hidOg (HZ4.out.trans (hb.mono HZ4.out.size)); obtain ⟨_, k0, k1, k2⟩ := KS.out _ HZ5.out; clear hb))
    all_goals
      go_wp2
      go_ret
      exact ⟨rfl, (KS.out _ HZ5.out).1.2.2.2⟩
  · obtain ⟨er, her⟩ : ∃ er, er = puE L0 t0 n := ⟨_, rfl⟩
    rw [← her] at hp
    have hne : (er != 0) = true := by simpa using hp
    have CP := fun (W : World) (p1 : Option Addr) (c1 : Nat) (h : ERow W.heap.size W p1 L0) (ht : TRow W.heap.size W q t0 d) => put24 p1 L0 c1 q t0 d n W h (by have := h130.out; omega) hlb.out ht (by rw [← HLK.out]; omega) _ (Nat.le_refl _)
    rw [← her, ← HLK.out] at CP
    have HP := hidOg hp
    clear her hp
    go_enter Try.func5, Try.ntmps5
    go_wp2_with (first
      | (go_at_call 7; refine Calls.mono (CW _) ?_; rintro e w1 ⟨rfl, hb1⟩; have x1 := Boxed.cell (Boxed.stays HX0.out hb1); have HB1 := hidOg (HBw.out.trans (hb1.mono HBw.out.size)); clear hb1)
      | (go_at_call 8; refine Calls.mono (CO _ HB1.out) ?_; rintro e w2 ⟨p2, c2, rfl, hE2, hb2⟩; have HE2 := hidOg hE2.row; have HB2 := hidOg (HB1.out.trans (hb2.mono HB1.out.size)); clear hE2 hb2)
      | (go_at_call 24; refine Calls.mono (CP _ _ _ (HE2.out.to (HA.out _ _)) (HTt.out _ (HB2.out.trans ((HA.out _ _).mono HB2.out.size)))) ?_; rintro e w3 ⟨p3, c3, T3, rfl, hE3, hy, hno, hb3⟩; have e3 := hno HP.out; have z3 : ((T3.length : Int) == 0) = true := (by rw [e3]; rfl); have HB3 := hidOg (HB2.out.trans (((HA.out _ _).trans (hb3.mono (HA.out _ _).size)).mono HB2.out.size)); clear hE3 hy hno hb3 e3))
    go_ret
    exact ⟨rfl, HB3.out.trans ((HA.out _ _).mono HB3.out.size)⟩
end Go.Proofs.Ytjnhalomkmdcgaa
