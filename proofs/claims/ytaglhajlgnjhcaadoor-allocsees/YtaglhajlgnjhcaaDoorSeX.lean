/- AllocSees' walk, where the allocator may be. -/
import Derived.Test.YtaglhajlgnjhcaaDoorSeW
namespace Go.Proofs.YtaglhajlgnjhcaaDoor
open Go.RowKit

theorem liv_mem {l : List (Int × Bool)} (hn : l.length ≤ 1048578) (hg : ∀ k, k < l.length → 0 ≤ sG l k ∧ sG l k ≤ 7) {k : Nat} (hk : k ≤ l.length) : ∀ z ∈ livN l k, 0 ≤ z ∧ z < 18446744073709551616 := by
  induction k with
  | zero => intro z hz; simp [livN] at hz
  | succ k ih =>
    intro z hz
    obtain ⟨g0, g1⟩ := hg k (by omega)
    cases ha : sA l k
    · rw [livN_f ha] at hz; exact ih (by omega) z hz
    · rw [livN_t ha, List.mem_append] at hz
      rcases hz with hz | hz
      · exact ih (by omega) z hz
      · have e := ent_eq (i := (k : Int) + 1) (by omega) (by omega) g0 g1
        simp only [List.mem_singleton] at hz
        rw [hz, e]; omega
theorem liv_bound {l : List (Int × Bool)} (hn : l.length ≤ 1048578) (hg : ∀ k, k < l.length → 0 ≤ sG l k ∧ sG l k ≤ 7) {k : Nat} (hk : k ≤ l.length) : ∀ j, j < (livN l k).length → 0 ≤ iG (livN l k) j ∧ iG (livN l k) j < 18446744073709551616 := by
  intro j hj
  refine liv_mem hn hg hk _ ?_
  have e : iG (livN l k) j = (livN l k)[j] := by simp [iG, hj]
  rw [e]; exact List.getElem_mem hj
theorem scanN_t {xs : List Int} {t : Int} {j : Nat} (h : iG xs j % 4294967296 = t) : scanN xs t (j + 1) = (iG xs j, true) := by
  show (if iG xs j % 4294967296 = t then _ else _) = _; rw [if_pos h]
theorem scanN_f {xs : List Int} {t : Int} {j : Nat} (h : ¬ iG xs j % 4294967296 = t) : scanN xs t (j + 1) = scanN xs t j := by
  show (if iG xs j % 4294967296 = t then _ else _) = _; rw [if_neg h]

set_option maxRecDepth 20000 in
set_option maxHeartbeats 8000000 in
theorem sees_good (m : Int) (p : Option Addr) (l : List (Int × Bool)) (c : Nat) (q : Option Addr) (f : List Int) (d : Nat) (r : Option Addr) (ids : List Int) (e : Nat) (w : World) (hF : Fr w)
    (hs : SRow w.heap.size w p l) (hi : IRow .i64 w.heap.size w q f) (hp : AdOk p ∨ l.length = 0) (hq : AdOk q ∨ f.length = 0) (c1 : l.length ≤ c) (d1 : f.length ≤ d) (hn : IRow .u64 w.heap.size w r ids) (hid : ∀ k, k < ids.length → 0 ≤ iG ids k ∧ iG ids k < 18446744073709551616) (hm : mayB m (l.take 40) (f.take 40) = true) :
    Calls Tryd.prog 4 #[.agg #[.int .i64 m, .slice p l.length c, .slice q f.length d], .slice r ids.length e] w fun e w' => e = .returned (.bool true) ∧ Below w.heap.size w w' := by
  have CW := fun (o : Obj) => wakes_any (w.alloc o) (hF.alloc o)
  have CO := fun (W : World) (hb : Below w.heap.size w W) => own10 m p l c q f d W (hF.below hb hF.lt) ((hs.below hb (Nat.le_refl _)).mono hb.size) ((hi.below hb (Nat.le_refl _)).mono hb.size) hp hq c1 d1
  have HN := hidOg hn
  have HI := hidOg hid
  obtain ⟨l4, hl4⟩ : ∃ l4, l4 = l.take 40 := ⟨_, rfl⟩
  obtain ⟨f4, hf4⟩ : ∃ f4, f4 = f.take 40 := ⟨_, rfl⟩
  rw [← hl4, ← hf4] at CO hm
  have CR := fun (W : World) (pa : Option Addr) (ca : Nat) (qa : Option Addr) (da : Nat) (h : AIn W pa l4 qa f4) => right12 m ca da W pa l4 qa f4 h
  have CA := fun (W : World) (pa : Option Addr) (ca : Nat) (qa : Option Addr) (da : Nat) (h : AIn W pa l4 qa f4) => all_any m pa l4 ca qa f4 da W h.fr h.s h.i h.ln (by have := h.fn; omega)
  have CM := fun (W : World) (pa : Option Addr) (ca : Nat) (qa : Option Addr) (da : Nat) (h : AIn W pa l4 qa f4) => room_any m ca da W pa l4 qa f4 h
  have CF2 := fun (W : World) (pa : Option Addr) (ca : Nat) (qa : Option Addr) (da : Nat) (p' : Option Addr) (c' : Nat) (q' : Option Addr) (d' : Nat) (h : AIn W pa l4 qa f4) (h' : AIn W p' l4 q' f4) => refSame14 m m ca da c' d' W pa p' l4 l4 qa q' f4 f4 h h'
  have CL := fun (W : World) (pa : Option Addr) (ca : Nat) (qa : Option Addr) (da : Nat) (x : Int) (h0 : 0 ≤ x) (h1 : x < 18446744073709551616) (h : AIn W pa l4 qa f4) => alive_any m ca da x W pa l4 qa f4 h h0 h1
  have CT := fun (W : World) (pa : Option Addr) (ca : Nat) (qa : Option Addr) (da : Nat) (i : Int) (h : AIn W pa l4 qa f4) => at_any m ca da i W pa l4 qa f4 h
  rw [sameB_refl] at CF2
  rw [right_may, hm] at CR
  rw [show allM m l4 f4 = livN l4 l4.length by unfold allM; rw [hm]; rfl] at CA
  have hlx : (livN l4 l4.length).length ≤ 8796093022208 := by have := livN_len l4 l4.length; have := (may_slots hm).1; omega
  have HB := hidOg (liv_bound (may_slots hm).1 (may_slots hm).2 (Nat.le_refl _))
  have HSC := hidOg (fun t => scan_at hm t)
  have C17 := fun (W : World) (pa : Option Addr) (ca : Nat) (qa : Option Addr) (da : Nat) (h : AIn W pa l4 qa f4) => refAll17 m pa l4 ca qa f4.length da W h.s (may_slots hm).1 (may_slots hm).2
  have C18 := fun (W : World) (pa : Option Addr) (ca : Nat) (qa : Option Addr) (da : Nat) (h : AIn W pa l4 qa f4) => refRoom18 m ca da W pa l4 qa f4 h hm
  have CI := fun (W : World) (pa : Option Addr) (ca : Nat) (qa : Option Addr) (da : Nat) (x : Int) (h : AIn W pa l4 qa f4) => (is_lives (x := x) (may_slots hm).1 (may_slots hm).2) ▸ is23 m pa l4 ca qa f4.length da x W h.s (may_slots hm).1 (may_slots hm).2
  have CL := fun (W : World) (pa : Option Addr) (ca : Nat) (qa : Option Addr) (da : Nat) (x : Int) (h0 : 0 ≤ x) (h1 : x < 18446744073709551616) (h : AIn W pa l4 qa f4) => (show aliveM m l4 f4 x = livesB l4 x by unfold aliveM; rw [hm]; rfl) ▸ CL W pa ca qa da x h0 h1 h
  obtain ⟨rv, hrv⟩ : ∃ rv, rv = roomM m l4 f4 := ⟨_, rfl⟩
  rw [← hrv] at CM C18
  obtain ⟨xs, hxs⟩ : ∃ xs, xs = livN l4 l4.length := ⟨_, rfl⟩
  rw [← hxs] at CA C17 hlx HB HSC
  have C19 := fun (W : World) (pA : Option Addr) (cA : Nat) (pB : Option Addr) (cB : Nat) (h : IRow .u64 W.heap.size W pA xs) (h' : IRow .u64 W.heap.size W pB xs) => equal19 pA xs cA pB xs cB W h h' hlx
  rw [samI_refl] at C19
  clear hm hrv hxs
  clear hF hs hi hp hq c1 d1 hn hid hl4 hf4
  go_enter Tryd.func4, Tryd.ntmps4
  go_wp2_with (first | (go_at_call 9; with_reducible refine Calls.mono (CW _) ?_; rintro e w1 ⟨rfl, hb1⟩; obtain ⟨a0, a1, a2, hz1⟩ := box3 hb1; have HB1 := hidOg hb1; clear hb1) | (go_at_call 10; with_reducible refine Calls.mono (CO _ (below1 HB1.out)) ?_; rintro e w2 ⟨pa, ca, qa, da, rfl, hix, hb2⟩; have H2 := hidOg (S2.start (m := m) (c := ca) (d := da) HB1.out hb2 hix.i); clear hix hb2) | (go_at_call 12; with_reducible refine Calls.mono (CR _ _ _ _ _ H2.out.ia) ?_; rintro e w3 ⟨rfl, hb3⟩; have H3 := hidOg (H2.out.below hb3); obtain ⟨b0, b1, b2, x0, x1, x2⟩ := H3.out.s6; clear hb3))
  go_region_held3 (fun w' => w'.cell? ⟨w2.heap.size, 0, none⟩ = some (.int .i64 m) ∧ w'.cell? ⟨w2.heap.size, 1, none⟩ = some (.slice pa l4.length ca) ∧ w'.cell? ⟨w2.heap.size, 2, none⟩ = some (.slice qa f4.length da) ∧ w'.cell? ⟨w.heap.size, 0, none⟩ = some (.int .i64 m) ∧ w'.cell? ⟨w.heap.size, 1, none⟩ = some (.slice p l.length c) ∧ w'.cell? ⟨w.heap.size, 2, none⟩ = some (.slice q f.length d)) (first | with_reducible exact H5.out.s6 | with_reducible exact H4.out.s6 | with_reducible exact H3.out.drew.s6 | with_reducible exact H3.out.s6 | fail) (first | (go_at_call 17; with_reducible refine Calls.mono (C17 _ _ _ _ _ H3.out.drew.ia) ?_; rintro e w4 ⟨v, rfl, hv⟩; obtain ⟨pv, cv, rfl, hpv⟩ := av_row hv; have H4 := hidOg (H3.out.drew.below hv.b); have HP4 := hidOg hpv; clear hv hpv) | (go_at_call 18; with_reducible refine Calls.mono (C18 _ _ _ _ _ H4.out.ia) ?_; rintro e w5 ⟨rfl, hb5⟩; have H5 := hidOg (H4.out.below hb5); have HP5 := hidOg ((HP4.out.below hb5 (Nat.le_refl _)).mono hb5.size); obtain ⟨b0, b1, b2, x0, x1, x2⟩ := H5.out.s6; clear hb5))
  go_wp2_with (first | (go_at_call 20; with_reducible refine Calls.mono (CA _ _ _ _ _ H5.out.ia) ?_; rintro e w6 ⟨v, rfl, hv, hb6⟩; obtain ⟨pu, cu, rfl, hpu⟩ := all_row hv; have HU6 := hidOg hpu; have H6 := hidOg (H5.out.below hb6); have HP6 := hidOg ((HP5.out.below hb6 (Nat.le_refl _)).mono hb6.size); obtain ⟨d0, d1, d2, e0, e1, e2⟩ := H6.out.s6; clear hv hb6 hpu) | (go_at_call 19; with_reducible refine Calls.mono (C19 _ _ _ _ _ HU6.out HP6.out) ?_; rintro e w7 ⟨rfl, hb7⟩; have H7 := hidOg (H6.out.below hb7); have HP7 := hidOg ((HP6.out.below hb7 (Nat.le_refl _)).mono hb7.size); obtain ⟨g0, g1, g2, i0, i1, i2⟩ := H7.out.s6; clear hb7) | (go_at_call 21; with_reducible refine Calls.mono (CM _ _ _ _ _ H7.out.ia) ?_; rintro e w8 ⟨rfl, hb8⟩; have H8 := hidOg (H7.out.below hb8); have HP8 := hidOg ((HP7.out.below hb8 (Nat.le_refl _)).mono hb8.size); clear hb8))
  clear CW CR CA CM C17 C18 C19 H2 H3 H4 H5 H6 H7 HP4 HP5 HP6 HP7 HU6 HB1 a0 a1 a2 b0 b1 b2 x0 x1 x2 d0 d1 d2 e0 e1 e2 g0 g1 g2 i0 i1 i2
  go_loopw [42] (fun i wr => ∃ k : Nat, k ≤ ids.length ∧ k ≤ 12 ∧ i = .int .i64 k ∧ S2 w wr (.int .i64 m) (.slice p l.length c) (.slice q f.length d) m l4 f4 w2.heap.size pa ca qa da ∧ IRow .u64 wr.heap.size wr pv xs) (fun i _ => ids.length - (intOf i).toNat)
  case atStart => exact ⟨0, Nat.zero_le _, by omega, rfl, H8.out, HP8.out⟩
  case round =>
    obtain ⟨k, hk, hk6, rfl, hM, hP⟩ := hrel
    have MR := hidOg hM
    have PR := hidOg hP
    obtain ⟨b0, b1, b2, x0, x1, x2⟩ := hM.s6
    clear hM hP
    by_cases hk' : k < ids.length
    · obtain ⟨b, off, rfl, hbB, hcs⟩ := (HN.out.below MR.out.b (Nat.le_refl _)) (by omega)
      have c0 := hcs k hk'
      clear hcs
      obtain ⟨h0, h1⟩ := HI.out k hk'
      obtain ⟨y, hy⟩ : ∃ y, y = iG ids k := ⟨_, rfl⟩
      rw [← hy] at c0 h0 h1
      clear hy
      by_cases h6 : k = 12
      · subst h6
        go_wp2
        go_region_held3 (fun w' => w'.cell? ⟨w2.heap.size, 0, none⟩ = some (.int .i64 m) ∧ w'.cell? ⟨w2.heap.size, 1, none⟩ = some (.slice pa l4.length ca) ∧ w'.cell? ⟨w2.heap.size, 2, none⟩ = some (.slice qa f4.length da) ∧ w'.cell? ⟨w.heap.size, 0, none⟩ = some (.int .i64 m) ∧ w'.cell? ⟨w.heap.size, 1, none⟩ = some (.slice p l.length c) ∧ w'.cell? ⟨w.heap.size, 2, none⟩ = some (.slice q f.length d)) (first | with_reducible exact M22.out.s6 | with_reducible exact M21.out.s6 | with_reducible exact MR.out.drew.s6 | with_reducible exact MR.out.s6 | fail) (first | (go_at_call 10; with_reducible refine Calls.mono (CO _ MR.out.drew.b) ?_; rintro e w21 ⟨p9, c9, q9, d9, rfl, hx9, hb9⟩; have M21 := hidOg (MR.out.drew.below hb9); have X21 := hidOg hx9.i; clear hx9 hb9) | (go_at_call 14; with_reducible refine Calls.mono (CF2 _ _ _ _ _ _ _ _ _ M21.out.ia X21.out) ?_; rintro e w22 ⟨rfl, hb10⟩; have M22 := hidOg (M21.out.below hb10); clear hb10))
        all_goals go_wp2
        all_goals go_ret
        all_goals exact ⟨rfl, M22.out.b⟩
      · have h6' : ¬ ((k : Int) = 12) := by omega
        obtain ⟨bv, hbv⟩ : ∃ bv, bv = livesB l4 y := ⟨_, rfl⟩
        have CLy := fun (W : World) (pa : Option Addr) (ca : Nat) (qa : Option Addr) (da : Nat) (h : AIn W pa l4 qa f4) => hbv ▸ CL W pa ca qa da y h0 h1 h
        have CIy := fun (W : World) (pa : Option Addr) (ca : Nat) (qa : Option Addr) (da : Nat) (h : AIn W pa l4 qa f4) => hbv ▸ CI W pa ca qa da y h
        have CTy := fun (W : World) (pa : Option Addr) (ca : Nat) (qa : Option Addr) (da : Nat) (h : AIn W pa l4 qa f4) => CT W pa ca qa da (y % 64 - 2) h
        have HSy := hidOg (HSC.out (y % 64 - 2))
        obtain ⟨av, hav⟩ : ∃ av, av = atV m l4 f4 (y % 64 - 2) := ⟨_, rfl⟩
        obtain ⟨ao, hao⟩ : ∃ ao, ao = atOk m l4 f4 (y % 64 - 2) := ⟨_, rfl⟩
        rw [← hav, ← hao] at CTy HSy
        clear hbv hav hao
        go_wp2_with (first | (go_at_call 22; with_reducible refine Calls.mono (CLy _ _ _ _ _ MR.out.ia) ?_; rintro e w9 ⟨rfl, hb9⟩; have M9 := hidOg (MR.out.below hb9); have P9 := hidOg ((PR.out.below hb9 (Nat.le_refl _)).mono hb9.size); obtain ⟨j0, j1, j2, k0, k1, k2⟩ := M9.out.s6; clear hb9) | (go_at_call 23; with_reducible refine Calls.mono (CIy _ _ _ _ _ M9.out.ia) ?_; rintro e w10 ⟨rfl, hb10⟩; have M10 := hidOg (M9.out.below hb10); have P10 := hidOg ((P9.out.below hb10 (Nat.le_refl _)).mono hb10.size); obtain ⟨l0, l1, l2, n0, n1, n2⟩ := M10.out.s6; clear hb10) | (go_at_call 24; with_reducible refine Calls.mono (CTy _ _ _ _ _ M10.out.ia) ?_; rintro e w11 ⟨rfl, hb11⟩; have M11 := hidOg (M10.out.below hb11); have P11 := hidOg ((P10.out.below hb11 (Nat.le_refl _)).mono hb11.size); clear hb11))
        clear b0 b1 b2 x0 x1 x2 j0 j1 j2 k0 k1 k2 l0 l1 l2 n0 n1 n2
        go_loopw [14, 15, 71] (fun v o i wr' => ∃ j : Nat, j ≤ xs.length ∧ i = .int .i64 j ∧ v = .int .u64 (scanN xs (y % 64 - 2) j).1 ∧ o = .bool (scanN xs (y % 64 - 2) j).2 ∧ S2 w wr' (.int .i64 m) (.slice p l.length c) (.slice q f.length d) m l4 f4 w2.heap.size pa ca qa da ∧ IRow .u64 wr'.heap.size wr' pv xs) (fun _ _ i _ => xs.length - (intOf i).toNat)
        case atStart => exact ⟨0, Nat.zero_le _, rfl, rfl, rfl, M11.out, P11.out⟩
        case round =>
          obtain ⟨j, hj, rfl, hvv, hoo, hM2, hP2⟩ := hrel
          have M12 := hidOg hM2
          have P12 := hidOg hP2
          clear hM2 hP2
          by_cases hj' : j < xs.length
          · obtain ⟨b', off', rfl, hbB', hcs'⟩ := P12.out (by omega)
            have c1 := hcs' j hj'
            clear hcs'
            obtain ⟨z0, z1⟩ := HB.out j hj'
            obtain ⟨z, hz⟩ : ∃ z, z = iG xs j := ⟨_, rfl⟩
            rw [← hz] at c1 z0 z1
            have HZ := hidOg hz
            clear hz
            subst hvv
            subst hoo
            by_cases ht : z % 4294967296 = y % 64 - 2
            · have HT := hidOg ht
              go_wp2
              go_roundw
              case rel => exact ⟨j + 1, by omega, by go_num, by rw [scanN_t (by rw [← HZ.out]; exact HT.out), HZ.out], by rw [scanN_t (by rw [← HZ.out]; exact HT.out)], M12.out, P12.out⟩
              case measure => simp [intOf]; omega
            · have HT := hidOg ht
              go_wp2
              go_roundw
              case rel => exact ⟨j + 1, by omega, by go_num, by rw [scanN_f (by rw [← HZ.out]; exact HT.out)], by rw [scanN_f (by rw [← HZ.out]; exact HT.out)], M12.out, P12.out⟩
              case measure => simp [intOf]; omega
          · obtain rfl : j = xs.length := by omega
            rw [HSy.out] at hvv hoo
            subst hvv
            subst hoo
            go_wp2
            go_roundw
            case rel => exact ⟨k + 1, by omega, by omega, by go_num, M12.out, P12.out⟩
            case measure => simp [intOf]; omega
    · obtain rfl : k = ids.length := by omega
      go_wp2
      go_region_held3 (fun w' => w'.cell? ⟨w2.heap.size, 0, none⟩ = some (.int .i64 m) ∧ w'.cell? ⟨w2.heap.size, 1, none⟩ = some (.slice pa l4.length ca) ∧ w'.cell? ⟨w2.heap.size, 2, none⟩ = some (.slice qa f4.length da) ∧ w'.cell? ⟨w.heap.size, 0, none⟩ = some (.int .i64 m) ∧ w'.cell? ⟨w.heap.size, 1, none⟩ = some (.slice p l.length c) ∧ w'.cell? ⟨w.heap.size, 2, none⟩ = some (.slice q f.length d)) (first | with_reducible exact M22.out.s6 | with_reducible exact M21.out.s6 | with_reducible exact MR.out.drew.s6 | with_reducible exact MR.out.s6 | fail) (first | (go_at_call 10; with_reducible refine Calls.mono (CO _ MR.out.drew.b) ?_; rintro e w21 ⟨p9, c9, q9, d9, rfl, hx9, hb9⟩; have M21 := hidOg (MR.out.drew.below hb9); have X21 := hidOg hx9.i; clear hx9 hb9) | (go_at_call 14; with_reducible refine Calls.mono (CF2 _ _ _ _ _ _ _ _ _ M21.out.ia X21.out) ?_; rintro e w22 ⟨rfl, hb10⟩; have M22 := hidOg (M21.out.below hb10); clear hb10))
      all_goals go_wp2
      all_goals go_ret
      all_goals exact ⟨rfl, M22.out.b⟩
end Go.Proofs.YtaglhajlgnjhcaaDoor
