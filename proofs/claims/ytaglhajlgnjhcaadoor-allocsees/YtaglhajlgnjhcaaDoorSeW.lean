/- AllocSees' walk, where the allocator may not be. -/
import Derived.Test.YtaglhajlgnjhcaaDoorSeS
namespace Go.Proofs.YtaglhajlgnjhcaaDoor
open Go.RowKit

theorem hidOg {p : Prop} (h : p) : Hid p := h
theorem equal19_nil (p : Option Addr) (c : Nat) (W : World) : Calls Tryd.prog 19 #[.slice p 0 c, .slice none 0 0] W fun e w' => e = .returned (.bool true) ∧ Below W.heap.size W w' := by
  have h := equal19 p [] c none [] 0 W IRow.nil IRow.nil (by simp)
  rw [samI_refl] at h
  exact h
theorem all_nil {w W : World} {v : Value} (h : W.ownsRow w.heap.size 41 1 v ([] : List Int).length (([] : List Int).map (Value.int .u64))) : ∃ p c, v = .slice p 0 c ∧ True := by
  obtain ⟨p, c, hv, _⟩ := all_row h
  exact ⟨p, c, hv, trivial⟩

set_option maxRecDepth 20000 in
set_option maxHeartbeats 8000000 in
theorem sees_bad (m : Int) (p : Option Addr) (l : List (Int × Bool)) (c : Nat) (q : Option Addr) (f : List Int) (d : Nat) (r : Option Addr) (ids : List Int) (e : Nat) (w : World) (hF : Fr w)
    (hs : SRow w.heap.size w p l) (hi : IRow .i64 w.heap.size w q f) (hp : AdOk p ∨ l.length = 0) (hq : AdOk q ∨ f.length = 0) (c1 : l.length ≤ c) (d1 : f.length ≤ d) (hn : IRow .u64 w.heap.size w r ids) (hid : ∀ k, k < ids.length → 0 ≤ iG ids k ∧ iG ids k < 18446744073709551616) (hm : mayB m (l.take 40) (f.take 40) = false) :
    Calls Tryd.prog 4 #[.agg #[.int .i64 m, .slice p l.length c, .slice q f.length d], .slice r ids.length e] w fun e w' => e = .returned (.bool true) ∧ Below w.heap.size w w' := by
  have CW := fun (o : Obj) => wakes_any (w.alloc o) (hF.alloc o)
  have CO := fun (W : World) (hb : Below w.heap.size w W) => own10 m p l c q f d W (hF.below hb hF.lt) ((hs.below hb (Nat.le_refl _)).mono hb.size) ((hi.below hb (Nat.le_refl _)).mono hb.size) hp hq c1 d1
  have HN := hidOg hn
  have HI := hidOg hid
  obtain ⟨l4, hl4⟩ : ∃ l4, l4 = l.take 40 := ⟨_, rfl⟩
  obtain ⟨f4, hf4⟩ : ∃ f4, f4 = f.take 40 := ⟨_, rfl⟩
  rw [← hl4, ← hf4] at CO hm
  have CR := fun (W : World) (pa : Option Addr) (ca : Nat) (qa : Option Addr) (da : Nat) (h : AIn W pa l4 qa f4) => right12 m ca da W pa l4 qa f4 h
  have CA := fun (W : World) (pa : Option Addr) (ca : Nat) (qa : Option Addr) (da : Nat) (h : AIn W pa l4 qa f4) => all_any m pa l4 ca qa f4 da W h.fr h.s h.i h.ln (by have := h.fn; omega)
  have CM := fun (W : World) (pa : Option Addr) (ca : Nat) (qa : Option Addr) (da : Nat) (h : AIn W pa l4 qa f4) => room_any m ca da W pa l4 qa f4 h
  have CF2 := fun (W : World) (pa : Option Addr) (ca : Nat) (qa : Option Addr) (da : Nat) (p' : Option Addr) (c' : Nat) (q' : Option Addr) (d' : Nat) (h : AIn W pa l4 qa f4) (h' : AIn W p' l4 q' f4) => refSame14 m m ca da c' d' W pa p' l4 l4 qa q' f4 f4 h h'
  have CL := fun (W : World) (pa : Option Addr) (ca : Nat) (qa : Option Addr) (da : Nat) (x : Int) (h0 : 0 ≤ x) (h1 : x < 18446744073709551616) (h : AIn W pa l4 qa f4) => alive_any m ca da x W pa l4 qa f4 h h0 h1
  have CT := fun (W : World) (pa : Option Addr) (ca : Nat) (qa : Option Addr) (da : Nat) (i : Int) (h : AIn W pa l4 qa f4) => at_any m ca da i W pa l4 qa f4 h
  rw [sameB_refl] at CF2
  rw [right_may, hm] at CR
  rw [show allM m l4 f4 = [] by unfold allM; rw [hm]; rfl] at CA
  rw [show roomM m l4 f4 = 0 by unfold roomM; rw [hm]; rfl] at CM
  have CL := fun (W : World) (pa : Option Addr) (ca : Nat) (qa : Option Addr) (da : Nat) (x : Int) (h0 : 0 ≤ x) (h1 : x < 18446744073709551616) (h : AIn W pa l4 qa f4) => (show aliveM m l4 f4 x = false by unfold aliveM; rw [hm]; rfl) ▸ CL W pa ca qa da x h0 h1 h
  have CT := fun (W : World) (pa : Option Addr) (ca : Nat) (qa : Option Addr) (da : Nat) (i : Int) (h : AIn W pa l4 qa f4) => (show atV m l4 f4 i = 0 by unfold atV atOk; rw [hm]; rfl) ▸ (show atOk m l4 f4 i = false by unfold atOk; rw [hm]; rfl) ▸ CT W pa ca qa da i h
  clear hm
  clear hF hs hi hp hq c1 d1 hn hid hl4 hf4
  go_enter Tryd.func4, Tryd.ntmps4
  go_wp2_with (first | (go_at_call 9; with_reducible refine Calls.mono (CW _) ?_; rintro e w1 ⟨rfl, hb1⟩; obtain ⟨a0, a1, a2, hz1⟩ := box3 hb1; have HB1 := hidOg hb1; clear hb1) | (go_at_call 10; with_reducible refine Calls.mono (CO _ (below1 HB1.out)) ?_; rintro e w2 ⟨pa, ca, qa, da, rfl, hix, hb2⟩; have H2 := hidOg (S2.start (m := m) (c := ca) (d := da) HB1.out hb2 hix.i); clear hix hb2) | (go_at_call 12; with_reducible refine Calls.mono (CR _ _ _ _ _ H2.out.ia) ?_; rintro e w3 ⟨rfl, hb3⟩; have H3 := hidOg (H2.out.below hb3); obtain ⟨b0, b1, b2, x0, x1, x2⟩ := H3.out.s6; clear hb3) | (go_at_call 20; with_reducible refine Calls.mono (CA _ _ _ _ _ H3.out.ia) ?_; rintro e w4 ⟨v, rfl, hv, hb4⟩; obtain ⟨pv, cv, rfl, _⟩ := all_nil hv; have H4 := hidOg (H3.out.below hb4); obtain ⟨d0, d1, d2, e0, e1, e2⟩ := H4.out.s6; clear hv hb4) | (go_at_call 19; with_reducible refine Calls.mono (equal19_nil _ _ _) ?_; rintro e w5 ⟨rfl, hb5⟩; have H5 := hidOg (H4.out.below hb5); obtain ⟨g0, g1, g2, i0, i1, i2⟩ := H5.out.s6; clear hb5) | (go_at_call 21; with_reducible refine Calls.mono (CM _ _ _ _ _ H5.out.ia) ?_; rintro e w6 ⟨rfl, hb6⟩; have H6 := hidOg (H5.out.below hb6); clear hb6))
  clear CW CR CA CM H2 H3 H4 H5 HB1 a0 a1 a2 b0 b1 b2 x0 x1 x2 d0 d1 d2 e0 e1 e2 g0 g1 g2 i0 i1 i2
  go_loopw [42] (fun i wr => ∃ k : Nat, k ≤ ids.length ∧ k ≤ 12 ∧ i = .int .i64 k ∧ S2 w wr (.int .i64 m) (.slice p l.length c) (.slice q f.length d) m l4 f4 w2.heap.size pa ca qa da) (fun i _ => ids.length - (intOf i).toNat)
  case atStart => exact ⟨0, Nat.zero_le _, by omega, rfl, H6.out⟩
  case round =>
    obtain ⟨k, hk, hk6, rfl, hM⟩ := hrel
    have MR := hidOg hM
    obtain ⟨b0, b1, b2, x0, x1, x2⟩ := hM.s6
    clear hM
    by_cases hk' : k < ids.length
    · obtain ⟨b, off, rfl, hbB, hcs⟩ := (HN.out.below MR.out.b (Nat.le_refl _)) (by omega)
      have c0 := hcs k hk'
      clear hcs
      obtain ⟨h0, h1⟩ := HI.out k hk'
      obtain ⟨y, hy⟩ : ∃ y, y = iG ids k := ⟨_, rfl⟩
      rw [← hy] at c0 h0 h1
      clear hy
      by_cases h6 : k = 12
      · subst h6
        go_wp2
        go_region_held3 (fun w' => w'.cell? ⟨w2.heap.size, 0, none⟩ = some (.int .i64 m) ∧ w'.cell? ⟨w2.heap.size, 1, none⟩ = some (.slice pa l4.length ca) ∧ w'.cell? ⟨w2.heap.size, 2, none⟩ = some (.slice qa f4.length da) ∧ w'.cell? ⟨w.heap.size, 0, none⟩ = some (.int .i64 m) ∧ w'.cell? ⟨w.heap.size, 1, none⟩ = some (.slice p l.length c) ∧ w'.cell? ⟨w.heap.size, 2, none⟩ = some (.slice q f.length d)) (first | with_reducible exact M22.out.s6 | with_reducible exact M21.out.s6 | with_reducible exact MR.out.drew.s6 | with_reducible exact MR.out.s6 | fail) (first | (go_at_call 10; with_reducible refine Calls.mono (CO _ MR.out.drew.b) ?_; rintro e w21 ⟨p9, c9, q9, d9, rfl, hx9, hb9⟩; have M21 := hidOg (MR.out.drew.below hb9); have X21 := hidOg hx9.i; clear hx9 hb9) | (go_at_call 14; with_reducible refine Calls.mono (CF2 _ _ _ _ _ _ _ _ _ M21.out.ia X21.out) ?_; rintro e w22 ⟨rfl, hb10⟩; have M22 := hidOg (M21.out.below hb10); clear hb10))
        all_goals go_wp2
        all_goals go_ret
        all_goals exact ⟨rfl, M22.out.b⟩
      · have h6' : ¬ ((k : Int) = 12) := by omega
        go_wp2_with (first | (go_at_call 22; with_reducible refine Calls.mono (CL _ _ _ _ _ _ h0 h1 MR.out.ia) ?_; rintro e w7 ⟨rfl, hb7⟩; have M7 := hidOg (MR.out.below hb7); obtain ⟨j0, j1, j2, k0, k1, k2⟩ := M7.out.s6; clear hb7) | (go_at_call 24; with_reducible refine Calls.mono (CT _ _ _ _ _ _ M7.out.ia) ?_; rintro e w8 ⟨rfl, hb8⟩; have M8 := hidOg (M7.out.below hb8); obtain ⟨o0, o1, o2, q0, q1, q2⟩ := M8.out.s6; clear hb8))
        clear b0 b1 b2 x0 x1 x2 j0 j1 j2 k0 k1 k2 o0 o1 o2 q0 q1 q2
        go_loopw [14, 15, 71] (fun v o i wr' => v = .int .u64 0 ∧ o = .bool false ∧ i = .int .i64 0 ∧ S2 w wr' (.int .i64 m) (.slice p l.length c) (.slice q f.length d) m l4 f4 w2.heap.size pa ca qa da) (fun _ _ _ _ => 0)
        case atStart => exact ⟨rfl, rfl, rfl, M8.out⟩
        case round =>
          obtain ⟨rfl, rfl, rfl, hM9⟩ := hrel
          have M9 := hidOg hM9
          clear hM9
          go_wp2
          go_roundw
          case rel => exact ⟨k + 1, by omega, by omega, by go_num, M9.out⟩
          case measure => simp [intOf]; omega
    · obtain rfl : k = ids.length := by omega
      go_wp2
      go_region_held3 (fun w' => w'.cell? ⟨w2.heap.size, 0, none⟩ = some (.int .i64 m) ∧ w'.cell? ⟨w2.heap.size, 1, none⟩ = some (.slice pa l4.length ca) ∧ w'.cell? ⟨w2.heap.size, 2, none⟩ = some (.slice qa f4.length da) ∧ w'.cell? ⟨w.heap.size, 0, none⟩ = some (.int .i64 m) ∧ w'.cell? ⟨w.heap.size, 1, none⟩ = some (.slice p l.length c) ∧ w'.cell? ⟨w.heap.size, 2, none⟩ = some (.slice q f.length d)) (first | with_reducible exact M22.out.s6 | with_reducible exact M21.out.s6 | with_reducible exact MR.out.drew.s6 | with_reducible exact MR.out.s6 | fail) (first | (go_at_call 10; with_reducible refine Calls.mono (CO _ MR.out.drew.b) ?_; rintro e w21 ⟨p9, c9, q9, d9, rfl, hx9, hb9⟩; have M21 := hidOg (MR.out.drew.below hb9); have X21 := hidOg hx9.i; clear hx9 hb9) | (go_at_call 14; with_reducible refine Calls.mono (CF2 _ _ _ _ _ _ _ _ _ M21.out.ia X21.out) ?_; rintro e w22 ⟨rfl, hb10⟩; have M22 := hidOg (M21.out.below hb10); clear hb10))
      all_goals go_wp2
      all_goals go_ret
      all_goals exact ⟨rfl, M22.out.b⟩
end Go.Proofs.YtaglhajlgnjhcaaDoor
