/- Alive, At, Room, Check. -/
import Derived.Test.YtaglhajlgnjhcaaDoorAlJ
namespace Go.Proofs.YtaglhajlgnjhcaaDoor
open Go.RowKit

/-- An allocator's two rows lie in w, whose variable 'fresh' reads as it was laid. -/
structure AIn (w : World) (p : Option Addr) (l : List (Int × Bool)) (q : Option Addr) (f : List Int) : Prop where
  fr : Fr w
  s : SRow w.heap.size w p l
  i : IRow .i64 w.heap.size w q f
  ln : l.length ≤ 8796093022208
  fn : f.length ≤ 8796093022208
theorem AIn.below {w w' : World} {p : Option Addr} {l : List (Int × Bool)} {q : Option Addr} {f : List Int} (h : AIn w p l q f) (hb : Below w.heap.size w w') : AIn w' p l q f :=
  ⟨h.fr.below hb h.fr.lt, (h.s.below hb (Nat.le_refl _)).mono hb.size, (h.i.below hb (Nat.le_refl _)).mono hb.size, h.ln, h.fn⟩
theorem AIn.alloc {w : World} {p : Option Addr} {l : List (Int × Bool)} {q : Option Addr} {f : List Int} (h : AIn w p l q f) (o : Obj) : AIn (w.alloc o) p l q f :=
  h.below ((Below.refl _ _).alloc (Nat.le_refl _) _)
theorem may_in (m : Int) (c d : Nat) {w : World} {p : Option Addr} {l : List (Int × Bool)} {q : Option Addr} {f : List Int} (h : AIn w p l q f) :
    Calls Tryd.prog 34 #[.agg #[.int .i64 m, .slice p l.length c, .slice q f.length d]] w fun e w' => e = .returned (.bool (mayB m l f)) ∧ Below w.heap.size w w' :=
  mayBe_any m l f p c q d w h.fr h.s h.i (by have := h.ln; omega) (by have := h.fn; omega)

def chkE (m : Int) (l : List (Int × Bool)) (f : List Int) : Int := if mayB m l f then 0 else 120
theorem check_any (m : Int) (c d : Nat) (w : World) (p : Option Addr) (l : List (Int × Bool)) (q : Option Addr) (f : List Int) (h : AIn w p l q f) :
    Calls Tryd.prog 11 #[.agg #[.int .i64 m, .slice p l.length c, .slice q f.length d]] w fun e w' => e = .returned (.int .i64 (chkE m l f)) ∧ Below w.heap.size w w' := by
  have CM := fun (o : Obj) => may_in m c d (h.alloc o)
  cases hm : mayB m l f
  all_goals
    rw [hm] at CM
    have HE : Hid (chkE m l f = _) := (show chkE m l f = if mayB m l f then 0 else 120 from rfl)
    have HM : Hid (mayB m l f = _) := hm
    clear hm
    go_enter Tryd.func11, Tryd.ntmps11
    go_wp2_with (first | (go_at_call 34; refine Calls.mono (CM _) ?_; rintro e w1 ⟨rfl, hb⟩))
    go_ret
    exact ⟨ret_int (by rw [HE.out, HM.out]; rfl), below1 hb⟩

def roomM (m : Int) (l : List (Int × Bool)) (f : List Int) : Int := if mayB m l f then f.length + m + 2 - l.length else 0
theorem mayB_most {m : Int} {l : List (Int × Bool)} {f : List Int} (h : mayB m l f = true) : 1 ≤ m ∧ m ≤ 1048576 ∧ 2 ≤ l.length ∧ (l.length : Int) ≤ m + 2 := by
  unfold mayB szB mostB at h; simp at h; omega
theorem room_any (m : Int) (c d : Nat) (w : World) (p : Option Addr) (l : List (Int × Bool)) (q : Option Addr) (f : List Int) (h : AIn w p l q f) :
    Calls Tryd.prog 21 #[.agg #[.int .i64 m, .slice p l.length c, .slice q f.length d]] w fun e w' => e = .returned (.int .i64 (roomM m l f)) ∧ Below w.heap.size w w' := by
  have CM := fun (o : Obj) => may_in m c d (h.alloc o)
  have l1 := h.ln
  have l2 := h.fn
  have HE : Hid (roomM m l f = _) := (show roomM m l f = if mayB m l f then f.length + m + 2 - l.length else 0 from rfl)
  cases hm : mayB m l f
  · rw [hm] at CM
    have HM : Hid (mayB m l f = _) := hm
    clear hm
    go_enter Tryd.func21, Tryd.ntmps21
    go_wp2_with (first | (go_at_call 34; refine Calls.mono (CM _) ?_; rintro e w1 ⟨rfl, hb⟩; obtain ⟨a0, a1, a2, hz⟩ := box3 hb))
    go_ret
    exact ⟨ret_int (by rw [HE.out, HM.out]; rfl), below1 hb⟩
  · rw [hm] at CM
    obtain ⟨m1, m2, m3, m4⟩ := mayB_most hm
    have HM : Hid (mayB m l f = _) := hm
    clear hm
    go_enter Tryd.func21, Tryd.ntmps21
    go_wp2_with (first | (go_at_call 34; refine Calls.mono (CM _) ?_; rintro e w1 ⟨rfl, hb⟩; obtain ⟨a0, a1, a2, hz⟩ := box3 hb))
    go_ret
    exact ⟨ret_int (by rw [HE.out, HM.out]; rfl), below1 hb⟩

def aliveM (m : Int) (l : List (Int × Bool)) (f : List Int) (x : Int) : Bool := mayB m l f && livesB l x
theorem alive_any (m : Int) (c d : Nat) (x : Int) (w : World) (p : Option Addr) (l : List (Int × Bool)) (q : Option Addr) (f : List Int) (h : AIn w p l q f) (h0 : 0 ≤ x) (h1 : x < 18446744073709551616) :
    Calls Tryd.prog 22 #[.agg #[.int .i64 m, .slice p l.length c, .slice q f.length d], .int .u64 x] w fun e w' => e = .returned (.bool (aliveM m l f x)) ∧ Below w.heap.size w w' := by
  have CM := fun (o : Obj) => may_in m c d (h.alloc o)
  have HE : Hid (aliveM m l f x = _) := (show aliveM m l f x = (mayB m l f && livesB l x) from rfl)
  cases hm : mayB m l f
  · rw [hm] at CM
    have HM : Hid (mayB m l f = _) := hm
    clear hm
    go_enter Tryd.func22, Tryd.ntmps22
    go_wp2_with (first | (go_at_call 34; refine Calls.mono (CM _) ?_; rintro e w1 ⟨rfl, hb⟩; obtain ⟨a0, a1, a2, hz⟩ := box3 hb))
    go_ret
    exact ⟨ret_bool (by rw [HE.out, HM.out]; rfl), below1 hb⟩
  · rw [hm] at CM
    have CL := fun (w1 : World) (hb : Below w.heap.size w w1) => lives_any m p l c q f.length d x w1 h0 h1 (h.below hb).s (by have := h.ln; omega)
    have HM : Hid (mayB m l f = _) := hm
    clear hm
    go_enter Tryd.func22, Tryd.ntmps22
    go_wp2_with (first | (go_at_call 34; refine Calls.mono (CM _) ?_; rintro e w1 ⟨rfl, hb⟩; obtain ⟨a0, a1, a2, hz⟩ := box3 hb) | (go_at_call 43; refine Calls.mono (CL _ (below1 hb)) ?_; rintro e w2 ⟨rfl, hb2⟩))
    go_ret
    exact ⟨ret_bool (by rw [HE.out, HM.out]; rfl), (below1 hb).trans (hb2.mono (by omega))⟩

def atOk (m : Int) (l : List (Int × Bool)) (f : List Int) (i : Int) : Bool := mayB m l f && (hasB l.length i && sA l (i - 1).toNat)
def atV (m : Int) (l : List (Int × Bool)) (f : List Int) (i : Int) : Int := if atOk m l f i then entV i (sG l (i - 1).toNat) else 0
set_option maxHeartbeats 1000000 in
theorem at_any (m : Int) (c d : Nat) (i : Int) (w : World) (p : Option Addr) (l : List (Int × Bool)) (q : Option Addr) (f : List Int) (h : AIn w p l q f) :
    Calls Tryd.prog 24 #[.agg #[.int .i64 m, .slice p l.length c, .slice q f.length d], .int .i64 i] w fun e w' => e = .returned (.tuple #[.int .u64 (atV m l f i), .bool (atOk m l f i)]) ∧ Below w.heap.size w w' := by
  have CM := fun (o : Obj) => may_in m c d (h.alloc o)
  have CH := fun (w : World) => hasSlot_any m p l.length c q f.length d i w
  have l1 := h.ln
  obtain ⟨v, hv⟩ : ∃ v, v = atV m l f i := ⟨_, rfl⟩
  obtain ⟨o, ho⟩ : ∃ o, o = atOk m l f i := ⟨_, rfl⟩
  rw [← hv, ← ho]
  have HV : Hid (v = if atOk m l f i then entV i (sG l (i - 1).toNat) else 0) := hv
  have HO : Hid (o = (mayB m l f && (hasB l.length i && sA l (i - 1).toNat))) := ho
  have HO' : Hid (o = atOk m l f i) := ho
  clear hv ho
  cases hm : mayB m l f
  · rw [hm] at CM
    have HM : Hid (mayB m l f = _) := hm
    clear hm
    go_enter Tryd.func24, Tryd.ntmps24
    go_wp2_with (first | (go_at_call 34; refine Calls.mono (CM _) ?_; rintro e w1 ⟨rfl, hb⟩; obtain ⟨a0, a1, a2, hz⟩ := box3 hb))
    go_ret2
    have e : o = false := by rw [HO.out, HM.out]; rfl
    exact ⟨by rw [HV.out, ← HO'.out, e]; rfl, below1 hb⟩
  · rw [hm] at CM
    have HM : Hid (mayB m l f = _) := hm
    clear hm
    cases ha : hasB l.length i
    · rw [ha] at CH
      have HA : Hid (hasB l.length i = _) := ha
      clear ha
      go_enter Tryd.func24, Tryd.ntmps24
      go_wp2_with (first | (go_at_call 34; refine Calls.mono (CM _) ?_; rintro e w1 ⟨rfl, hb⟩; obtain ⟨a0, a1, a2, hz⟩ := box3 hb) | (go_at_call 44; refine Calls.mono (CH _) ?_; rintro e w2 ⟨rfl, hb2⟩))
      go_ret2
      have e : o = false := by rw [HO.out, HM.out, HA.out]; rfl
      exact ⟨by rw [HV.out, ← HO'.out, e]; rfl, (below1 hb).trans (hb2.mono (by omega))⟩
    · rw [ha] at CH
      have HA : Hid (hasB l.length i = _) := ha
      have h12 : 1 ≤ i ∧ i ≤ (l.length : Int) := by simpa [hasB] using ha
      clear ha
      obtain ⟨j, rfl⟩ : ∃ j : Nat, i = (j : Int) + 1 := ⟨(i - 1).toNat, by omega⟩
      have hj : j < l.length := by omega
      have HJ : Hid (((j : Int) + 1 - 1).toNat = j) := by unfold Hid; omega
      clear h12
      obtain ⟨b, off, rfl, hbB, hcs⟩ := h.s (by omega)
      obtain ⟨c0, c1⟩ := hcs j hj
      clear hcs
      cases hv : sA l j
      · rw [hv] at c1
        have HS : Hid (sA l j = _) := hv
        clear hv
        go_enter Tryd.func24, Tryd.ntmps24
        go_wp2_with (first | (go_at_call 34; refine Calls.mono (CM _) ?_; rintro e w1 ⟨rfl, hb⟩; obtain ⟨a0, a1, a2, hz⟩ := box3 hb) | (go_at_call 44; refine Calls.mono (CH _) ?_; rintro e w2 ⟨rfl, hb2⟩; have hb12 := hb.trans (hb2.mono hb.size); obtain ⟨d0, d1, d2, hz2⟩ := box3 hb12; obtain ⟨kc, kf⟩ := bcellN (below1 hb12)))
        go_ret2
        have e : o = false := by rw [HO.out, HM.out, HA.out, HJ.out, HS.out]; rfl
        exact ⟨by rw [HV.out, ← HO'.out, e]; rfl, below1 hb12⟩
      · rw [hv] at c1
        have HS : Hid (sA l j = _) := hv
        clear hv
        have CE := fun (w : World) => entity45 ((j : Int) + 1) (sG l j) true w
        go_enter Tryd.func24, Tryd.ntmps24
        go_wp2_with (first | (go_at_call 34; refine Calls.mono (CM _) ?_; rintro e w1 ⟨rfl, hb⟩; obtain ⟨a0, a1, a2, hz⟩ := box3 hb) | (go_at_call 44; refine Calls.mono (CH _) ?_; rintro e w2 ⟨rfl, hb2⟩; have hb12 := hb.trans (hb2.mono hb.size); obtain ⟨d0, d1, d2, hz2⟩ := box3 hb12; obtain ⟨kc, kf⟩ := bcellN (below1 hb12)) | (go_at_call 45; refine Calls.mono (CE _) ?_; rintro e w3 ⟨rfl, hb3⟩))
        go_ret2
        have e : o = true := by rw [HO.out, HM.out, HA.out, HJ.out, HS.out]; rfl
        exact ⟨by rw [HV.out, ← HO'.out, e, HJ.out]; rfl, (below1 hb12).trans (hb3.mono (by omega))⟩
end Go.Proofs.YtaglhajlgnjhcaaDoor
