/- The document's answer: Right, behind the size. -/
import Derived.Test.YtaglhajlgnjhcaaDoorReB
namespace Go.Proofs.YtaglhajlgnjhcaaDoor
open Go.RowKit

set_option maxRecDepth 20000 in
set_option maxHeartbeats 4000000 in
theorem right_many (m : Int) (c d : Nat) (w : World) (p : Option Addr) (l : List (Int × Bool)) (q : Option Addr) (f : List Int) (h : AIn w p l q f) (hs : szB m l.length = true) (ha : m < ((livN l l.length).length : Int) - 2) :
    Calls Tryd.prog 12 #[.agg #[.int .i64 m, .slice p l.length c, .slice q f.length d]] w fun e w' => e = .returned (.bool false) ∧ Below w.heap.size w w' := by
  have l1 := h.ln
  have l2 := h.fn
  have CC := fun (w1 : World) (hb : Below (w.alloc (.cells #[.int .i64 m, .slice p l.length c, .slice q f.length d] 25)).heap.size (w.alloc (.cells #[.int .i64 m, .slice p l.length c, .slice q f.length d] 25)) w1) => alive35 m p l c q f.length d w1 ((h.alloc _).below hb).s h.ln
  have HH : Hid (AIn w p l q f) := h
  obtain ⟨m1, m2, m3, m4⟩ : 1 ≤ m ∧ m ≤ 1048576 ∧ 2 ≤ l.length ∧ (l.length : Int) ≤ m + 2 := by unfold szB mostB at hs; simp at hs; omega
  obtain ⟨n, hn'⟩ : ∃ n : Nat, n = (livN l l.length).length := ⟨_, rfl⟩
  have hnl : n ≤ l.length := by rw [hn']; exact livN_len l l.length
  rw [← hn'] at CC ha
  have hw : IntKind.i64.wrap (m + 2) = m + 2 := (by rw [IntKind.wrap_i64]; omega)
  have d1 : decide (m < 1) = false := decide_eq_false (by omega)
  have d2 : decide (1048576 < m) = false := decide_eq_false (by omega)
  have d3 : decide ((l.length : Int) < 2) = false := decide_eq_false (by omega)
  have d4 : decide (m + 2 < (l.length : Int)) = false := decide_eq_false (by omega)
  clear hn' hs h
  have d5 : decide (m < (n : Int) - 2) = true := decide_eq_true ha
  clear ha
  go_enter Tryd.func12, Tryd.ntmps12
  go_wp2
  go_region_held3 (fun w' => w'.cell? ⟨w.heap.size, 0, none⟩ = some (.int .i64 m) ∧ w'.cell? ⟨w.heap.size, 1, none⟩ = some (.slice p l.length c) ∧ w'.cell? ⟨w.heap.size, 2, none⟩ = some (.slice q f.length d)) (first | go_keep | exact ⟨b0, b1, b2⟩) (first | (go_at_call 35; refine Calls.mono (CC _ ?_) ?_; exact (Below.refl _ _).drew; rintro e w2 ⟨rfl, hb2⟩; have HB2 : Hid (Below (w.alloc (.cells #[.int .i64 m, .slice p l.length c, .slice q f.length d] 25)).heap.size (w.alloc (.cells #[.int .i64 m, .slice p l.length c, .slice q f.length d] 25)) w2) := ((Below.refl _ _).drew).trans hb2; obtain ⟨b0, b1, b2, bz⟩ := box3 HB2.out))
  all_goals go_wp2
  all_goals go_ret
  all_goals exact ⟨rfl, below1 HB2.out⟩

/-- What is left of one slot, where it may stand so. -/
theorem slot_cases {k : Nat} {g : Int} {a : Bool} (h : slotOk (k : Int) g a = true) (hu : usB g a = false) : (a = true ∧ 0 ≤ g ∧ g ≤ 7 ∧ 2 ≤ k) ∨ (a = true ∧ g = 0 ∧ k < 2) ∨ (a = false ∧ g = 7 ∧ 2 ≤ k) := by
  cases a <;> simp [slotOk, usB] at h hu ⊢ <;> omega
theorem slot_casesU {k : Nat} {g : Int} {a : Bool} (h : slotOk (k : Int) g a = true) (hu : usB g a = true) : a = false ∧ 0 ≤ g ∧ g < 7 ∧ 2 ≤ k := by
  cases a <;> simp [slotOk, usB] at h hu
  exact ⟨rfl, by omega⟩
theorem slot_casesN {k : Nat} {g : Int} {a : Bool} (h : slotOk (k : Int) g a = false) : g < 0 ∨ (0 ≤ g ∧ 7 < g) ∨ (0 ≤ g ∧ g ≤ 7 ∧ k < 2 ∧ a = false) ∨ (0 < g ∧ g ≤ 7 ∧ k < 2 ∧ a = true) := by
  cases a <;> simp [slotOk] at h ⊢ <;> omega

theorem usN_t {l : List (Int × Bool)} {k : Nat} (h : usB (sG l k) (sA l k) = true) : usN l (k + 1) = usN l k + 1 := by
  show usN l k + (if usB (sG l k) (sA l k) then 1 else 0) = _; rw [h]; rfl
theorem usN_f {l : List (Int × Bool)} {k : Nat} (h : usB (sG l k) (sA l k) = false) : usN l (k + 1) = usN l k := by
  show usN l k + (if usB (sG l k) (sA l k) then 1 else 0) = _; rw [h]; rfl
theorem rOk_slot {l : List (Int × Bool)} {f : List Int} {k : Nat} (h : slotOk (k : Int) (sG l k) (sA l k) = false) : rOk l f k = false := by unfold rOk; rw [h]; rfl
theorem rOk_f {l : List (Int × Bool)} {f : List Int} {k : Nat} (h : slotOk (k : Int) (sG l k) (sA l k) = true) (hu : usB (sG l k) (sA l k) = false) : rOk l f k = decide (tmN f ((k : Int) + 1) f.length = 0) := by unfold rOk; rw [h, hu]; rfl
theorem rOk_t {l : List (Int × Bool)} {f : List Int} {k : Nat} (h : slotOk (k : Int) (sG l k) (sA l k) = true) (hu : usB (sG l k) (sA l k) = true) : rOk l f k = decide (tmN f ((k : Int) + 1) f.length = 1) := by unfold rOk; rw [h, hu]; rfl

set_option maxRecDepth 20000 in
set_option maxHeartbeats 8000000 in
theorem right_few (m : Int) (c d : Nat) (w : World) (p : Option Addr) (l : List (Int × Bool)) (q : Option Addr) (f : List Int) (h : AIn w p l q f) (hs : szB m l.length = true) (ha : ((livN l l.length).length : Int) - 2 ≤ m) :
    Calls Tryd.prog 12 #[.agg #[.int .i64 m, .slice p l.length c, .slice q f.length d]] w fun e w' => e = .returned (.bool (rightB m l f)) ∧ Below w.heap.size w w' := by
  obtain ⟨r, hr⟩ : ∃ r, r = rightB m l f := ⟨_, rfl⟩
  rw [← hr]
  have HR : Hid (r = rightB m l f) := hr
  have HZ : Hid (rightB m l f = (rAll l f && decide (f.length = usN l l.length))) := by unfold Hid rightB; rw [hs, decide_eq_true ha]; rfl
  clear hr
  have l1 := h.ln
  have l2 := h.fn
  have CC := fun (w1 : World) (hb : Below (w.alloc (.cells #[.int .i64 m, .slice p l.length c, .slice q f.length d] 25)).heap.size (w.alloc (.cells #[.int .i64 m, .slice p l.length c, .slice q f.length d] 25)) w1) => alive35 m p l c q f.length d w1 ((h.alloc _).below hb).s h.ln
  have HH : Hid (AIn w p l q f) := h
  obtain ⟨m1, m2, m3, m4⟩ : 1 ≤ m ∧ m ≤ 1048576 ∧ 2 ≤ l.length ∧ (l.length : Int) ≤ m + 2 := by unfold szB mostB at hs; simp at hs; omega
  obtain ⟨n, hn'⟩ : ∃ n : Nat, n = (livN l l.length).length := ⟨_, rfl⟩
  have hnl : n ≤ l.length := by rw [hn']; exact livN_len l l.length
  rw [← hn'] at CC ha
  have hw : IntKind.i64.wrap (m + 2) = m + 2 := (by rw [IntKind.wrap_i64]; omega)
  have d1 : decide (m < 1) = false := decide_eq_false (by omega)
  have d2 : decide (1048576 < m) = false := decide_eq_false (by omega)
  have d3 : decide ((l.length : Int) < 2) = false := decide_eq_false (by omega)
  have d4 : decide (m + 2 < (l.length : Int)) = false := decide_eq_false (by omega)
  clear hn' hs h
  have d5 : decide (m < (n : Int) - 2) = false := decide_eq_false (by omega)
  clear ha
  go_enter Tryd.func12, Tryd.ntmps12
  go_wp2
  go_region_held3 (fun w' => w'.cell? ⟨w.heap.size, 0, none⟩ = some (.int .i64 m) ∧ w'.cell? ⟨w.heap.size, 1, none⟩ = some (.slice p l.length c) ∧ w'.cell? ⟨w.heap.size, 2, none⟩ = some (.slice q f.length d)) (first | go_keep | exact ⟨b0, b1, b2⟩) (first | (go_at_call 35; refine Calls.mono (CC _ ?_) ?_; exact (Below.refl _ _).drew; rintro e w2 ⟨rfl, hb2⟩; have HB2 : Hid (Below (w.alloc (.cells #[.int .i64 m, .slice p l.length c, .slice q f.length d] 25)).heap.size (w.alloc (.cells #[.int .i64 m, .slice p l.length c, .slice q f.length d] 25)) w2) := ((Below.refl _ _).drew).trans hb2; obtain ⟨b0, b1, b2, bz⟩ := box3 HB2.out))
  have HBw : Hid (Below w.heap.size w w2) := below1 HB2.out
  go_wp2
  go_loopw [4, 40] (fun o i wr => ∃ k : Nat, k ≤ l.length ∧ i = .int .i64 k ∧ o = .int .i64 (usN l k) ∧ (∀ j, j < k → rOk l f j = true) ∧ wr.cell? ⟨w.heap.size, 0, none⟩ = some (.int .i64 m) ∧ wr.cell? ⟨w.heap.size, 1, none⟩ = some (.slice p l.length c) ∧ wr.cell? ⟨w.heap.size, 2, none⟩ = some (.slice q f.length d) ∧ w.heap.size < wr.heap.size ∧ Below w.heap.size w wr) (fun _ i _ => l.length - (intOf i).toNat)
  case atStart => exact ⟨0, Nat.zero_le _, rfl, rfl, fun j h => by omega, b0, b1, b2, bz, HBw.out⟩
  case round =>
    obtain ⟨k, hk, rfl, rfl, hall, e0, e1, e2, ez, hbr⟩ := hrel
    have HA : Hid (∀ j, j < k → rOk l f j = true) := hall
    clear hall b0 b1 b2 bz HB2 hb2 HBw CC
    have hu := usN_le l k
    by_cases hk' : k < l.length
    · obtain ⟨b, off, rfl, hbB, hcs⟩ := (HH.out.below hbr).s (by omega)
      obtain ⟨c0, c1⟩ := hcs k hk'
      clear hcs
      have CT := fun (o : Obj) => times36 q f d ((k : Int) + 1) (wr.alloc o) ((HH.out.below hbr).alloc o).i l2
      obtain ⟨g, hg⟩ : ∃ g, g = sG l k := ⟨_, rfl⟩
      obtain ⟨a, hav⟩ : ∃ a, a = sA l k := ⟨_, rfl⟩
      obtain ⟨t, ht⟩ : ∃ t, t = tmN f ((k : Int) + 1) f.length := ⟨_, rfl⟩
      rw [← hg] at c0
      rw [← hav] at c1
      rw [← ht] at CT
      have HG : Hid (g = sG l k) := hg
      have HV : Hid (a = sA l k) := hav
      have HT : Hid (t = tmN f ((k : Int) + 1) f.length) := ht
      clear ht
      cases ho : slotOk (k : Int) g a
      · have ROK : Hid (rOk l f k = false) := rOk_slot (by rw [← HG.out, ← HV.out]; exact ho)
        have hcase := slot_casesN ho
        clear ho hg hav
        rcases hcase with h1 | ⟨h1, h2⟩ | ⟨h1, h2, h3, rfl⟩ | ⟨h1, h2, h3, rfl⟩
        all_goals
          go_wp2_with (first | (go_at_call 36; refine Calls.mono (CT _) ?_; rintro e w3 ⟨rfl, rfl⟩))
          go_ret
          exact ⟨ret_bool (by rw [HR.out]; unfold rightB; rw [rAll_false k hk' (by exact ROK.out)]; simp), hbr.alloc (by omega) _⟩
      · cases huv : usB g a
        · have HU : Hid (usB (sG l k) (sA l k) = false) := (by rw [← HG.out, ← HV.out]; exact huv)
          have RQ : Hid (rOk l f k = decide (tmN f ((k : Int) + 1) f.length = 0)) := rOk_f (by rw [← HG.out, ← HV.out]; exact ho) HU.out
          have hcase := slot_cases ho huv
          clear ho huv hg hav
          by_cases ht : (t : Int) = 0
          · have ROK : Hid (rOk l f k = true) := (by unfold Hid; rw [RQ.out, ← HT.out, decide_eq_true (by omega)])
            rw [ht] at CT
            clear ht
            rcases hcase with ⟨rfl, h1, h2, h3⟩ | ⟨rfl, rfl, h3⟩ | ⟨rfl, rfl, h3⟩
            all_goals
              go_wp2_with (first | (go_at_call 36; refine Calls.mono (CT _) ?_; rintro e w3 ⟨rfl, rfl⟩))
              go_roundw
              case rel => exact ⟨k + 1, by omega, by go_num, by rw [usN_f HU.out], fun j hj => (by by_cases e : j = k; { subst e; exact ROK.out }; { exact HA.out j (by omega) }), (World.cell?_alloc_past _ _ _ (by omega)).trans e0, (World.cell?_alloc_past _ _ _ (by omega)).trans e1, (World.cell?_alloc_past _ _ _ (by omega)).trans e2, by simp; omega, hbr.alloc (by omega) _⟩
              case measure => simp [intOf]; omega
          · have ROK : Hid (rOk l f k = false) := (by unfold Hid; rw [RQ.out, ← HT.out, decide_eq_false (by omega)])
            rcases hcase with ⟨rfl, h1, h2, h3⟩ | ⟨rfl, rfl, h3⟩ | ⟨rfl, rfl, h3⟩
            all_goals
              go_wp2_with (first | (go_at_call 36; refine Calls.mono (CT _) ?_; rintro e w3 ⟨rfl, rfl⟩))
              go_ret
              exact ⟨ret_bool (by rw [HR.out]; unfold rightB; rw [rAll_false k hk' (by exact ROK.out)]; simp), hbr.alloc (by omega) _⟩
        · have HU : Hid (usB (sG l k) (sA l k) = true) := (by rw [← HG.out, ← HV.out]; exact huv)
          have RQ : Hid (rOk l f k = decide (tmN f ((k : Int) + 1) f.length = 1)) := rOk_t (by rw [← HG.out, ← HV.out]; exact ho) HU.out
          have hcase := slot_casesU ho huv
          clear ho huv hg hav
          obtain ⟨rfl, h1, h2, h3⟩ := hcase
          by_cases ht : (t : Int) = 1
          · have ROK : Hid (rOk l f k = true) := (by unfold Hid; rw [RQ.out, ← HT.out, decide_eq_true (by omega)])
            rw [ht] at CT
            clear ht
            go_wp2_with (first | (go_at_call 36; refine Calls.mono (CT _) ?_; rintro e w3 ⟨rfl, rfl⟩))
            go_roundw
            case rel => exact ⟨k + 1, by omega, by go_num, by rw [usN_t HU.out]; go_num, fun j hj => (by by_cases e : j = k; { subst e; exact ROK.out }; { exact HA.out j (by omega) }), (World.cell?_alloc_past _ _ _ (by omega)).trans e0, (World.cell?_alloc_past _ _ _ (by omega)).trans e1, (World.cell?_alloc_past _ _ _ (by omega)).trans e2, by simp; omega, hbr.alloc (by omega) _⟩
            case measure => simp [intOf]; omega
          · have ROK : Hid (rOk l f k = false) := (by unfold Hid; rw [RQ.out, ← HT.out, decide_eq_false (by omega)])
            go_wp2_with (first | (go_at_call 36; refine Calls.mono (CT _) ?_; rintro e w3 ⟨rfl, rfl⟩))
            go_ret
            exact ⟨ret_bool (by rw [HR.out]; unfold rightB; rw [rAll_false k hk' (by exact ROK.out)]; simp), hbr.alloc (by omega) _⟩
    · obtain rfl : k = l.length := by omega
      have HE : Hid (r = decide ((f.length : Int) = (usN l l.length : Int))) := (by unfold Hid; rw [HR.out, HZ.out, rAll_true HA.out, Bool.true_and]; exact decide_eq_decide.2 (by omega))
      by_cases hx : (f.length : Int) = (usN l l.length : Int)
      · have HX : Hid ((f.length : Int) = (usN l l.length : Int)) := hx
        go_wp2
        go_ret
        exact ⟨ret_bool (by rw [HE.out, decide_eq_true HX.out]), hbr⟩
      · go_wp2
        go_ret
        exact ⟨ret_bool (by rw [HE.out, decide_eq_false hx]; simpa using hx), hbr⟩

theorem right12 (m : Int) (c d : Nat) (w : World) (p : Option Addr) (l : List (Int × Bool)) (q : Option Addr) (f : List Int) (h : AIn w p l q f) :
    Calls Tryd.prog 12 #[.agg #[.int .i64 m, .slice p l.length c, .slice q f.length d]] w fun e w' => e = .returned (.bool (rightB m l f)) ∧ Below w.heap.size w w' := by
  cases hs : szB m l.length
  · refine (right_size m c d w p l.length f.length q h.ln hs).mono ?_
    rintro e w' ⟨rfl, hb⟩
    exact ⟨ret_bool (by unfold rightB; rw [hs]; rfl), hb⟩
  · by_cases ha : ((livN l l.length).length : Int) - 2 ≤ m
    · exact right_few m c d w p l q f h hs ha
    · refine (right_many m c d w p l q f h hs (by omega)).mono ?_
      rintro e w' ⟨rfl, hb⟩
      exact ⟨ret_bool (by unfold rightB; rw [hs, decide_eq_false ha]; rfl), hb⟩
end Go.Proofs.YtaglhajlgnjhcaaDoor
