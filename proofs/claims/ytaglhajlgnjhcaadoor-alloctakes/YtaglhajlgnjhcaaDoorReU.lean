/- The document's answer: Right. -/
import Derived.Test.YtaglhajlgnjhcaaDoorReA
namespace Go.Proofs.YtaglhajlgnjhcaaDoor
open Go.RowKit

/-- What Right asks of the slot at place k. -/
def rOk (l : List (Int × Bool)) (f : List Int) (k : Nat) : Bool := slotOk (k : Int) (sG l k) (sA l k) && decide (tmN f ((k : Int) + 1) f.length = if usB (sG l k) (sA l k) then 1 else 0)
def rAll (l : List (Int × Bool)) (f : List Int) : Bool := (List.range l.length).all (rOk l f)
def rightB (m : Int) (l : List (Int × Bool)) (f : List Int) : Bool := szB m l.length && (decide (((livN l l.length).length : Int) - 2 ≤ m) && (rAll l f && decide (f.length = usN l l.length)))
theorem rAll_true {l : List (Int × Bool)} {f : List Int} (h : ∀ j, j < l.length → rOk l f j = true) : rAll l f = true := by
  unfold rAll; rw [List.all_eq_true]; intro j hj; exact h j (by simpa using hj)
theorem rAll_false {l : List (Int × Bool)} {f : List Int} (j : Nat) (hj : j < l.length) (h : rOk l f j = false) : rAll l f = false := by
  rw [Bool.eq_false_iff]; intro h'; unfold rAll at h'; rw [List.all_eq_true] at h'
  have := h' j (by simpa using hj); rw [h] at this; cases this
theorem rAll_at {l : List (Int × Bool)} {f : List Int} (h : rAll l f = true) (j : Nat) (hj : j < l.length) : rOk l f j = true := by
  unfold rAll at h; rw [List.all_eq_true] at h; exact h j (by simpa using hj)

set_option maxRecDepth 20000 in
set_option maxHeartbeats 1000000 in
theorem right_size (m : Int) (c d : Nat) (w : World) (p : Option Addr) (n k : Nat) (q : Option Addr) (hn : n ≤ 8796093022208) (hs : szB m n = false) :
    Calls Tryd.prog 12 #[.agg #[.int .i64 m, .slice p n c, .slice q k d]] w fun e w' => e = .returned (.bool false) ∧ Below w.heap.size w w' := by
  have h : m < 1 ∨ (1 ≤ m ∧ 1048576 < m) ∨ (1 ≤ m ∧ m ≤ 1048576 ∧ n < 2) ∨ (1 ≤ m ∧ m ≤ 1048576 ∧ 2 ≤ n ∧ m + 2 < (n : Int)) := by
    unfold szB mostB at hs
    simp at hs
    omega
  clear hs
  rcases h with h | ⟨h1, h2⟩ | ⟨h1, h2, h3⟩ | ⟨h1, h2, h3, h4⟩
  · go_enter Tryd.func12, Tryd.ntmps12
    go_wp2
    go_quiet (fail)
    go_wp2
    go_ret
    exact ⟨rfl, below_drewN' ((Below.refl _ _).alloc (Nat.le_refl _) _) _⟩
  · go_enter Tryd.func12, Tryd.ntmps12
    go_wp2
    go_quiet (fail)
    go_wp2
    go_ret
    exact ⟨rfl, below_drewN' ((Below.refl _ _).alloc (Nat.le_refl _) _) _⟩
  · have h3' : (n : Int) < 2 := by omega
    have d3 : decide ((n : Int) < 2) = true := decide_eq_true h3'
    clear h3
    go_enter Tryd.func12, Tryd.ntmps12
    go_wp2
    go_quiet (fail)
    go_wp2
    go_ret
    exact ⟨rfl, below_drewN' ((Below.refl _ _).alloc (Nat.le_refl _) _) _⟩
  · have hw : IntKind.i64.wrap (m + 2) = m + 2 := (by rw [IntKind.wrap_i64]; omega)
    have h3' : ¬ (n : Int) < 2 := by omega
    have d3 : decide ((n : Int) < 2) = false := decide_eq_false h3'
    have d4 : decide (m + 2 < (n : Int)) = true := decide_eq_true h4
    clear h3
    go_enter Tryd.func12, Tryd.ntmps12
    go_wp2
    go_quiet (fail)
    go_wp2
    go_ret
    exact ⟨rfl, below_drewN' ((Below.refl _ _).alloc (Nat.le_refl _) _) _⟩
end Go.Proofs.YtaglhajlgnjhcaaDoor
/- The document's answer: Right, behind the size. -/
namespace Go.Proofs.YtaglhajlgnjhcaaDoor
open Go.RowKit

set_option maxRecDepth 20000 in
set_option maxHeartbeats 4000000 in
theorem right_many (m : Int) (c d : Nat) (w : World) (p : Option Addr) (l : List (Int × Bool)) (q : Option Addr) (f : List Int) (h : AIn w p l q f) (hs : szB m l.length = true) (ha : m < ((livN l l.length).length : Int) - 2) :
    Calls Tryd.prog 12 #[.agg #[.int .i64 m, .slice p l.length c, .slice q f.length d]] w fun e w' => e = .returned (.bool false) ∧ Below w.heap.size w w' := by
  have l1 := h.ln
  have l2 := h.fn
  have CC := fun (w1 : World) (hb : Below (w.alloc (.cells #[.int .i64 m, .slice p l.length c, .slice q f.length d] 25)).heap.size (w.alloc (.cells #[.int .i64 m, .slice p l.length c, .slice q f.length d] 25)) w1) => alive35 m p l c q f.length d w1 ((h.alloc _).below hb).s h.ln
  have HH : Hid (AIn w p l q f) := h
  obtain ⟨m1, m2, m3, m4⟩ : 1 ≤ m ∧ m ≤ 1048576 ∧ 2 ≤ l.length ∧ (l.length : Int) ≤ m + 2 := by unfold szB mostB at hs; simp at hs; omega
  obtain ⟨n, hn'⟩ : ∃ n : Nat, n = (livN l l.length).length := ⟨_, rfl⟩
  have hnl : n ≤ l.length := by rw [hn']; exact livN_len l l.length
  rw [← hn'] at CC ha
  have hw : IntKind.i64.wrap (m + 2) = m + 2 := (by rw [IntKind.wrap_i64]; omega)
  have d1 : decide (m < 1) = false := decide_eq_false (by omega)
  have d2 : decide (1048576 < m) = false := decide_eq_false (by omega)
  have d3 : decide ((l.length : Int) < 2) = false := decide_eq_false (by omega)
  have d4 : decide (m + 2 < (l.length : Int)) = false := decide_eq_false (by omega)
  clear hn' hs h
  have d5 : decide (m < (n : Int) - 2) = true := decide_eq_true ha
  clear ha
  go_enter Tryd.func12, Tryd.ntmps12
  go_wp2
  go_region_held3 (fun w' => w'.cell? ⟨w.heap.size, 0, none⟩ = some (.int .i64 m) ∧ w'.cell? ⟨w.heap.size, 1, none⟩ = some (.slice p l.length c) ∧ w'.cell? ⟨w.heap.size, 2, none⟩ = some (.slice q f.length d)) (first | go_keep | exact ⟨b0, b1, b2⟩) (first | (go_at_call 35; refine Calls.mono (CC _ ?_) ?_; exact (Below.refl _ _).drew; rintro e w2 ⟨rfl, hb2⟩; have HB2 : Hid (Below (w.alloc (.cells #[.int .i64 m, .slice p l.length c, .slice q f.length d] 25)).heap.size (w.alloc (.cells #[.int .i64 m, .slice p l.length c, .slice q f.length d] 25)) w2) := ((Below.refl _ _).drew).trans hb2; obtain ⟨b0, b1, b2, bz⟩ := box3 HB2.out))
  all_goals go_wp2
  all_goals go_ret
  all_goals exact ⟨rfl, below1 HB2.out⟩

/-- What is left of one slot, where it may stand so. -/
theorem slot_cases {k : Nat} {g : Int} {a : Bool} (h : slotOk (k : Int) g a = true) (hu : usB g a = false) : (a = true ∧ 0 ≤ g ∧ g ≤ 7 ∧ 2 ≤ k) ∨ (a = true ∧ g = 0 ∧ k < 2) ∨ (a = false ∧ g = 7 ∧ 2 ≤ k) := by
  cases a <;> simp [slotOk, usB] at h hu ⊢ <;> omega
theorem slot_casesU {k : Nat} {g : Int} {a : Bool} (h : slotOk (k : Int) g a = true) (hu : usB g a = true) : a = false ∧ 0 ≤ g ∧ g < 7 ∧ 2 ≤ k := by
  cases a <;> simp [slotOk, usB] at h hu
  exact ⟨rfl, by omega⟩
theorem slot_casesN {k : Nat} {g : Int} {a : Bool} (h : slotOk (k : Int) g a = false) : g < 0 ∨ (0 ≤ g ∧ 7 < g) ∨ (0 ≤ g ∧ g ≤ 7 ∧ k < 2 ∧ a = false) ∨ (0 < g ∧ g ≤ 7 ∧ k < 2 ∧ a = true) := by
  cases a <;> simp [slotOk] at h ⊢ <;> omega

theorem usN_t {l : List (Int × Bool)} {k : Nat} (h : usB (sG l k) (sA l k) = true) : usN l (k + 1) = usN l k + 1 := by
  show usN l k + (if usB (sG l k) (sA l k) then 1 else 0) = _; rw [h]; rfl
theorem usN_f {l : List (Int × Bool)} {k : Nat} (h : usB (sG l k) (sA l k) = false) : usN l (k + 1) = usN l k := by
  show usN l k + (if usB (sG l k) (sA l k) then 1 else 0) = _; rw [h]; rfl
theorem rOk_slot {l : List (Int × Bool)} {f : List Int} {k : Nat} (h : slotOk (k : Int) (sG l k) (sA l k) = false) : rOk l f k = false := by unfold rOk; rw [h]; rfl
theorem rOk_f {l : List (Int × Bool)} {f : List Int} {k : Nat} (h : slotOk (k : Int) (sG l k) (sA l k) = true) (hu : usB (sG l k) (sA l k) = false) : rOk l f k = decide (tmN f ((k : Int) + 1) f.length = 0) := by unfold rOk; rw [h, hu]; rfl
theorem rOk_t {l : List (Int × Bool)} {f : List Int} {k : Nat} (h : slotOk (k : Int) (sG l k) (sA l k) = true) (hu : usB (sG l k) (sA l k) = true) : rOk l f k = decide (tmN f ((k : Int) + 1) f.length = 1) := by unfold rOk; rw [h, hu]; rfl

set_option maxRecDepth 20000 in
set_option maxHeartbeats 8000000 in
theorem right_few (m : Int) (c d : Nat) (w : World) (p : Option Addr) (l : List (Int × Bool)) (q : Option Addr) (f : List Int) (h : AIn w p l q f) (hs : szB m l.length = true) (ha : ((livN l l.length).length : Int) - 2 ≤ m) :
    Calls Tryd.prog 12 #[.agg #[.int .i64 m, .slice p l.length c, .slice q f.length d]] w fun e w' => e = .returned (.bool (rightB m l f)) ∧ Below w.heap.size w w' := by
  obtain ⟨r, hr⟩ : ∃ r, r = rightB m l f := ⟨_, rfl⟩
  rw [← hr]
  have HR : Hid (r = rightB m l f) := hr
  have HZ : Hid (rightB m l f = (rAll l f && decide (f.length = usN l l.length))) := by unfold Hid rightB; rw [hs, decide_eq_true ha]; rfl
  clear hr
  have l1 := h.ln
  have l2 := h.fn
  have CC := fun (w1 : World) (hb : Below (w.alloc (.cells #[.int .i64 m, .slice p l.length c, .slice q f.length d] 25)).heap.size (w.alloc (.cells #[.int .i64 m, .slice p l.length c, .slice q f.length d] 25)) w1) => alive35 m p l c q f.length d w1 ((h.alloc _).below hb).s h.ln
  have HH : Hid (AIn w p l q f) := h
  obtain ⟨m1, m2, m3, m4⟩ : 1 ≤ m ∧ m ≤ 1048576 ∧ 2 ≤ l.length ∧ (l.length : Int) ≤ m + 2 := by unfold szB mostB at hs; simp at hs; omega
  obtain ⟨n, hn'⟩ : ∃ n : Nat, n = (livN l l.length).length := ⟨_, rfl⟩
  have hnl : n ≤ l.length := by rw [hn']; exact livN_len l l.length
  rw [← hn'] at CC ha
  have hw : IntKind.i64.wrap (m + 2) = m + 2 := (by rw [IntKind.wrap_i64]; omega)
  have d1 : decide (m < 1) = false := decide_eq_false (by omega)
  have d2 : decide (1048576 < m) = false := decide_eq_false (by omega)
  have d3 : decide ((l.length : Int) < 2) = false := decide_eq_false (by omega)
  have d4 : decide (m + 2 < (l.length : Int)) = false := decide_eq_false (by omega)
  clear hn' hs h
  have d5 : decide (m < (n : Int) - 2) = false := decide_eq_false (by omega)
  clear ha
  go_enter Tryd.func12, Tryd.ntmps12
  go_wp2
  go_region_held3 (fun w' => w'.cell? ⟨w.heap.size, 0, none⟩ = some (.int .i64 m) ∧ w'.cell? ⟨w.heap.size, 1, none⟩ = some (.slice p l.length c) ∧ w'.cell? ⟨w.heap.size, 2, none⟩ = some (.slice q f.length d)) (first | go_keep | exact ⟨b0, b1, b2⟩) (first | (go_at_call 35; refine Calls.mono (CC _ ?_) ?_; exact (Below.refl _ _).drew; rintro e w2 ⟨rfl, hb2⟩; have HB2 : Hid (Below (w.alloc (.cells #[.int .i64 m, .slice p l.length c, .slice q f.length d] 25)).heap.size (w.alloc (.cells #[.int .i64 m, .slice p l.length c, .slice q f.length d] 25)) w2) := ((Below.refl _ _).drew).trans hb2; obtain ⟨b0, b1, b2, bz⟩ := box3 HB2.out))
  have HBw : Hid (Below w.heap.size w w2) := below1 HB2.out
  go_wp2
  go_loopw [4, 40] (fun o i wr => ∃ k : Nat, k ≤ l.length ∧ i = .int .i64 k ∧ o = .int .i64 (usN l k) ∧ (∀ j, j < k → rOk l f j = true) ∧ wr.cell? ⟨w.heap.size, 0, none⟩ = some (.int .i64 m) ∧ wr.cell? ⟨w.heap.size, 1, none⟩ = some (.slice p l.length c) ∧ wr.cell? ⟨w.heap.size, 2, none⟩ = some (.slice q f.length d) ∧ w.heap.size < wr.heap.size ∧ Below w.heap.size w wr) (fun _ i _ => l.length - (intOf i).toNat)
  case atStart => exact ⟨0, Nat.zero_le _, rfl, rfl, fun j h => by omega, b0, b1, b2, bz, HBw.out⟩
  case round =>
    obtain ⟨k, hk, rfl, rfl, hall, e0, e1, e2, ez, hbr⟩ := hrel
    have HA : Hid (∀ j, j < k → rOk l f j = true) := hall
    clear hall b0 b1 b2 bz HB2 hb2 HBw CC
    have hu := usN_le l k
    by_cases hk' : k < l.length
    · obtain ⟨b, off, rfl, hbB, hcs⟩ := (HH.out.below hbr).s (by omega)
      obtain ⟨c0, c1⟩ := hcs k hk'
      clear hcs
      have CT := fun (o : Obj) => times36 q f d ((k : Int) + 1) (wr.alloc o) ((HH.out.below hbr).alloc o).i l2
      obtain ⟨g, hg⟩ : ∃ g, g = sG l k := ⟨_, rfl⟩
      obtain ⟨a, hav⟩ : ∃ a, a = sA l k := ⟨_, rfl⟩
      obtain ⟨t, ht⟩ : ∃ t, t = tmN f ((k : Int) + 1) f.length := ⟨_, rfl⟩
      rw [← hg] at c0
      rw [← hav] at c1
      rw [← ht] at CT
      have HG : Hid (g = sG l k) := hg
      have HV : Hid (a = sA l k) := hav
      have HT : Hid (t = tmN f ((k : Int) + 1) f.length) := ht
      clear ht
      cases ho : slotOk (k : Int) g a
      · have ROK : Hid (rOk l f k = false) := rOk_slot (by rw [← HG.out, ← HV.out]; exact ho)
        have hcase := slot_casesN ho
        clear ho hg hav
        rcases hcase with h1 | ⟨h1, h2⟩ | ⟨h1, h2, h3, rfl⟩ | ⟨h1, h2, h3, rfl⟩
        all_goals
          go_wp2_with (first | (go_at_call 36; refine Calls.mono (CT _) ?_; rintro e w3 ⟨rfl, rfl⟩))
          go_ret
          exact ⟨ret_bool (by rw [HR.out]; unfold rightB; rw [rAll_false k hk' (by exact ROK.out)]; simp), hbr.alloc (by omega) _⟩
      · cases huv : usB g a
        · have HU : Hid (usB (sG l k) (sA l k) = false) := (by rw [← HG.out, ← HV.out]; exact huv)
          have RQ : Hid (rOk l f k = decide (tmN f ((k : Int) + 1) f.length = 0)) := rOk_f (by rw [← HG.out, ← HV.out]; exact ho) HU.out
          have hcase := slot_cases ho huv
          clear ho huv hg hav
          by_cases ht : (t : Int) = 0
          · have ROK : Hid (rOk l f k = true) := (by unfold Hid; rw [RQ.out, ← HT.out, decide_eq_true (by omega)])
            rw [ht] at CT
            clear ht
            rcases hcase with ⟨rfl, h1, h2, h3⟩ | ⟨rfl, rfl, h3⟩ | ⟨rfl, rfl, h3⟩
            all_goals
              go_wp2_with (first | (go_at_call 36; refine Calls.mono (CT _) ?_; rintro e w3 ⟨rfl, rfl⟩))
              go_roundw
              case rel => exact ⟨k + 1, by omega, by go_num, by rw [usN_f HU.out], fun j hj => (by by_cases e : j = k; { subst e; exact ROK.out }; { exact HA.out j (by omega) }), (World.cell?_alloc_past _ _ _ (by omega)).trans e0, (World.cell?_alloc_past _ _ _ (by omega)).trans e1, (World.cell?_alloc_past _ _ _ (by omega)).trans e2, by simp; omega, hbr.alloc (by omega) _⟩
              case measure => simp [intOf]; omega
          · have ROK : Hid (rOk l f k = false) := (by unfold Hid; rw [RQ.out, ← HT.out, decide_eq_false (by omega)])
            rcases hcase with ⟨rfl, h1, h2, h3⟩ | ⟨rfl, rfl, h3⟩ | ⟨rfl, rfl, h3⟩
            all_goals
              go_wp2_with (first | (go_at_call 36; refine Calls.mono (CT _) ?_; rintro e w3 ⟨rfl, rfl⟩))
              go_ret
              exact ⟨ret_bool (by rw [HR.out]; unfold rightB; rw [rAll_false k hk' (by exact ROK.out)]; simp), hbr.alloc (by omega) _⟩
        · have HU : Hid (usB (sG l k) (sA l k) = true) := (by rw [← HG.out, ← HV.out]; exact huv)
          have RQ : Hid (rOk l f k = decide (tmN f ((k : Int) + 1) f.length = 1)) := rOk_t (by rw [← HG.out, ← HV.out]; exact ho) HU.out
          have hcase := slot_casesU ho huv
          clear ho huv hg hav
          obtain ⟨rfl, h1, h2, h3⟩ := hcase
          by_cases ht : (t : Int) = 1
          · have ROK : Hid (rOk l f k = true) := (by unfold Hid; rw [RQ.out, ← HT.out, decide_eq_true (by omega)])
            rw [ht] at CT
            clear ht
            go_wp2_with (first | (go_at_call 36; refine Calls.mono (CT _) ?_; rintro e w3 ⟨rfl, rfl⟩))
            go_roundw
            case rel => exact ⟨k + 1, by omega, by go_num, by rw [usN_t HU.out]; go_num, fun j hj => (by by_cases e : j = k; { subst e; exact ROK.out }; { exact HA.out j (by omega) }), (World.cell?_alloc_past _ _ _ (by omega)).trans e0, (World.cell?_alloc_past _ _ _ (by omega)).trans e1, (World.cell?_alloc_past _ _ _ (by omega)).trans e2, by simp; omega, hbr.alloc (by omega) _⟩
            case measure => simp [intOf]; omega
          · have ROK : Hid (rOk l f k = false) := (by unfold Hid; rw [RQ.out, ← HT.out, decide_eq_false (by omega)])
            go_wp2_with (first | (go_at_call 36; refine Calls.mono (CT _) ?_; rintro e w3 ⟨rfl, rfl⟩))
            go_ret
            exact ⟨ret_bool (by rw [HR.out]; unfold rightB; rw [rAll_false k hk' (by exact ROK.out)]; simp), hbr.alloc (by omega) _⟩
    · obtain rfl : k = l.length := by omega
      have HE : Hid (r = decide ((f.length : Int) = (usN l l.length : Int))) := (by unfold Hid; rw [HR.out, HZ.out, rAll_true HA.out, Bool.true_and]; exact decide_eq_decide.2 (by omega))
      by_cases hx : (f.length : Int) = (usN l l.length : Int)
      · have HX : Hid ((f.length : Int) = (usN l l.length : Int)) := hx
        go_wp2
        go_ret
        exact ⟨ret_bool (by rw [HE.out, decide_eq_true HX.out]), hbr⟩
      · go_wp2
        go_ret
        exact ⟨ret_bool (by rw [HE.out, decide_eq_false hx]; simpa using hx), hbr⟩

theorem right12 (m : Int) (c d : Nat) (w : World) (p : Option Addr) (l : List (Int × Bool)) (q : Option Addr) (f : List Int) (h : AIn w p l q f) :
    Calls Tryd.prog 12 #[.agg #[.int .i64 m, .slice p l.length c, .slice q f.length d]] w fun e w' => e = .returned (.bool (rightB m l f)) ∧ Below w.heap.size w w' := by
  cases hs : szB m l.length
  · refine (right_size m c d w p l.length f.length q h.ln hs).mono ?_
    rintro e w' ⟨rfl, hb⟩
    exact ⟨ret_bool (by unfold rightB; rw [hs]; rfl), hb⟩
  · by_cases ha : ((livN l l.length).length : Int) - 2 ≤ m
    · exact right_few m c d w p l q f h hs ha
    · refine (right_many m c d w p l q f h hs (by omega)).mono ?_
      rintro e w' ⟨rfl, hb⟩
      exact ⟨ret_bool (by unfold rightB; rw [hs, decide_eq_false ha]; rfl), hb⟩
end Go.Proofs.YtaglhajlgnjhcaaDoor
/- Plain mathematics: what the document calls right is what may be. -/
namespace Go.Proofs.YtaglhajlgnjhcaaDoor

def sumN (g : Nat → Nat) : Nat → Nat
  | 0 => 0
  | n + 1 => sumN g n + g n
theorem sumN_add (a b : Nat → Nat) (n : Nat) : sumN (fun j => a j + b j) n = sumN a n + sumN b n := by
  induction n with
  | zero => rfl
  | succ n ih => unfold sumN; rw [ih]; omega
theorem sumN_congr {a b : Nat → Nat} {n : Nat} (h : ∀ j, j < n → a j = b j) : sumN a n = sumN b n := by
  induction n with
  | zero => rfl
  | succ n ih => unfold sumN; rw [ih (fun j hj => h j (by omega)), h n (by omega)]
theorem sumN_le {a b : Nat → Nat} {n : Nat} (h : ∀ j, j < n → a j ≤ b j) : sumN a n ≤ sumN b n := by
  induction n with
  | zero => exact Nat.le_refl _
  | succ n ih => unfold sumN; have := ih (fun j hj => h j (by omega)); have := h n (by omega); omega
theorem sumN_eq {a b : Nat → Nat} {n : Nat} (h : ∀ j, j < n → a j ≤ b j) (he : sumN a n = sumN b n) : ∀ j, j < n → a j = b j := by
  induction n with
  | zero => intro j hj; omega
  | succ n ih =>
    unfold sumN at he
    have h1 := sumN_le (n := n) (fun j hj => h j (by omega))
    have h2 := h n (by omega)
    intro j hj
    by_cases e : j = n
    · subst e; omega
    · exact ih (fun j hj => h j (by omega)) (by omega) j (by omega)
theorem sumN_ind (v : Int) (n : Nat) : sumN (fun j => if v = (j : Int) + 1 then 1 else 0) n = if 1 ≤ v ∧ v ≤ (n : Int) then 1 else 0 := by
  induction n with
  | zero => unfold sumN; rw [if_neg (by omega)]
  | succ n ih =>
    unfold sumN; rw [ih]
    by_cases h : v = (n : Int) + 1
    · rw [if_neg (by omega), if_pos h, if_pos (by omega)]
    · rw [if_neg h]
      by_cases h' : 1 ≤ v ∧ v ≤ (n : Int)
      · rw [if_pos h', if_pos (by omega)]
      · rw [if_neg h', if_neg (by omega)]
/-- How many of the first k numbers are from 1 to n. -/
def cntIn (f : List Int) (n : Nat) : Nat → Nat
  | 0 => 0
  | k + 1 => cntIn f n k + if 1 ≤ iG f k ∧ iG f k ≤ (n : Int) then 1 else 0
theorem cntIn_le (f : List Int) (n k : Nat) : cntIn f n k ≤ k := by
  induction k with
  | zero => exact Nat.le_refl _
  | succ k ih => unfold cntIn; split <;> omega
theorem cntIn_all {f : List Int} {n k : Nat} (h : ∀ i, i < k → 1 ≤ iG f i ∧ iG f i ≤ (n : Int)) : cntIn f n k = k := by
  induction k with
  | zero => rfl
  | succ k ih => unfold cntIn; rw [ih (fun i hi => h i (by omega)), if_pos (h k (by omega))]
theorem cntIn_full {f : List Int} {n k : Nat} (h : cntIn f n k = k) : ∀ i, i < k → 1 ≤ iG f i ∧ iG f i ≤ (n : Int) := by
  induction k with
  | zero => intro i hi; omega
  | succ k ih =>
    unfold cntIn at h
    have h1 := cntIn_le f n k
    by_cases hc : 1 ≤ iG f k ∧ iG f k ≤ (n : Int)
    · rw [if_pos hc] at h
      intro i hi
      by_cases e : i = k
      · subst e; exact hc
      · exact ih (by omega) i (by omega)
    · rw [if_neg hc] at h; omega
theorem sum_tm (f : List Int) (n k : Nat) : sumN (fun j => tmN f ((j : Int) + 1) k) n = cntIn f n k := by
  induction k with
  | zero =>
    show sumN (fun _ => 0) n = 0
    induction n with
    | zero => rfl
    | succ n ih => unfold sumN; rw [ih]
  | succ k ih =>
    show sumN (fun j => tmN f ((j : Int) + 1) k + if iG f k = (j : Int) + 1 then 1 else 0) n = cntIn f n k + _
    rw [sumN_add, ih, sumN_ind]
theorem us_sum (l : List (Int × Bool)) (n : Nat) : usN l n = sumN (fun j => if usB (sG l j) (sA l j) then 1 else 0) n := by
  induction n with
  | zero => rfl
  | succ n ih => unfold usN sumN; rw [ih]
theorem tm_zero {f : List Int} {x : Int} {k : Nat} (h : ∀ i, i < k → iG f i ≠ x) : tmN f x k = 0 := by
  induction k with
  | zero => rfl
  | succ k ih => rw [tmN_f (h k (by omega)), ih (fun i hi => h i (by omega))]
theorem tm_mono {f : List Int} {x : Int} {i k : Nat} (h : i ≤ k) : tmN f x i ≤ tmN f x k := by
  induction k with
  | zero => obtain rfl : i = 0 := by omega
            exact Nat.le_refl _
  | succ k ih =>
    by_cases e : i = k + 1
    · subst e; exact Nat.le_refl _
    · have := ih (by omega)
      by_cases hx : iG f k = x
      · rw [tmN_t hx]; omega
      · rw [tmN_f hx]; omega
theorem tm_pos {f : List Int} {x : Int} {i k : Nat} (h : i < k) (hx : iG f i = x) : 1 ≤ tmN f x k := by
  have h1 := tm_mono (f := f) (x := x) (show i + 1 ≤ k by omega)
  rw [tmN_t hx] at h1; omega
theorem tm_two {f : List Int} {x : Int} {i j k : Nat} (hij : i < j) (h : j < k) (hi : iG f i = x) (hj : iG f j = x) : 2 ≤ tmN f x k := by
  have h1 := tm_mono (f := f) (x := x) (show j + 1 ≤ k by omega)
  have h2 := tm_pos hij hi
  rw [tmN_t hj] at h1; omega
theorem tm_one {f : List Int} {x : Int} {k : Nat} (h : ∀ j, j < k → ∀ i, i < j → iG f i ≠ iG f j) : tmN f x k ≤ 1 := by
  induction k with
  | zero => simp [tmN]
  | succ k ih =>
    by_cases hx : iG f k = x
    · rw [tmN_t hx, tm_zero (fun i hi => by rw [← hx]; exact h k (by omega) i hi)]
      omega
    · rw [tmN_f hx]; exact ih (fun j hj => h j (by omega))

theorem right_may (m : Int) (l : List (Int × Bool)) (f : List Int) : rightB m l f = mayB m l f := by
  rw [Bool.eq_iff_iff]
  constructor
  · intro h
    unfold rightB at h
    simp only [Bool.and_eq_true, decide_eq_true_eq] at h
    obtain ⟨hz, _, hr, hf⟩ := h
    have hso : ∀ j, j < l.length → slotOk (j : Int) (sG l j) (sA l j) = true := fun j hj => by
      have := rAll_at hr j hj
      unfold rOk at this
      simp only [Bool.and_eq_true] at this
      exact this.1
    have htm : ∀ j, j < l.length → tmN f ((j : Int) + 1) f.length = if usB (sG l j) (sA l j) then 1 else 0 := fun j hj => by
      have := rAll_at hr j hj
      unfold rOk at this
      simp only [Bool.and_eq_true, decide_eq_true_eq] at this
      exact this.2
    have hc : cntIn f l.length f.length = f.length := by
      rw [← sum_tm, sumN_congr htm, ← us_sum, ← hf]
    have hin := cntIn_full hc
    refine (mayB_iff m l f).2 ⟨?_, hso, hf, ?_⟩
    · unfold szB mostB at hz
      simp at hz
      omega
    · rw [okF_iff]
      intro k hk
      obtain ⟨i1, i2⟩ := hin k hk
      have e : iG f k = ((iG f k - 1).toNat : Int) + 1 := by omega
      have hj : (iG f k - 1).toNat < l.length := by omega
      have ht := htm _ hj
      rw [← e] at ht
      refine ⟨(iG f k - 1).toNat, e, hj, ?_, fun i hi he => ?_⟩
      · cases hu : usB (sG l (iG f k - 1).toNat) (sA l (iG f k - 1).toNat)
        · rw [hu] at ht
          have := tm_pos hk (rfl : iG f k = iG f k)
          simp at ht; omega
        · rfl
      · have := tm_two hi hk he rfl
        split at ht <;> omega
  · intro h
    obtain ⟨hz, hso, hf, ho⟩ := (mayB_iff m l f).1 h
    rw [okF_iff] at ho
    have hd : ∀ j, j < f.length → ∀ i, i < j → iG f i ≠ iG f j := fun j hj i hi => by
      obtain ⟨_, _, _, _, hd⟩ := ho j hj
      exact hd i hi
    have hin : ∀ i, i < f.length → 1 ≤ iG f i ∧ iG f i ≤ (l.length : Int) := fun i hi => by
      obtain ⟨j, e, hj, _, _⟩ := ho i hi
      omega
    have hle : ∀ j, j < l.length → tmN f ((j : Int) + 1) f.length ≤ if usB (sG l j) (sA l j) then 1 else 0 := fun j _ => by
      cases hu : usB (sG l j) (sA l j)
      · rw [tm_zero (fun i hi he => ?_)]
        · exact Nat.zero_le _
        · obtain ⟨j', e, _, hu', _⟩ := ho i hi
          obtain rfl : j' = j := by omega
          rw [hu] at hu'; cases hu'
      · exact tm_one hd
    have heq := sumN_eq hle (by rw [sum_tm, cntIn_all hin, ← us_sum, ← hf])
    have hl := livN_len l l.length
    unfold rightB
    simp only [Bool.and_eq_true, decide_eq_true_eq]
    refine ⟨?_, by omega, rAll_true fun j hj => ?_, hf⟩
    · unfold szB mostB; simp; omega
    · unfold rOk; rw [hso j hj, heq j hj]; simp
end Go.Proofs.YtaglhajlgnjhcaaDoor
