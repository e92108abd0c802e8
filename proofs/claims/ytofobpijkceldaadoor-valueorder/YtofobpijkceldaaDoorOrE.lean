/- ValueOrder: its walk, part E. -/
import Derived.Test.YtofobpijkceldaaDoorOrA
namespace Go.Proofs.YtofobpijkceldaaDoor
open Go.RowKit Go.Shelf

set_option maxRecDepth 100000 in
set_option maxHeartbeats 8000000 in
theorem or_mze (px : Option Addr) (lx : List Int) (cx : Nat) (py : Option Addr) (ly : List Int) (cy : Nat) (pz : Option Addr) (lz : List Int) (cz : Nat) (w : World) (hT : Tb w) (hS : S0 w w px lx cx py ly cy pz lz cz) (la lb lc : List Int) (ea : la = lx.take 8) (eb : lb = ly.take 8) (ec : lc = lz.take 8)
    (h1 : cmpL la lb = -1) (h3 : cmpL lb lc = 0) (hl : la.length = lb.length) :
    Calls Tryd.prog 7 #[.slice px lx.length cx, .slice py ly.length cy, .slice pz lz.length cz] w fun e w' => e = .returned (.bool true) ∧ Below w.heap.size w w' := by
  have CK := wakes9 w hT
  have HS := hidOg hS
  have CA := fun (W : World) (h : InR W px lx cx) => own10r px lx cx W h
  have CB := fun (W : World) (h : InR W py ly cy) => own10r py ly cy W h
  have CC := fun (W : World) (h : InR W pz lz cz) => own10r pz lz cz W h
  have CZ := fun (W : World) => zero18 (lc.length : Int) W
  have HE : Hid (zerE (lc.length : Int) = 0 ∧ cmpL (zerL (lc.length : Int)) lc ≤ 0 ∨ zerE (lc.length : Int) = 2) := by
    unfold Hid zerE zerL
    cases isW (lc.length : Int)
    · right; rfl
    · left; refine ⟨rfl, ?_⟩
      simp only [Int.toNat_natCast]
      exact cmp_zero lc (by rw [ec]; exact hS.z.u.take 8)
  have hlz : (zerL (lc.length : Int)).length ≤ 4 := by
    unfold zerL
    cases h : isW (lc.length : Int)
    · simp
    · have := isW_t h; simp; omega
  have h2 : cmpL lb la = 1 := by have := cmp_anti la lb; omega
  have h5 : samI la lb = false := by rw [sam_cmp, h1]; rfl
  have h4 : cmpL la lc = -1 := by
    have := cmp_tr (a := la) (b := lb) (c := lc) (by rw [h1]; decide) (by rw [h3]; decide)
    have := cmp_01 la lc
    omega
  have HNE : Hid ((la ++ [1]).take lb.length ≠ lb) := by
    unfold Hid; rw [← hl, List.take_left']
    · intro e; rw [e, (cmp_eq lb lb).2 rfl] at h1; simp at h1
    · rfl
  have HM : Hid (cmpL (la ++ [1]) (lb ++ [2, 3]) = cmpL la lb) := cmp_more la lb _ _ hl (by rw [h1]; decide)
  have hla : la.length ≤ 8 := by rw [ea]; simp; omega
  have hlb : lb.length ≤ 8 := by rw [eb]; simp; omega
  have hlc : lc.length ≤ 8 := by rw [ec]; simp; omega
  rw [← ea] at CA
  rw [← eb] at CB
  rw [← ec] at CC
  have hlq : ((la.length : Int) == (lb.length : Int)) = true := by rw [beq_iff_eq]; omega
  obtain ⟨lq, elq⟩ : ∃ lq, lq = zerL (lc.length : Int) := ⟨_, rfl⟩
  obtain ⟨E, eE⟩ : ∃ E, E = zerE (lc.length : Int) := ⟨_, rfl⟩
  rw [← elq, ← eE] at HE
  rw [← elq] at hlz
  simp only [← elq, ← eE] at CZ
  have HL := hidOg hl
  clear ea eb ec hT hS elq eE hl
  go_enter Tryd.func7, Tryd.ntmps7
  go_wp2_with (first
    | (go_at_call 9; refine Calls.mono CK ?_; rintro e w1 ⟨rfl, hb⟩; have H := hidOg (HS.out.to hb); clear hb)
    | (go_at_call_has 10 px; refine Calls.mono (CA _ H.out.x) ?_; rintro e w2 ⟨qa, ca, rfl, ho, hb⟩; have H := hidOg (H.out.more ho hb); clear hb ho)
    | (go_at_call_has 10 py; refine Calls.mono (CB _ H.out.y) ?_; rintro e w3 ⟨qb, cb, rfl, ho, hb⟩; have H := hidOg (H.out.more ho hb); clear hb ho)
    | (go_at_call_has 10 pz; refine Calls.mono (CC _ H.out.z) ?_; rintro e w4 ⟨qc, cc, rfl, ho, hb⟩; have H := hidOg (H.out.more ho hb); clear hb ho)
    | (go_at_call 13; refine Calls.mono (compare13 _ _ _ _ _ _ _ (by first | exact H.out.a.row.i | exact H.out.b.row.i | exact HZ.out.row.i) (by first | exact H.out.b.row.i | exact H.out.c.row.i | exact H.out.a.row.i) (by omega) (by omega)) ?_; rintro e w5 ⟨rfl, hw⟩; rw [hw]; clear hw w5)
    | (go_at_call 17; refine Calls.mono (equal17 _ _ _ _ _ _ _ H.out.a.row.i H.out.b.row.i (by omega)) ?_; rintro e w6 ⟨rfl, hb⟩; have H := hidOg (H.out.to hb); clear hb)
    | (go_at_call 15; refine Calls.mono (same15 _ _ _ _ _ _ _ H.out.a.row.i H.out.b.row.i (by omega)) ?_; rintro e w7 ⟨rfl, hb⟩; have H := hidOg (H.out.to hb); clear hb)
    | (at_builtin; refine wpList_append_g _ _ _ rfl (by simp [Region.wanted, yielded]) w.heap.size qa la ca rfl (H.out.to (bal _ _)).a _ [1] 1 1 rfl rfl (cells1 _ _ _) (by simp; omega) (H.out.to (bal _ _)).bel.size ?_; intro qa' la' ca' w8 ea ho hg; have H2 := hidOg ((H.out.to (bal _ _)).app ho hg (by rw [ea]; have := HL.out; simp; omega) (by rw [ea]; exact HNE.out)); have HEA := hidOg ea; have hla' : la'.length ≤ 20 := (by rw [ea]; simp; omega); clear ho hg ea H)
    | (at_builtin; refine wpList_append_g _ _ _ rfl (by simp [Region.wanted, yielded]) w.heap.size qb lb cb rfl (H2.out.to (bal _ _)).b _ [2, 3] 2 2 rfl rfl (cells2 _ _ _ _) (by simp; omega) (H2.out.to (bal _ _)).bel.size ?_; intro qb' lb' cb' w9 eb ho hg; have H := hidOg ((H2.out.to (bal _ _)).app ho hg); have hlb' : lb'.length ≤ 20 := (by rw [eb]; simp; omega); have h6 : cmpL la' lb' = cmpL la lb := (by rw [HEA.out, eb]; exact HM.out); clear ho hg eb HEA H2)
    | (go_at_call 18; refine Calls.mono (CZ _) ?_; rintro e w10 ⟨qz, cz, rfl, ho, hb⟩; have H := hidOg (H.out.to hb); have HZ := hidOg ho; clear hb ho; rcases HE.out with ⟨rfl, hz⟩ | rfl))
  all_goals
    go_ret
    exact ⟨by first | rfl | exact ret_bool (by simpa using hz), H.out.bel⟩

set_option maxRecDepth 100000 in
set_option maxHeartbeats 8000000 in
theorem or_mzn (px : Option Addr) (lx : List Int) (cx : Nat) (py : Option Addr) (ly : List Int) (cy : Nat) (pz : Option Addr) (lz : List Int) (cz : Nat) (w : World) (hT : Tb w) (hS : S0 w w px lx cx py ly cy pz lz cz) (la lb lc : List Int) (ea : la = lx.take 8) (eb : lb = ly.take 8) (ec : lc = lz.take 8)
    (h1 : cmpL la lb = -1) (h3 : cmpL lb lc = 0) (hl : la.length ≠ lb.length) :
    Calls Tryd.prog 7 #[.slice px lx.length cx, .slice py ly.length cy, .slice pz lz.length cz] w fun e w' => e = .returned (.bool true) ∧ Below w.heap.size w w' := by
  have CK := wakes9 w hT
  have HS := hidOg hS
  have CA := fun (W : World) (h : InR W px lx cx) => own10r px lx cx W h
  have CB := fun (W : World) (h : InR W py ly cy) => own10r py ly cy W h
  have CC := fun (W : World) (h : InR W pz lz cz) => own10r pz lz cz W h
  have CZ := fun (W : World) => zero18 (lc.length : Int) W
  have HE : Hid (zerE (lc.length : Int) = 0 ∧ cmpL (zerL (lc.length : Int)) lc ≤ 0 ∨ zerE (lc.length : Int) = 2) := by
    unfold Hid zerE zerL
    cases isW (lc.length : Int)
    · right; rfl
    · left; refine ⟨rfl, ?_⟩
      simp only [Int.toNat_natCast]
      exact cmp_zero lc (by rw [ec]; exact hS.z.u.take 8)
  have hlz : (zerL (lc.length : Int)).length ≤ 4 := by
    unfold zerL
    cases h : isW (lc.length : Int)
    · simp
    · have := isW_t h; simp; omega
  have h2 : cmpL lb la = 1 := by have := cmp_anti la lb; omega
  have h5 : samI la lb = false := by rw [sam_cmp, h1]; rfl
  have h4 : cmpL la lc = -1 := by
    have := cmp_tr (a := la) (b := lb) (c := lc) (by rw [h1]; decide) (by rw [h3]; decide)
    have := cmp_01 la lc
    omega
  have hla : la.length ≤ 8 := by rw [ea]; simp; omega
  have hlb : lb.length ≤ 8 := by rw [eb]; simp; omega
  have hlc : lc.length ≤ 8 := by rw [ec]; simp; omega
  rw [← ea] at CA
  rw [← eb] at CB
  rw [← ec] at CC
  have hlq : ((la.length : Int) == (lb.length : Int)) = false := by rw [beq_eq_false_iff_ne]; omega
  obtain ⟨lq, elq⟩ : ∃ lq, lq = zerL (lc.length : Int) := ⟨_, rfl⟩
  obtain ⟨E, eE⟩ : ∃ E, E = zerE (lc.length : Int) := ⟨_, rfl⟩
  rw [← elq, ← eE] at HE
  rw [← elq] at hlz
  simp only [← elq, ← eE] at CZ
  have HL := hidOg hl
  clear ea eb ec hT hS elq eE hl
  go_enter Tryd.func7, Tryd.ntmps7
  go_wp2_with (first
    | (go_at_call 9; refine Calls.mono CK ?_; rintro e w1 ⟨rfl, hb⟩; have H := hidOg (HS.out.to hb); clear hb)
    | (go_at_call_has 10 px; refine Calls.mono (CA _ H.out.x) ?_; rintro e w2 ⟨qa, ca, rfl, ho, hb⟩; have H := hidOg (H.out.more ho hb); clear hb ho)
    | (go_at_call_has 10 py; refine Calls.mono (CB _ H.out.y) ?_; rintro e w3 ⟨qb, cb, rfl, ho, hb⟩; have H := hidOg (H.out.more ho hb); clear hb ho)
    | (go_at_call_has 10 pz; refine Calls.mono (CC _ H.out.z) ?_; rintro e w4 ⟨qc, cc, rfl, ho, hb⟩; have H := hidOg (H.out.more ho hb); clear hb ho)
    | (go_at_call 13; refine Calls.mono (compare13 _ _ _ _ _ _ _ (by first | exact H.out.a.row.i | exact H.out.b.row.i | exact HZ.out.row.i) (by first | exact H.out.b.row.i | exact H.out.c.row.i | exact H.out.a.row.i) (by omega) (by omega)) ?_; rintro e w5 ⟨rfl, hw⟩; rw [hw]; clear hw w5)
    | (go_at_call 17; refine Calls.mono (equal17 _ _ _ _ _ _ _ H.out.a.row.i H.out.b.row.i (by omega)) ?_; rintro e w6 ⟨rfl, hb⟩; have H := hidOg (H.out.to hb); clear hb)
    | (go_at_call 15; refine Calls.mono (same15 _ _ _ _ _ _ _ H.out.a.row.i H.out.b.row.i (by omega)) ?_; rintro e w7 ⟨rfl, hb⟩; have H := hidOg (H.out.to hb); clear hb)
    | (go_at_call 18; refine Calls.mono (CZ _) ?_; rintro e w10 ⟨qz, cz, rfl, ho, hb⟩; have H := hidOg (H.out.to hb); have HZ := hidOg ho; clear hb ho; rcases HE.out with ⟨rfl, hz⟩ | rfl))
  all_goals
    go_ret
    exact ⟨by first | rfl | exact ret_bool (by simpa using hz), H.out.bel⟩
end Go.Proofs.YtofobpijkceldaaDoor
