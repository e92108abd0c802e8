/- RecordBack: the walk. -/
import Derived.Test.YtijlkdppjmfbhaaRmA
namespace Go.Proofs.Ytijlkdppjmfbhaa
open Go.RowKit Go.Sort Go.Maps

theorem ga_no {l : List Sp} {i : Int} (h : ¬ (mayS l = true ∧ fiB l i = true)) : (∃ er, gaA l i = ((0, 0), er) ∧ er ≠ 0) ∧ ∃ er, drR l i = ([], er) ∧ er ≠ 0 := by
  unfold gaA drR
  cases hm : mayS l
  · exact ⟨⟨200, rfl, by decide⟩, 200, rfl, by decide⟩
  · cases hf : fiB l i
    · exact ⟨⟨4, by unfold fiA; rw [hf]; rfl, by decide⟩, 4, by unfold drA; rw [hf]; rfl, by decide⟩
    · exact absurd ⟨hm, hf⟩ h
theorem ga_yes {l : List Sp} (hm : mayS l = true) {k : Nat} (hk : sG l k ≠ (0, 0)) : gaA l ((k : Int) + 1) = (sG l k, 0) := by
  have hk1 : ((k : Int) + 1).toNat - 1 = k := by omega
  unfold gaA fiA
  rw [hm, if_pos rfl, fiB_nat, decide_eq_false hk, hk1]; rfl
theorem ga_gone {l : List Sp} (hm : mayS l = true) {k : Nat} (hk : sG l k = (0, 0)) : gaA l ((k : Int) + 1) = ((0, 0), 4) := by
  unfold gaA fiA
  rw [hm, if_pos rfl, fiB_nat, decide_eq_true hk]; rfl
set_option maxRecDepth 20000 in
set_option maxHeartbeats 4000000 in
theorem back_no (p : Option Addr) (l : List Sp) (c : Nat) (i : Int) (w : World) (hE : SRow w.heap.size w p l) (hw : wfL l) (hl : l.length ≤ maxLen) (hc : l.length ≤ c) (hn : ¬ (mayS (l.take 40) = true ∧ fiB (l.take 40) i = true)) :
    Calls Try.prog 5 #[.agg #[.slice p l.length c], .int .i64 i] w fun e w' => e = .returned (.bool true) ∧ Below w.heap.size w w' := by
  have hb0 := bal w (.cells #[.slice p l.length c] 24)
  have HB0 := hidOg hb0
  have X0 := hidOg (blk1 (W := w) (o := .cells #[.slice p l.length c] 24))
  have CO := fun (W : World) (hb : Below w.heap.size w W) => own9 p l c W (hE.to hb) hl hc
  have hL40 : (l.take 40).length ≤ 40 := by simp; omega
  have hwL := hw.take 40
  obtain ⟨L, hL⟩ : ∃ L, L = l.take 40 := ⟨_, rfl⟩
  rw [← hL] at CO hL40 hwL hn
  obtain ⟨⟨er, e1, h1⟩, er', e2, h2⟩ := ga_no hn
  have CA := fun (W : World) (q : Option Addr) (d B : Nat) (h : GvS B W q L d) => at14 q L d i W h.i hwL (by omega)
  have CD := fun (W : World) (q : Option Addr) (d B : Nat) (h : GvS B W q L d) => drop23 q L d i W h.i hwL (by omega)
  rw [e1] at CA
  rw [e2] at CD
  have d1 : (er == 0) = false := by simpa using h1
  have d2 : (er' != 0) = true := by simpa using h2
  unfold AnsG at CD
  clear hE hw hl hc hb0 hL hn e1 e2 h1 h2
  go_enter Try.func5, Try.ntmps5
  go_wp2_with (first
    | (go_at_call 8; have hh := HB0.out; refine Calls.mono (wakes8 _) ?_; rintro e v1 ⟨rfl, hb⟩; have HB1 := hidOg (HB0.out.trans (hb.mono HB0.out.size)); have HX01 := hidOg (atW hb X0.out); have cX0 := cell1_heap HX01.out; clear HB0 X0 hb hh)
    | (go_at_call 9; have hh := HB1.out; refine Calls.mono (CO _ HB1.out) ?_; rintro e v2 ⟨q, d, rfl, hg, hb⟩; have hy := bal v2 (.cells #[.slice q L.length d] 24); have hz := (HB1.out.trans (hb.mono HB1.out.size)); have HB2 := hidOg (hz.trans (hy.mono hz.size)); have HX02 := hidOg (atW hy (atW hb HX01.out)); have HR2 := hidOg (blk1 (W := v2) (o := .cells #[.slice q L.length d] 24)); have HG2 := hidOg ((hg).to hy); have cX0 := cell1_heap HX02.out; have cR := cell1_heap HR2.out; clear hg; clear HB1 HX01 hb hh hy hz)
    | (go_at_call 14; have hh := HB2.out; refine Calls.mono (CA _ _ _ _ HG2.out) ?_; rintro e v3 ⟨rfl, hb⟩; have hy := bal v3 (.cells #[.int .i64 0, .int .i64 0] 34); have hz := (HB2.out.trans (hb.mono HB2.out.size)); have HB3 := hidOg (hz.trans (hy.mono hz.size)); have HX03 := hidOg (atW hy (atW hb HX02.out)); have HR3 := hidOg (atW hy (atW hb HR2.out)); have HG3 := hidOg ((HG2.out.to hb).to hy); have HS3 := hidOg (blk1 (W := v3) (o := .cells #[.int .i64 0, .int .i64 0] 34)); have cX0 := cell1_heap HX03.out; have cR := cell1_heap HR3.out; obtain ⟨cS0, cS1, _⟩ := cell2_heap HS3.out; clear HB2 HX02 HR2 HG2 hb hh hy hz)
    | (go_at_call 23; have hh := HB3.out; refine Calls.mono (CD _ _ _ _ HG3.out) ?_; rintro e v4 ⟨q4, d4, rfl, _, hb⟩; have hy := bal v4 (.cells #[.slice q4 0 d4] 24); have hz := (HB3.out.trans (hb.mono HB3.out.size)); have HB4 := hidOg (hz.trans (hy.mono hz.size)); have HX04 := hidOg (atW hy (atW hb HX03.out)); have HR4 := hidOg (atW hy (atW hb HR3.out)); have HG4 := hidOg ((HG3.out.to hb).to hy); have HS4 := hidOg (atW hy (atW hb HS3.out)); have cX0 := cell1_heap HX04.out; have cR := cell1_heap HR4.out; obtain ⟨cS0, cS1, _⟩ := cell2_heap HS4.out; clear HB3 HX03 HR3 HG3 HS3 hb hh hy hz))
  go_ret
  exact ⟨rfl, HB4.out⟩
set_option maxRecDepth 20000 in
set_option maxHeartbeats 4000000 in
theorem back_yes (p : Option Addr) (l : List Sp) (c k : Nat) (w : World) (hE : SRow w.heap.size w p l) (hw : wfL l) (hl : l.length ≤ maxLen) (hc : l.length ≤ c) (hm : mayS (l.take 40) = true) (hk : sG (l.take 40) k ≠ (0, 0)) :
    Calls Try.prog 5 #[.agg #[.slice p l.length c], .int .i64 ((k : Int) + 1)] w fun e w' => e = .returned (.bool true) ∧ Below w.heap.size w w' := by
  have hb0 := bal w (.cells #[.slice p l.length c] 24)
  have HB0 := hidOg hb0
  have X0 := hidOg (blk1 (W := w) (o := .cells #[.slice p l.length c] 24))
  have CO := fun (W : World) (hb : Below w.heap.size w W) => own9 p l c W (hE.to hb) hl hc
  have hL40 : (l.take 40).length ≤ 40 := by simp; omega
  have hwL := hw.take 40
  obtain ⟨L, hL⟩ : ∃ L, L = l.take 40 := ⟨_, rfl⟩
  rw [← hL] at CO hL40 hwL hm hk
  have hkl : k < 40 := by have := sG_lt hk; omega
  have hmD := may_drop hm (k := k) (by omega)
  have hfL := (may_iff.1 hm).2.2
  have hpl := hfL.1 k hk
  have hsD : ∀ j, sG (puX L k (0, 0)) j = if j = k then (0, 0) else sG L j := sG_puX L k (0, 0)
  have hfree : ∀ j, j ≠ k → sG (puX L k (0, 0)) j ≠ sG L k := fun j hj e => by
    rw [hsD, if_neg hj] at e
    exact hj (hfL.2 j k (by rw [e]; exact hk) e)
  have hfree2 : ∀ j, sG (puX L k (0, 0)) j ≠ sG L k := fun j => by
    by_cases e : j = k
    · rw [hsD, if_pos e]; exact fun h => hk h.symm
    · exact hfree j e
  have hwD : wfL (puX L k (0, 0)) := wf_puX hwL k wfS_0
  have hlD : (puX L k (0, 0)).length ≤ 100 := by have := puX_len L k (0, 0); omega
  have hBL : puX (puX L k (0, 0)) k (sG L k) = L := norm_eq (norm_puX _ _ _) (may_iff.1 hm).2.1 fun j => by
    rw [sG_puX, hsD]
    by_cases e : j = k
    · rw [if_pos e, e]
    · rw [if_neg e, if_neg e]
  have e1 := ga_yes hm hk
  have e2 := drR_yes hm hk
  have e3 := puR_yes hmD (k := k) (by omega) hpl hfree
  rw [hBL] at e3
  have e4 : gaA (puX L k (0, 0)) ((k : Int) + 1) = ((0, 0), 4) := ga_gone hmD (by rw [hsD, if_pos rfl])
  have e5 : whoV L (sG L k) = (k : Int) + 1 := by unfold whoV; rw [hm, if_pos rfl]; exact whF_at hfL hk
  have e6 : whoV (puX L k (0, 0)) (sG L k) = 0 := by unfold whoV; rw [hmD, if_pos rfl]; exact whF_none hfree2
  obtain ⟨D, hD⟩ : ∃ D, D = puX L k (0, 0) := ⟨_, rfl⟩
  rw [← hD] at e2 e3 e4 e6 hmD hwD hlD
  have hws := hwL.at k
  have hhas : ∀ X, AnsR L (sG L k).1 X → hasI X ((k : Int) + 1) = true := fun X hX => by
    have hk1 : ((k : Int) + 1).toNat - 1 = k := by omega
    rw [apart_has (hX.1 hm), fiB_nat, decide_eq_false hk, hk1]; simp
  have CA := fun (W : World) (q : Option Addr) (d B : Nat) (h : GvS B W q L d) => at14 q L d ((k : Int) + 1) W h.i hwL (by omega)
  have CAD := fun (W : World) (q : Option Addr) (d B : Nat) (h : GvS B W q D d) => at14 q D d ((k : Int) + 1) W h.i hwD (by omega)
  have CW := fun (W : World) (q : Option Addr) (d B : Nat) (h : GvS B W q L d) => who19 q L d (sG L k) W h.i hwL (by omega) hws
  have CWD := fun (W : World) (q : Option Addr) (d B : Nat) (h : GvS B W q D d) => who19 q D d (sG L k) W h.i hwD (by omega) hws
  have CD := fun (W : World) (q : Option Addr) (d B : Nat) (h : GvS B W q L d) => drop23 q L d ((k : Int) + 1) W h.i hwL (by omega)
  have CP := fun (W : World) (q : Option Addr) (d B : Nat) (h : GvS B W q D d) => put21 q D d ((k : Int) + 1) (sG L k) W h.i hwD (by omega) hws
  have CS := fun (W : World) (q q' : Option Addr) (d d' B B' : Nat) (h : GvS B W q L d) (h' : GvS B' W q' L d') => same12 q L d q' L d' W h.i h'.i (by omega)
  have CC := fun (W : World) (q : Option Addr) (d B : Nat) (h : GvS B W q D d) => check11 q D d W h.i hwD (by omega)
  have CR := fun (W : World) (q : Option Addr) (d B : Nat) (h : GvS B W q L d) => rows15 q L d (sG L k).1 W h.i hwL (by omega)
  have CI := fun (W : World) (q : Option Addr) (X : List Int) (d B : Nat) (h : OwnR B W q X d) (hX : hasI X ((k : Int) + 1) = true) => (show Calls Try.prog 27 #[.slice q X.length d, .int .i64 ((k : Int) + 1)] W fun e w' => e = .returned (.bool true) ∧ w' = W by rw [← hX]; exact contains27 q X d ((k : Int) + 1) W h.row.i h.n)
  rw [e1] at CA
  rw [e4] at CAD
  rw [e5] at CW
  rw [e6] at CWD
  rw [e2] at CD
  rw [e3] at CP
  rw [samS_refl] at CS
  rw [hmD] at CC
  have hkne : ((k : Int) + 1 == 0) = false := by simp; omega
  have hkne2 : decide ((k : Int) + 1 = 0) = false := decide_eq_false (by omega)
  rw [hkne2] at CW
  obtain ⟨⟨a, dd⟩, hs⟩ : ∃ s, s = sG L k := ⟨_, rfl⟩
  rw [← hs] at CA CW CWD CP CR hhas
  have HH := hidOg hhas
  unfold AnsG at CD CP
  dsimp only at CA CW CWD CP CR
  clear hE hw hl hc hb0 hL hm hk hmD hfL hpl hsD hfree hfree2 hwD hlD hBL e1 e2 e3 e4 e5 e6 hD hws hs hhas hkne2
  go_enter Try.func5, Try.ntmps5
  go_wp2_with (first
    | (go_at_call 8; have hh := HB0.out; refine Calls.mono (wakes8 _) ?_; rintro e v1 ⟨rfl, hb⟩; have HB1 := hidOg (HB0.out.trans (hb.mono HB0.out.size)); have HX01 := hidOg (atW hb X0.out); have cX0 := cell1_heap HX01.out; clear HB0 X0 hb hh)
    | (go_at_call 9; have hh := HB1.out; refine Calls.mono (CO _ HB1.out) ?_; rintro e v2 ⟨q, d, rfl, hg, hb⟩; have hy := bal v2 (.cells #[.slice q L.length d] 24); have hz := (HB1.out.trans (hb.mono HB1.out.size)); have HB2 := hidOg (hz.trans (hy.mono hz.size)); have HX02 := hidOg (atW hy (atW hb HX01.out)); have HR2 := hidOg (blk1 (W := v2) (o := .cells #[.slice q L.length d] 24)); have HG2 := hidOg ((hg).to hy); have cX0 := cell1_heap HX02.out; have cR := cell1_heap HR2.out; clear hg; clear HB1 HX01 hb hh hy hz)
    | (go_at_call 14; have hh := HB2.out; refine Calls.mono (CA _ _ _ _ HG2.out) ?_; rintro e v3 ⟨rfl, hb⟩; have hy := bal v3 (.cells #[.int .i64 a, .int .i64 dd] 34); have hz := (HB2.out.trans (hb.mono HB2.out.size)); have HB3 := hidOg (hz.trans (hy.mono hz.size)); have HX03 := hidOg (atW hy (atW hb HX02.out)); have HR3 := hidOg (atW hy (atW hb HR2.out)); have HG3 := hidOg ((HG2.out.to hb).to hy); have HS3 := hidOg (blk1 (W := v3) (o := .cells #[.int .i64 a, .int .i64 dd] 34)); have cX0 := cell1_heap HX03.out; have cR := cell1_heap HR3.out; obtain ⟨cS0, cS1, _⟩ := cell2_heap HS3.out; clear HB2 HX02 HR2 HG2 hb hh hy hz)
    | (go_at_call 19; have hh := HB3.out; refine Calls.mono (CW _ _ _ _ HG3.out) ?_; rintro e v4 ⟨rfl, hb⟩; have HB4 := hidOg (HB3.out.trans (hb.mono HB3.out.size)); have HX04 := hidOg (atW hb HX03.out); have HR4 := hidOg (atW hb HR3.out); have HG4 := hidOg (HG3.out.to hb); have HS4 := hidOg (atW hb HS3.out); have cX0 := cell1_heap HX04.out; have cR := cell1_heap HR4.out; obtain ⟨cS0, cS1, _⟩ := cell2_heap HS4.out; clear HB3 HX03 HR3 HG3 HS3 hb hh)
    | (go_at_call 23; have hh := HB4.out; refine Calls.mono (CD _ _ _ _ HG4.out) ?_; rintro e v5 ⟨qD, dD, rfl, hg, hb⟩; have hy := bal v5 (.cells #[.slice qD D.length dD] 24); have hz := (HB4.out.trans (hb.mono HB4.out.size)); have HB5 := hidOg (hz.trans (hy.mono hz.size)); have HX05 := hidOg (atW hy (atW hb HX04.out)); have HR5 := hidOg (atW hy (atW hb HR4.out)); have HG5 := hidOg ((HG4.out.to hb).to hy); have HS5 := hidOg (atW hy (atW hb HS4.out)); have HD5 := hidOg (blk1 (W := v5) (o := .cells #[.slice qD D.length dD] 24)); have HK5 := hidOg ((hg).to hy); have cX0 := cell1_heap HX05.out; have cR := cell1_heap HR5.out; obtain ⟨cS0, cS1, _⟩ := cell2_heap HS5.out; have cD := cell1_heap HD5.out; clear hg; clear HB4 HX04 HR4 HG4 HS4 hb hh hy hz)
    | (go_at_call 21; have hh := HB5.out; refine Calls.mono (CP _ _ _ _ HK5.out) ?_; rintro e v6 ⟨qB, dB, rfl, hg, hb⟩; have hy := bal v6 (.cells #[.slice qB L.length dB] 24); have hz := (HB5.out.trans (hb.mono HB5.out.size)); have HB6 := hidOg (hz.trans (hy.mono hz.size)); have HX06 := hidOg (atW hy (atW hb HX05.out)); have HR6 := hidOg (atW hy (atW hb HR5.out)); have HG6 := hidOg ((HG5.out.to hb).to hy); have HS6 := hidOg (atW hy (atW hb HS5.out)); have HD6 := hidOg (atW hy (atW hb HD5.out)); have HK6 := hidOg ((HK5.out.to hb).to hy); have HE6 := hidOg (blk1 (W := v6) (o := .cells #[.slice qB L.length dB] 24)); have HM6 := hidOg ((hg).to hy); have cX0 := cell1_heap HX06.out; have cR := cell1_heap HR6.out; obtain ⟨cS0, cS1, _⟩ := cell2_heap HS6.out; have cD := cell1_heap HD6.out; have cE := cell1_heap HE6.out; clear hg; clear HB5 HX05 HR5 HG5 HS5 HD5 HK5 hb hh hy hz)
    | (go_at_call 14; have hh := HB6.out; refine Calls.mono (CAD _ _ _ _ HK6.out) ?_; rintro e v7 ⟨rfl, hb⟩; have hy := bal v7 (.cells #[.int .i64 0, .int .i64 0] 34); have hz := (HB6.out.trans (hb.mono HB6.out.size)); have HB7 := hidOg (hz.trans (hy.mono hz.size)); have HX07 := hidOg (atW hy (atW hb HX06.out)); have HR7 := hidOg (atW hy (atW hb HR6.out)); have HG7 := hidOg ((HG6.out.to hb).to hy); have HS7 := hidOg (atW hy (atW hb HS6.out)); have HD7 := hidOg (atW hy (atW hb HD6.out)); have HK7 := hidOg ((HK6.out.to hb).to hy); have HE7 := hidOg (atW hy (atW hb HE6.out)); have HM7 := hidOg ((HM6.out.to hb).to hy); have cX0 := cell1_heap HX07.out; have cR := cell1_heap HR7.out; obtain ⟨cS0, cS1, _⟩ := cell2_heap HS7.out; have cD := cell1_heap HD7.out; have cE := cell1_heap HE7.out; clear HB6 HX06 HR6 HG6 HS6 HD6 HK6 HE6 HM6 hb hh hy hz)
    | (go_at_call 19; have hh := HB7.out; refine Calls.mono (CWD _ _ _ _ HK7.out) ?_; rintro e v8 ⟨rfl, hb⟩; have HB8 := hidOg (HB7.out.trans (hb.mono HB7.out.size)); have HX08 := hidOg (atW hb HX07.out); have HR8 := hidOg (atW hb HR7.out); have HG8 := hidOg (HG7.out.to hb); have HS8 := hidOg (atW hb HS7.out); have HD8 := hidOg (atW hb HD7.out); have HK8 := hidOg (HK7.out.to hb); have HE8 := hidOg (atW hb HE7.out); have HM8 := hidOg (HM7.out.to hb); have cX0 := cell1_heap HX08.out; have cR := cell1_heap HR8.out; obtain ⟨cS0, cS1, _⟩ := cell2_heap HS8.out; have cD := cell1_heap HD8.out; have cE := cell1_heap HE8.out; clear HB7 HX07 HR7 HG7 HS7 HD7 HK7 HE7 HM7 hb hh)
    | (go_at_call 12; have hh := HB8.out; refine Calls.mono (CS _ _ _ _ _ _ _ HM8.out HG8.out) ?_; rintro e v9 ⟨rfl, hb⟩; have HB9 := hidOg (HB8.out.trans (hb.mono HB8.out.size)); have HX09 := hidOg (atW hb HX08.out); have HR9 := hidOg (atW hb HR8.out); have HG9 := hidOg (HG8.out.to hb); have HS9 := hidOg (atW hb HS8.out); have HD9 := hidOg (atW hb HD8.out); have HK9 := hidOg (HK8.out.to hb); have HE9 := hidOg (atW hb HE8.out); have HM9 := hidOg (HM8.out.to hb); have cX0 := cell1_heap HX09.out; have cR := cell1_heap HR9.out; obtain ⟨cS0, cS1, _⟩ := cell2_heap HS9.out; have cD := cell1_heap HD9.out; have cE := cell1_heap HE9.out; clear HB8 HX08 HR8 HG8 HS8 HD8 HK8 HE8 HM8 hb hh)
    | (go_at_call 11; have hh := HB9.out; refine Calls.mono (CC _ _ _ _ HK9.out) ?_; rintro e v10 ⟨rfl, hb⟩; have HB10 := hidOg (HB9.out.trans (hb.mono HB9.out.size)); have HX010 := hidOg (atW hb HX09.out); have HR10 := hidOg (atW hb HR9.out); have HG10 := hidOg (HG9.out.to hb); have HS10 := hidOg (atW hb HS9.out); have HD10 := hidOg (atW hb HD9.out); have HK10 := hidOg (HK9.out.to hb); have HE10 := hidOg (atW hb HE9.out); have HM10 := hidOg (HM9.out.to hb); have cX0 := cell1_heap HX010.out; have cR := cell1_heap HR10.out; obtain ⟨cS0, cS1, _⟩ := cell2_heap HS10.out; have cD := cell1_heap HD10.out; have cE := cell1_heap HE10.out; clear HB9 HX09 HR9 HG9 HS9 HD9 HK9 HE9 HM9 hb hh)
    | (go_at_call 15; have hh := HB10.out; refine Calls.mono (CR _ _ _ _ HG10.out) ?_; rintro e v11 ⟨qX, X, dX, rfl, hx, ho, hb⟩; have HB11 := hidOg (HB10.out.trans (hb.mono HB10.out.size)); have HX011 := hidOg (atW hb HX010.out); have HR11 := hidOg (atW hb HR10.out); have HG11 := hidOg (HG10.out.to hb); have HS11 := hidOg (atW hb HS10.out); have HD11 := hidOg (atW hb HD10.out); have HK11 := hidOg (HK10.out.to hb); have HE11 := hidOg (atW hb HE10.out); have HM11 := hidOg (HM10.out.to hb); have HO11 := hidOg ho; have HY11 := hidOg (HH.out X hx); have cX0 := cell1_heap HX011.out; have cR := cell1_heap HR11.out; obtain ⟨cS0, cS1, _⟩ := cell2_heap HS11.out; have cD := cell1_heap HD11.out; have cE := cell1_heap HE11.out; clear hx ho; clear HB10 HX010 HR10 HG10 HS10 HD10 HK10 HE10 HM10 hb hh)
    | (go_at_call 27; have hh := HB11.out; refine Calls.mono (CI _ _ _ _ _ HO11.out HY11.out) ?_; rintro e wZ ⟨rfl, hw⟩; rw [hw]; clear hw wZ hh))
  go_ret
  exact ⟨rfl, HB11.out⟩
theorem back_walk (p : Option Addr) (l : List Sp) (c : Nat) (i : Int) (w : World) (hE : SRow w.heap.size w p l) (hw : wfL l) (hl : l.length ≤ maxLen) (hc : l.length ≤ c) :
    Calls Try.prog 5 #[.agg #[.slice p l.length c], .int .i64 i] w fun e w' => e = .returned (.bool true) ∧ Below w.heap.size w w' := by
  by_cases h : mayS (l.take 40) = true ∧ fiB (l.take 40) i = true
  · obtain ⟨k, rfl, _, hk⟩ := fiB_ex h.2
    exact back_yes p l c k w hE hw hl hc h.1 hk
  · exact back_no p l c i w hE hw hl hc h
end Go.Proofs.Ytijlkdppjmfbhaa
