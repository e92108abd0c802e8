/- RecordSwaps: the walk. -/
import Derived.Test.YtijlkdppjmfbhaaRmB
import Derived.Test.YtijlkdppjmfbhaaBkA
namespace Go.Proofs.Ytijlkdppjmfbhaa
open Go.RowKit Go.Sort Go.Maps

theorem GvS.setT {B : Nat} {w : World} {p : Option Addr} {l : List Sp} {c : Nat} (h : GvS B w p l c) {G o : Nat} {cs : Array Value} (hG : w.heap[G]? = some (.cells cs 24 (0, 0))) (v : Value) : GvS B (w.setCell ⟨G, o, none⟩ v) p l c :=
  ⟨fun h0 => by
    obtain ⟨b, cur, e, h1, hh, ht⟩ := h.o h0
    have hne : b ≠ G := fun e => by rw [e, hG] at hh; cases hh
    exact ⟨b, cur, e, h1, (heap_setCell_other _ _ _ _ hne).trans hh, ht⟩, h.r, h.n⟩
theorem OwnR.setT {B : Nat} {w : World} {p : Option Addr} {l : List Int} {c : Nat} (h : OwnR B w p l c) {G o : Nat} {cs : Array Value} (hG : w.heap[G]? = some (.cells cs 24 (0, 0))) (v : Value) : OwnR B (w.setCell ⟨G, o, none⟩ v) p l c :=
  h.setCell (fun x hx => by
    show x.block ≠ G
    intro e
    rcases h.o.2 with ⟨h', _⟩ | ⟨g', cap', cur, h', hb, hc, h1, h2, h3, h4⟩
    · injection h' with e1; rw [hx] at e1; cases e1
    · injection h' with e1; rw [hx] at e1; cases e1
      rw [← e] at hG; rw [hG] at hc; cases hc) v
/-- What the first loop keeps: the box of records, that of the spot, a row of indexes. -/
def SwK (w0 : World) (Rb Sb : Nat) (a dd : Int) (qX : Option Addr) (X : List Int) (dX : Nat) (l : List Sp) (W : World) : Prop :=
  (∃ q d, W.heap[Rb]? = some (.cells #[.slice q l.length d] 24) ∧ GvS 0 W q l d) ∧ W.heap[Sb]? = some (.cells #[.int .i64 a, .int .i64 dd] 34) ∧ OwnR 0 W qX X dX ∧ Below w0.heap.size w0 W
theorem SwK.next {w0 W W1 : World} {Rb Sb : Nat} {a dd : Int} {qX : Option Addr} {X : List Int} {dX : Nat} {l l' : List Sp} {q' : Option Addr} {d' B : Nat} (h : SwK w0 Rb Sb a dd qX X dX l W) (hR : w0.heap.size ≤ Rb) (hS : Sb ≠ Rb) (hb : Below W.heap.size W W1) (hg : GvS B W1 q' l' d') :
    SwK w0 Rb Sb a dd qX X dX l' (W1.setCell ⟨Rb, 0, none⟩ (.slice q' l'.length d')) := by
  obtain ⟨⟨q, d, h1, h2⟩, h3, h4, h5⟩ := h
  have hz := atW hb h1
  exact ⟨⟨q', d', set1_heap hz _, (hg.weak (Nat.zero_le _)).setT hz _⟩, (heap_setCell_other _ _ _ _ hS).trans (atW hb h3), (h4.to hb).setT hz _, (h5.trans (hb.mono h5.size)).setCell (p := ⟨Rb, 0, none⟩) hR _⟩
theorem irow_set {w : World} {G j : Nat} {l : List Int} {B c : Nat} (h : OwnR B w (some ⟨G, 0, none⟩) l c) (hj : j < l.length) (x : Int) : IRow .i64 (w.setCell ⟨G, j, none⟩ (.int .i64 x)).heap.size (w.setCell ⟨G, j, none⟩ (.int .i64 x)) (some ⟨G, 0, none⟩) (l.set j x) := fun h0 => by
  obtain ⟨b, off, e, hb, hc⟩ := h.row.i (by omega)
  cases e
  refine ⟨G, 0, rfl, ?_, fun k hk => ?_⟩
  · have := ((Below.refl 0 w).setCell (p := ⟨G, j, none⟩) (Nat.zero_le _) (.int .i64 x)).size; omega
  · rw [List.length_set] at hk
    have ck := hc k hk
    unfold iG
    rw [List.getD_eq_getElem?_getD, List.getElem?_set]
    by_cases e : j = k
    · subst e
      rw [if_pos rfl, if_pos hj, Nat.zero_add]
      rw [Nat.zero_add] at ck
      exact World.cell?_setCell_same' _ _ _ (by rw [ck]; rfl)
    · rw [if_neg e, ← List.getD_eq_getElem?_getD]
      have h2 := World.cell?_setCell_other (w := w) (v := .int .i64 x) (a := ⟨G, j, none⟩) (b := ⟨G, 0 + k, none⟩) (by intro h; injection h with h1 h2; omega)
      exact h2.trans ck
theorem ownR_fr {w : World} {G : Nat} {l : List Int} {B c : Nat} (h : OwnR B w (some ⟨G, 0, none⟩) l c) (o : Nat) : w.frozen? ⟨G, o, none⟩ = false := by
  rcases h.o.2 with ⟨h', _⟩ | ⟨g', cap', cur, h', hb, hc, h1, h2, h3, h4⟩
  · cases h'
  · cases h'; exact fr_heap hc o
theorem ownR_a {w : World} {q : Option Addr} {l : List Int} {B c : Nat} (h : OwnR B w q l c) (h0 : 0 < l.length) : ∃ G, q = some ⟨G, 0, none⟩ ∧ B ≤ G := by
  rcases h.o.2 with ⟨h', e⟩ | ⟨g', cap', cur, h', hb, _⟩
  · omega
  · injection h' with e1; exact ⟨g', e1, hb⟩
set_option maxRecDepth 20000 in
set_option maxHeartbeats 4000000 in
theorem swaps_no (p : Option Addr) (l : List Sp) (c : Nat) (i : Int) (w : World) (hE : SRow w.heap.size w p l) (hw : wfL l) (hl : l.length ≤ maxLen) (hc : l.length ≤ c) (hn : ¬ (mayS (l.take 40) = true ∧ fiB (l.take 40) i = true)) :
    Calls Try.prog 6 #[.agg #[.slice p l.length c], .int .i64 i] w fun e w' => e = .returned (.bool true) ∧ Below w.heap.size w w' := by
  have hb0 := bal w (.cells #[.slice p l.length c] 24)
  have HB0 := hidOg hb0
  have X0 := hidOg (blk1 (W := w) (o := .cells #[.slice p l.length c] 24))
  have CO := fun (W : World) (hb : Below w.heap.size w W) => own9 p l c W (hE.to hb) hl hc
  have hL40 : (l.take 40).length ≤ 40 := by simp; omega
  have hwL := hw.take 40
  obtain ⟨L, hL⟩ : ∃ L, L = l.take 40 := ⟨_, rfl⟩
  rw [← hL] at CO hL40 hwL hn
  obtain ⟨⟨er, e1, h1⟩, _⟩ := ga_no hn
  have CA := fun (W : World) (q : Option Addr) (d B : Nat) (h : GvS B W q L d) => at14 q L d i W h.i hwL (by omega)
  rw [e1] at CA
  have d1 : (er == 0) = false := by simpa using h1
  clear hE hw hl hc hb0 hL hn e1 h1
  go_enter Try.func6, Try.ntmps6
  go_wp2_with (first
    | (go_at_call 8; have hh := HB0.out; refine Calls.mono (wakes8 _) ?_; rintro e v1 ⟨rfl, hb⟩; have HB1 := hidOg (HB0.out.trans (hb.mono HB0.out.size)); have HX01 := hidOg (atW hb X0.out); have cX0 := cell1_heap HX01.out; clear HB0 X0 hb hh)
    | (go_at_call 9; have hh := HB1.out; refine Calls.mono (CO _ HB1.out) ?_; clear cX0; rintro e v2 ⟨q, d, rfl, hg, hb⟩; have hy := bal v2 (.cells #[.slice q L.length d] 24); have hz := (HB1.out.trans (hb.mono HB1.out.size)); have HB2 := hidOg (hz.trans (hy.mono hz.size)); have HX02 := hidOg (atW hy (atW hb HX01.out)); have HR2 := hidOg (blk1 (W := v2) (o := .cells #[.slice q L.length d] 24)); have HG2 := hidOg ((hg).to hy); have cX0 := cell1_heap HX02.out; have cR := cell1_heap HR2.out; clear hg; clear HB1 HX01 hb hh hy hz)
    | (go_at_call 14; have hh := HB2.out; refine Calls.mono (CA _ _ _ _ HG2.out) ?_; clear cX0 cR; rintro e v3 ⟨rfl, hb⟩; have hy := bal v3 (.cells #[.int .i64 0, .int .i64 0] 34); have hz := (HB2.out.trans (hb.mono HB2.out.size)); have HB3 := hidOg (hz.trans (hy.mono hz.size)); have HX03 := hidOg (atW hy (atW hb HX02.out)); have HR3 := hidOg (atW hy (atW hb HR2.out)); have HG3 := hidOg ((HG2.out.to hb).to hy); have HS3 := hidOg (blk1 (W := v3) (o := .cells #[.int .i64 0, .int .i64 0] 34)); have cX0 := cell1_heap HX03.out; have cR := cell1_heap HR3.out; obtain ⟨cS0, cS1, _⟩ := cell2_heap HS3.out; clear HB2 HX02 HR2 HG2 hb hh hy hz))
  go_ret
  exact ⟨rfl, HB3.out⟩
set_option maxRecDepth 20000 in
set_option maxHeartbeats 8000000 in
theorem swaps_yes (p : Option Addr) (l : List Sp) (c k : Nat) (w : World) (hE : SRow w.heap.size w p l) (hw : wfL l) (hl : l.length ≤ maxLen) (hc : l.length ≤ c) (hm : mayS (l.take 40) = true) (hk : sG (l.take 40) k ≠ (0, 0)) :
    Calls Try.prog 6 #[.agg #[.slice p l.length c], .int .i64 ((k : Int) + 1)] w fun e w' => e = .returned (.bool true) ∧ Below w.heap.size w w' := by
  have hb0 := bal w (.cells #[.slice p l.length c] 24)
  have HB0 := hidOg hb0
  have X0 := hidOg (blk1 (W := w) (o := .cells #[.slice p l.length c] 24))
  have CO := fun (W : World) (hb : Below w.heap.size w W) => own9 p l c W (hE.to hb) hl hc
  have hL40 : (l.take 40).length ≤ 40 := by simp; omega
  have hwL := hw.take 40
  obtain ⟨L, hL⟩ : ∃ L, L = l.take 40 := ⟨_, rfl⟩
  rw [← hL] at CO hL40 hwL hm hk
  have e1 := ga_yes hm hk
  have hws := hwL.at k
  have hT0 : (sG L k).1 ≠ 0 := by
    have := (may_iff.1 hm).2.2.1 k hk
    unfold plB at this; simp at this; omega
  have CA := fun (W : World) (q : Option Addr) (d B : Nat) (h : GvS B W q L d) => at14 q L d ((k : Int) + 1) W h.i hwL (by omega)
  rw [e1] at CA
  obtain ⟨⟨a, dd⟩, hs⟩ : ∃ s, s = sG L k := ⟨_, rfl⟩
  rw [← hs] at CA hT0 hws
  dsimp only at CA hT0
  have hwT : wfI a := hws.1
  -- the indexes of the table, whatever row holds them
  have HROWS : Hid (∀ X, AnsR L a X → (0 < X.length ∧ X.length ≤ 40) ∧ IsRows L a X ∧ ∃ j0, j0 < X.length ∧ plX X j0 = k) := fun X hX => by
    have hX := hX.1 hm
    have hmem : ((k : Int) + 1) ∈ X := (isRows_mem hX).2 ⟨k, sG_lt hk, hk, by rw [← hs], rfl⟩
    obtain ⟨j0, hj0, e⟩ := List.getElem_of_mem hmem
    have hle : X.length ≤ 40 := by
      have := hX.1.length_eq
      have h2 := rwN_len L a (plN L L.length)
      have h3 := plN_len L L.length
      omega
    exact ⟨⟨by omega, hle⟩, hX, j0, hj0, by unfold plX; rw [iG_eq hj0, e]; omega⟩
  have CR := fun (W : World) (q : Option Addr) (d B : Nat) (h : GvS B W q L d) => rows15 q L d a W h.i hwL (by omega)
  have HM := hidOg hm
  have HWL := hidOg hwL
  clear hE hw hl hc hb0 hL hm hk e1 hws hs hwL
  go_enter Try.func6, Try.ntmps6
  go_wp2_with (first
    | (go_at_call 8; have hh := HB0.out; refine Calls.mono (wakes8 _) ?_; rintro e v1 ⟨rfl, hb⟩; have HB1 := hidOg (HB0.out.trans (hb.mono HB0.out.size)); have HX01 := hidOg (atW hb X0.out); have cX0 := cell1_heap HX01.out; clear HB0 X0 hb hh)
    | (go_at_call 9; have hh := HB1.out; refine Calls.mono (CO _ HB1.out) ?_; clear cX0; rintro e v2 ⟨q, d, rfl, hg, hb⟩; have hy := bal v2 (.cells #[.slice q L.length d] 24); have hz := (HB1.out.trans (hb.mono HB1.out.size)); have HB2 := hidOg (hz.trans (hy.mono hz.size)); have HX02 := hidOg (atW hy (atW hb HX01.out)); have HN2 := hidOg (HB1.out.trans (hb.mono HB1.out.size)).size; have HR2 := hidOg (blk1 (W := v2) (o := .cells #[.slice q L.length d] 24)); have HG2 := hidOg ((hg).to hy); have cX0 := cell1_heap HX02.out; have cR := cell1_heap HR2.out; clear hg; clear HB1 HX01 hb hh hy hz)
    | (go_at_call 14; have hh := HB2.out; refine Calls.mono (CA _ _ _ _ HG2.out) ?_; clear cX0 cR; rintro e v3 ⟨rfl, hb⟩; have hy := bal v3 (.cells #[.int .i64 a, .int .i64 dd] 34); have hz := (HB2.out.trans (hb.mono HB2.out.size)); have HB3 := hidOg (hz.trans (hy.mono hz.size)); have HX03 := hidOg (atW hy (atW hb HX02.out)); have HR3 := hidOg (atW hy (atW hb HR2.out)); have HG3 := hidOg ((HG2.out.to hb).to hy); have HS3 := hidOg (blk1 (W := v3) (o := .cells #[.int .i64 a, .int .i64 dd] 34)); have HM3 := hidOg (show v2.heap.size < v3.heap.size from by have := hb.size; rwa [World.size_alloc] at this); have cX0 := cell1_heap HX03.out; have cR := cell1_heap HR3.out; obtain ⟨cS0, cS1, _⟩ := cell2_heap HS3.out; clear HB2 HX02 HR2 HG2 hb hh hy hz)
    | (go_at_call 15; have hh := HB3.out; refine Calls.mono (CR _ _ _ _ HG3.out) ?_; clear cX0 cR cS0 cS1; rintro e v4 ⟨qX, X, dX, rfl, hx, ho, hb⟩; have HB4 := hidOg (HB3.out.trans (hb.mono HB3.out.size)); have HX04 := hidOg (atW hb HX03.out); have HR4 := hidOg (atW hb HR3.out); have HG4 := hidOg (HG3.out.to hb); have HS4 := hidOg (atW hb HS3.out); have HO4 := hidOg ho; have HY4 := hidOg (HROWS.out X hx); have cX0 := cell1_heap HX04.out; have cR := cell1_heap HR4.out; obtain ⟨cS0, cS1, _⟩ := cell2_heap HS4.out; clear hx ho; clear HB3 HX03 HR3 HG3 HS3 hb hh))
  obtain ⟨⟨hX0, hX40⟩, hX, j0, hj0, hpk⟩ := HY4.out
  have hRb := HN2.out
  have hSb : v3.heap.size ≠ v2.heap.size := by have := HM3.out; omega
  have HK0 : Hid (SwK w v2.heap.size v3.heap.size a dd qX X dX L v4) := ⟨⟨q, d, HR4.out, HG4.out.weak (Nat.zero_le _)⟩, HS4.out, HO4.out.weak (Nat.zero_le _), HB4.out⟩
  have HX := hidOg hX
  have HJ0 := hidOg hj0
  have HPK := hidOg hpk
  have hmr := fun j (hj : j ≤ X.length) => may_reL HM.out hX (by omega) (by omega) (j := j) hj
  have hwr := fun j (hj : j ≤ X.length) => wf_reL (L := L) (T := a) (X := X) HWL.out hwT (by omega) (j := j) hj
  have CD := fun (j : Nat) (hj : j < X.length) (W : World) (q : Option Addr) (d B : Nat) (h : GvS B W q (reL L X a j) d) => drop23 q (reL L X a j) d ((plX X j : Int) + 1) W h.i (hwr j (by omega)) (by have := (hmr j (by omega)).2; omega)
  have CP := fun (j : Nat) (hj : j < X.length) (W : World) (q : Option Addr) (d B : Nat) (h : GvS B W q (puX (reL L X a j) (plX X j) (0, 0)) d) => put21 q (puX (reL L X a j) (plX X j) (0, 0)) d ((plX X j : Int) + 1) (a, (j : Int)) W h.i (wf_puX (hwr j (by omega)) _ wfS_0) (by have := (hmr j (by omega)).2; have h2 := puX_len (reL L X a j) (plX X j) (0, 0); have h3 := (plX_at hX hj).2.1; omega) ⟨hwT, wfI_of (by omega) (by omega)⟩
  have hD := fun (j : Nat) (hj : j < X.length) => drR_yes (hmr j (by omega)).1 (k := plX X j) (by rw [sG_reL_at HM.out hX hj]; exact (plX_at hX hj).2.2.1)
  have hP := fun (j : Nat) (hj : j < X.length) => puR_yes (may_drop (hmr j (by omega)).1 (k := plX X j) (by have := (plX_at hX hj).2.1; omega)) (k := plX X j) (by have := (plX_at hX hj).2.1; omega) (plB_T HM.out hX hj j (by omega)) (free_reL HM.out hX hj)
  have HCD := hidOg CD
  have HCP := hidOg CP
  have HHD := hidOg hD
  have HHP := hidOg hP
  have HMR := hidOg hmr
  have HWR := hidOg hwr
  have HAT := hidOg (fun (j : Nat) (hj : j < X.length) => (plX_at hX hj).1)
  clear hX hj0 hpk hmr hwr CD CP hD hP CA CR CO HB4 HG4 HR4 HS4 HX04 HY4 cX0 cR
  go_loopw [38] (fun i wr => ∃ j : Nat, j ≤ X.length ∧ i = .int .i64 j ∧ SwK w v2.heap.size v3.heap.size a dd qX X dX (reL L X a j) wr) (fun i _ => X.length - (intOf i).toNat)
  case atStart => exact ⟨0, Nat.zero_le _, rfl, HK0.out⟩
  case round =>
    obtain ⟨j, hj, rfl, hK⟩ := hrel
    have HK := hidOg hK
    clear hK HK0
    by_cases hlt : j < X.length
    · obtain ⟨⟨qr, dr, hr1, hr2⟩, hr3, hr4, hr5⟩ := HK.out
      have r0 := cell1_heap hr1
      obtain ⟨s0, s1, _⟩ := cell2_heap hr3
      obtain ⟨b, off, rfl, hbN, hcs⟩ := hr4.row.i (by omega)
      have c0 := hcs j hlt
      rw [HAT.out j hlt] at c0
      have CDj := HCD.out j hlt
      have CPj := HCP.out j hlt
      rw [HHD.out j hlt] at CDj
      rw [HHP.out j hlt] at CPj
      have HG := hidOg hr2
      obtain ⟨D, hD⟩ : ∃ D, D = puX (reL L X a j) (plX X j) (0, 0) := ⟨_, rfl⟩
      rw [← hD] at CDj CPj
      obtain ⟨E, hE⟩ : ∃ E, E = puX D (plX X j) (a, (j : Int)) := ⟨_, rfl⟩
      rw [← hE] at CPj
      have HE : Hid (reL L X a (j + 1) = E) := by rw [hE, hD]; rfl
      obtain ⟨pk, hpk⟩ : ∃ pk, pk = plX X j := ⟨_, rfl⟩
      rw [← hpk] at c0 CDj CPj
      unfold AnsG at CDj CPj
      clear hcs hr1 hr2 hr3 hr4 hr5 hD hE hpk
      go_wp2_with (first
        | (go_at_call 23; refine Calls.mono (CDj _ _ _ _ HG.out) ?_; rintro e w1 ⟨q1, d1, rfl, hg, hb⟩; have HK1 := hidOg (HK.out.next hRb hSb hb hg); obtain ⟨⟨qq, dq, h1, h2⟩, h3, h4, h5⟩ := HK.out; have z1 := atW hb h1; have y1 := cell1_heap z1; have f1 := fr_heap z1; have HG1 := hidOg (hg.setT z1 (o := 0) (.slice q1 D.length d1)); obtain ⟨⟨q2, d2, g1, g2⟩, g3, g4, g5⟩ := HK1.out; have x1 := cell1_heap (set1_heap z1 (.slice q1 D.length d1)); obtain ⟨t0, t1, _⟩ := cell2_heap g3; clear hb hg h1 h2 h3 h4 h5 z1 g1 g2 g3 g4 g5 r0 s0 s1)
        | (go_at_call 21; refine Calls.mono (CPj _ _ _ _ HG1.out) ?_; rintro e w2 ⟨q3, d3, rfl, hg, hb⟩; have HK2 := hidOg (HK1.out.next hRb hSb hb hg); obtain ⟨⟨qq, dq, h1, h2⟩, h3, h4, h5⟩ := HK1.out; have z1 := atW hb h1; have y2 := cell1_heap z1; have f2 := fr_heap z1; clear hb hg h1 h2 h3 h4 h5 z1))
      go_roundw
      case rel => exact ⟨j + 1, by omega, by go_num, by rw [HE.out]; exact HK2.out⟩
      case measure => simp [intOf]; omega
    · have hjx : j = X.length := by omega
      have hge : ¬ ((j : Int) < (X.length : Int)) := by omega
      have hmR := (HMR.out X.length (Nat.le_refl _)).1
      have hlR := (HMR.out X.length (Nat.le_refl _)).2
      have hwR := HWR.out X.length (Nat.le_refl _)
      have hF := full_reL HM.out HX.out hT0
      have hSW := swap_facts HM.out HX.out hT0 (by omega) (by omega) HJ0.out
      have hFS := swap_full HM.out HX.out hT0 HJ0.out
      have hmS := swap_may HM.out HX.out hT0 (by omega) (by omega) HJ0.out
      have hwS := wf_puX (wf_puX hwR (plX X (X.length - 1)) (s := (a, (j0 : Int))) ⟨hwT, wfI_of (x := (j0 : Int)) (by omega) (by have := HJ0.out; omega)⟩) (plX X j0) wfS_0
      have hlS : (puX (puX (reL L X a X.length) (plX X (X.length - 1)) (a, (j0 : Int))) (plX X j0) (0, 0)).length ≤ 2000 := by
        have h1 := puX_len (puX (reL L X a X.length) (plX X (X.length - 1)) (a, (j0 : Int))) (plX X j0) (0, 0)
        have h2 := puX_len (reL L X a X.length) (plX X (X.length - 1)) (a, (j0 : Int))
        have h3 := (plX_at HX.out HJ0.out).2.1
        have h4 := (plX_at HX.out (j := X.length - 1) (by omega)).2.1
        omega
      have HK9 := hidOg (show SwK w v2.heap.size v3.heap.size a dd qX X dX (reL L X a X.length) wr by rw [← hjx]; exact HK.out)
      obtain ⟨R, hR⟩ : ∃ R, R = reL L X a X.length := ⟨_, rfl⟩
      rw [← hR] at hmR hlR hwR hF hSW hFS hmS hwS hlS HK9
      obtain ⟨S, hS⟩ : ∃ S, S = puX (puX R (plX X (X.length - 1)) (a, (j0 : Int))) (plX X j0) (0, 0) := ⟨_, rfl⟩
      rw [← hS] at hSW hFS hmS hwS hlS
      obtain ⟨n, hn⟩ : ∃ n, X.length = n + 1 := ⟨X.length - 1, by omega⟩
      have hixn : ixA X ((k : Int) + 1) = (j0 : Int) := by
        have e := (plX_at HX.out HJ0.out).1
        rw [HPK.out] at e
        have hmem : ((k : Int) + 1) ∈ X := by rw [← e]; exact iG_mem HJ0.out
        unfold ixA
        rw [if_pos hmem, idx_at HJ0.out ?_ e]
        intro i hi e2
        have h2 := plX_inj HM.out HX.out (i := i) (j := j0) (by have := HJ0.out; omega) HJ0.out (by unfold plX; rw [e2, e])
        omega
      rw [HPK.out] at hSW
      have hn1 : ((X.length : Int) - 1) = (n : Int) := by omega
      rw [hn1] at hSW
      have hswl : (swX X j0).length = n := by unfold swX; rw [List.length_take, List.length_set]; omega
      have hsw2 : swX X j0 = (X.set j0 (iG X n)).take n := by unfold swX; rw [show X.length - 1 = n by omega]
      have CRn := fun (W : World) (q : Option Addr) (d B : Nat) (h : GvS B W q R d) => (show Calls Try.prog 15 #[.agg #[.slice q R.length d], .int .i64 a] W fun e w' => ∃ q' d', e = .returned (.slice q' (n + 1) d') ∧ OwnR W.heap.size w' q' X d' ∧ Below W.heap.size W w' from (rows15 q R d a W h.i hwR (by omega)).mono fun e w' ⟨q', Y, d', e1, hy, ho, hb⟩ => by
        obtain rfl := isRows_uniq hmR (hy.1 hmR) (hF.rows hT0)
        exact ⟨q', d', by rw [e1, hn], ho, hb⟩)
      have CRS := fun (W : World) (q : Option Addr) (d B : Nat) (h : GvS B W q S d) => (show Calls Try.prog 15 #[.agg #[.slice q S.length d], .int .i64 a] W fun e w' => ∃ q' d', e = .returned (.slice q' n d') ∧ OwnR W.heap.size w' q' (swX X j0) d' ∧ Below W.heap.size W w' from (rows15 q S d a W h.i hwS (by omega)).mono fun e w' ⟨q', Y, d', e1, hy, ho, hb⟩ => by
        obtain rfl := isRows_uniq hmS (hy.1 hmS) (hFS.rows hT0)
        exact ⟨q', d', by rw [e1, hswl], ho, hb⟩)
      have CIX := fun (W : World) (q : Option Addr) (d B : Nat) (h : OwnR B W q X d) => (show Calls Try.prog 28 #[.slice q (n + 1) d, .int .i64 ((k : Int) + 1)] W fun e w' => e = .returned (.int .i64 (j0 : Int)) ∧ w' = W by rw [← hixn, ← hn]; exact index28 q X d ((k : Int) + 1) W h.row.i h.n)
      have CSW := fun (W : World) (q : Option Addr) (d B : Nat) (h : GvS B W q R d) => (show Calls Try.prog 25 #[.agg #[.slice q R.length d], .int .i64 ((k : Int) + 1), .int .i64 (n : Int)] W fun e w' => ∃ q' d', e = .returned (.tuple #[.agg #[.slice q' S.length d'], .int .i64 0]) ∧ GvS W.heap.size w' q' S d' ∧ Below W.heap.size W w' from (swap25 q R d ((k : Int) + 1) (n : Int) W h.i hwR (by omega) (wfI_of (by omega) (by omega))).mono fun e w' h => by
        rw [hSW] at h; exact h)
      have CCK := fun (W : World) (q : Option Addr) (d B : Nat) (h : GvS B W q S d) => check11 q S d W h.i hwS (by omega)
      rw [hmS] at CCK
      have CAT := fun (W : World) (q : Option Addr) (d B : Nat) (h : GvS B W q S d) (i : Int) => at14 q S d i W h.i hwS (by omega)
      have CCL := fun (W : World) (q : Option Addr) (d B : Nat) (h : OwnR B W q X d) => (show Calls Try.prog 29 #[.slice q (n + 1) d] W fun e w' => ∃ G c, e = .returned (.slice (some ⟨G, 0, none⟩) (n + 1) c) ∧ (OwnR W.heap.size w' (some ⟨G, 0, none⟩) X c ∧ W.heap.size ≤ G) ∧ Below W.heap.size W w' by
        rw [← hn]
        refine (clone29 q X d W h.row.i h.n).mono fun e w' ⟨v, e1, ho, hb⟩ => ?_
        obtain ⟨q', c', e2, _⟩ := irow_owns ho
        subst e2
        have ho' : OwnR W.heap.size w' q' X c' := ⟨ho, h.n⟩
        obtain ⟨G, e3, hG⟩ := ownR_a ho' (by omega)
        subst e3
        exact ⟨G, c', e1, ⟨ho', hG⟩, hb⟩)
      have HFS := hidOg hFS.1
      rw [hswl] at HFS
      have HGA := hidOg (fun (kk : Nat) (h : sG S kk ≠ (0, 0)) => ga_yes hmS h)
      have HJN : Hid (j0 < n + 1) := by rw [← hn]; exact HJ0.out
      have hjn := HJN.out
      have HN1 := hidOg hn
      have HSW2 := hidOg hsw2
      have HSWL := hidOg hswl
      obtain ⟨⟨qr, dr, hr1, hr2⟩, hr3, hr4, hr5⟩ := HK9.out
      have HR9 := hidOg hr1
      have HG9 := hidOg hr2
      have HS9 := hidOg hr3
      have HB9 := hidOg hr5
      have cR := cell1_heap hr1
      obtain ⟨cS0, cS1, _⟩ := cell2_heap hr3
      have hn40 : n + 1 ≤ 40 := by omega
      clear hr1 hr2 hr3 hr4 hr5 hjx hmR hlR hwR hF hSW hFS hmS hwS hlS HK9 hR hS hn hixn hn1 hswl hsw2 HK hX0 hX40 hj hlt
      go_wp2_with (first
        | (go_at_call 15; have hh := HB9.out; refine Calls.mono (CRn _ _ _ _ HG9.out) ?_; clear cR cS0 cS1; rintro e u1 ⟨q5, d5, rfl, ho, hb⟩; have HB1 := hidOg (HB9.out.trans (hb.mono HB9.out.size)); have HR1 := hidOg (atW hb HR9.out); have HG1 := hidOg (HG9.out.to hb); have HS1 := hidOg (atW hb HS9.out); have HO1 := hidOg ho; have cR := cell1_heap HR1.out; obtain ⟨cS0, cS1, _⟩ := cell2_heap HS1.out; clear ho; clear HB9 HR9 HG9 HS9 hb hh)
        | (go_at_call 28; have hh := HB1.out; refine Calls.mono (CIX _ _ _ _ HO1.out) ?_; rintro e wZ ⟨rfl, hw⟩; rw [hw]; clear hw wZ hh)
        | (go_at_call 25; have hh := HB1.out; refine Calls.mono (CSW _ _ _ _ HG1.out) ?_; clear cR cS0 cS1; rintro e u3 ⟨qS, dS, rfl, hg, hb⟩; have hy := bal u3 (.cells #[.slice qS S.length dS] 24); have hz := (HB1.out.trans (hb.mono HB1.out.size)); have HB3 := hidOg (hz.trans (hy.mono hz.size)); have HR3 := hidOg (atW hy (atW hb HR1.out)); have HG3 := hidOg ((HG1.out.to hb).to hy); have HS3 := hidOg (atW hy (atW hb HS1.out)); have HO3 := hidOg ((HO1.out.to hb).to hy); have HT3 := hidOg (blk1 (W := u3) (o := .cells #[.slice qS S.length dS] 24)); have HK3 := hidOg ((hg).to hy); have cR := cell1_heap HR3.out; obtain ⟨cS0, cS1, _⟩ := cell2_heap HS3.out; have cT := cell1_heap HT3.out; clear hg; clear HB1 HR1 HG1 HS1 HO1 hb hh hy hz)
        | (go_at_call 11; have hh := HB3.out; refine Calls.mono (CCK _ _ _ _ HK3.out) ?_; clear cR cS0 cS1 cT; rintro e u4 ⟨rfl, hb⟩; have HB4 := hidOg (HB3.out.trans (hb.mono HB3.out.size)); have HR4 := hidOg (atW hb HR3.out); have HG4 := hidOg (HG3.out.to hb); have HS4 := hidOg (atW hb HS3.out); have HO4 := hidOg (HO3.out.to hb); have HT4 := hidOg (atW hb HT3.out); have HK4 := hidOg (HK3.out.to hb); have cR := cell1_heap HR4.out; obtain ⟨cS0, cS1, _⟩ := cell2_heap HS4.out; have cT := cell1_heap HT4.out; clear HB3 HR3 HG3 HS3 HO3 HT3 HK3 hb hh)
        | (go_at_call 29; have hh := HB4.out; refine Calls.mono (CCL _ _ _ _ HO4.out) ?_; clear cR cS0 cS1 cT; rintro e u5 ⟨Gc, cc, rfl, ⟨ho2, hGc⟩, hb0⟩; have hb := hb0.setCell (p := ⟨Gc, j0, none⟩) hGc (.int .i64 (iG X n)); obtain ⟨b9, off9, e9, _, hcs9⟩ := ho2.row.i (by rw [HN1.out]; omega); cases e9; have g0 := hcs9 j0 (by rw [HN1.out]; exact HJN.out); have g1 := hcs9 n (by rw [HN1.out]; omega); rw [Nat.zero_add] at g0 g1; have gf := ownR_fr ho2; have HB5 := hidOg (HB4.out.trans (hb.mono HB4.out.size)); have HR5 := hidOg (atW hb HR4.out); have HG5 := hidOg (HG4.out.to hb); have HS5 := hidOg (atW hb HS4.out); have HO5 := hidOg (HO4.out.to hb); have HT5 := hidOg (atW hb HT4.out); have HK5 := hidOg (HK4.out.to hb); have HQ5 := hidOg (show n + 1 ≤ cc from by have := ho2.row.r; rw [HN1.out] at this; exact this); have HV5 := hidOg (irow_set ho2 (by rw [HN1.out]; exact HJN.out) (iG X n)); have cR := cell1_heap HR5.out; obtain ⟨cS0, cS1, _⟩ := cell2_heap HS5.out; have cT := cell1_heap HT5.out; clear ho2 hb0 hcs9 hGc; clear HB4 HR4 HG4 HS4 HO4 HT4 HK4 hb hh)
        | (go_at_call 15; have hh := HB5.out; refine Calls.mono (CRS _ _ _ _ HK5.out) ?_; clear cR cS0 cS1 cT; rintro e u6 ⟨q7, d7, rfl, ho, hb⟩; have HB6 := hidOg (HB5.out.trans (hb.mono HB5.out.size)); have HR6 := hidOg (atW hb HR5.out); have HG6 := hidOg (HG5.out.to hb); have HS6 := hidOg (atW hb HS5.out); have HO6 := hidOg (HO5.out.to hb); have HT6 := hidOg (atW hb HT5.out); have HK6 := hidOg (HK5.out.to hb); have HV6 := hidOg (HV5.out.to hb); have HZ6 := hidOg ho; have cR := cell1_heap HR6.out; obtain ⟨cS0, cS1, _⟩ := cell2_heap HS6.out; have cT := cell1_heap HT6.out; clear ho; clear HB5 HR5 HG5 HS5 HO5 HT5 HK5 HV5 hb hh))
      clear CRn CRS CIX CSW CCK CCL HCD HCP HHD HHP HMR HWR HAT
      go_loopw [108] (fun i wr => ∃ r : Nat, r ≤ n ∧ i = .int .i64 r ∧ Below u6.heap.size u6 wr) (fun i _ => n - (intOf i).toNat)
      case atStart => exact ⟨0, Nat.zero_le _, rfl, Below.refl _ _⟩
      case round =>
        obtain ⟨r, hr, rfl, hb⟩ := hrel
        have HBr := hidOg hb
        have cT2 := cell1_heap (atW hb HT6.out)
        obtain ⟨cs0, cs1, _⟩ := cell2_heap (atW hb HS6.out)
        have HKr := hidOg (HK6.out.to hb)
        have hir := (HZ6.out.to hb).row.i
        have HVr := hidOg (HV6.out.to hb)
        have HZr := hidOg (HZ6.out.to hb)
        clear hb
        by_cases hlt2 : r < n
        · obtain ⟨kk, e1, e2⟩ := HFS.out r hlt2
          obtain ⟨b, off, rfl, hbN, hcs⟩ := hir (by rw [HSWL.out]; omega)
          have c0 := hcs r (by rw [HSWL.out]; exact hlt2)
          rw [e1] at c0
          have CAr := fun (W : World) (q : Option Addr) (d B : Nat) (h : GvS B W q S d) => CAT W q d B h ((kk : Int) + 1)
          rw [HGA.out kk (by rw [e2]; intro h; exact hT0 (congrArg Prod.fst h)), e2] at CAr
          dsimp only at CAr
          clear hcs hir e1 e2
          go_wp2_with (first
            | (go_at_call 14; refine Calls.mono (CAr _ _ _ _ HKr.out) ?_; rintro e w5 ⟨rfl, hb⟩; have hy := bal w5 (.cells #[.int .i64 a, .int .i64 (r : Int)] 34); have HB5' := hidOg (hb.trans (hy.mono hb.size)); obtain ⟨x0, x1, _⟩ := cell2_heap (atW hy (atW hb (atW HBr.out HS6.out))); clear hb hy))
          go_roundw
          case rel => exact ⟨r + 1, by omega, by go_num, HBr.out.trans (HB5'.out.mono HBr.out.size)⟩
          case measure => simp [intOf]; omega
        · have hge2 : ¬ ((r : Int) < (n : Int)) := by omega
          have CEQ := equal18 q7 (swX X j0) d7 (some ⟨Gc, 0, none⟩) (swX X j0) cc wr HZr.out.row.i (by rw [HSW2.out]; exact HVr.out.take n) HZr.out.n
          rw [samI_refl, HSWL.out] at CEQ
          have hcc := HQ5.out
          clear hlt2 hr hir
          go_wp2_with (first
            | (go_at_call 18; refine Calls.mono CEQ ?_; rintro e w7 ⟨rfl, hb⟩; have HB7 := hidOg hb; clear hb))
          go_ret
          exact ⟨rfl, HB6.out.trans ((HBr.out.trans (HB7.out.mono HBr.out.size)).mono HB6.out.size)⟩
theorem swaps_walk (p : Option Addr) (l : List Sp) (c : Nat) (i : Int) (w : World) (hE : SRow w.heap.size w p l) (hw : wfL l) (hl : l.length ≤ maxLen) (hc : l.length ≤ c) :
    Calls Try.prog 6 #[.agg #[.slice p l.length c], .int .i64 i] w fun e w' => e = .returned (.bool true) ∧ Below w.heap.size w w' := by
  by_cases h : mayS (l.take 40) = true ∧ fiB (l.take 40) i = true
  · obtain ⟨k, rfl, _, hk⟩ := fiB_ex h.2
    exact swaps_yes p l c k w hE hw hl hc h.1 hk
  · exact swaps_no p l c i w hE hw hl hc h
end Go.Proofs.Ytijlkdppjmfbhaa
