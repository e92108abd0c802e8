/- Rows of a column. -/
import Derived.Test.YtkbikngkhaeakaaCoL
import Derived.Test.YtkbikngkhaeakaaCoC
namespace Go.Proofs.Ytkbikngkhaeakaa
open Go.RowKit Go.Shelf
attribute [local go_sem] Oper.semAt_some
attribute [local go_sem ↓] app_hide

theorem below_dr (n : Nat) (W : World) : Below n W W.drew := (Below.refl _ _).drew
theorem chK_wdK (W R : Nat) (l : List Int) : chK W R l = (List.range R).map fun (k : Nat) => wdK l (W : Int) (k : Int) ((k : Int) + 1) := by
  unfold chK
  apply List.map_congr_left
  intro k _
  rw [wdK_row]
theorem rows20_no (wd rs : Int) (p : Option Addr) (l : List Int) (c : Nat) (w : World) (hl : l.length ≤ maxLen) (hm : mayB wd rs l.length = false) :
    Calls Try.prog 20 #[.agg #[.int .i64 wd, .int .i64 rs, .slice p l.length c]] w fun e w' => GivesV [] w e w' := by
  obtain ⟨h1, h2⟩ := al2 w (.cells #[.int .i64 wd, .int .i64 rs, .slice p l.length c] 24) (.cells #[.int .i64 wd, .int .i64 rs, .slice p l.length c] 24)
  have KE : Hid (Be w.heap.size w ((w.alloc (.cells #[.int .i64 wd, .int .i64 rs, .slice p l.length c] 24)).alloc (.cells #[.int .i64 wd, .int .i64 rs, .slice p l.length c] 24))) := ((Be.refl (Nat.le_refl _)).al _).al _
  have CM := mayBe1 (w.heap.size + 1) (wd, rs, p, l, c) _ h2 hl
  have e0 : mC (wd, rs, p, l, c) = mayB wd rs l.length := rfl
  rw [e0, hm] at CM
  clear hm h1 h2 hl e0
  go_enter Try.func20, Try.ntmps20
  go_wp2_with (first | (go_at_call 34; refine Calls.mono CM ?_; rintro e w1 ⟨rfl, hb⟩))
  go_ret
  exact ⟨none, 0, [], rfl, rfl, RV.nil _ _, (KE.out.to hb).b⟩
/-- What Rows keeps in memory. -/
structure RoI (B Bo : Nat) (cb : Array Value) (W : Nat) (l : List Int) (pre : List Nat) (X : World) : Prop where
  v : ∃ q c V, Boxed X Bo 35 (.slice q (List.length V) c) ∧ lS V = pre.map (fun (k : Nat) => wdK l (W : Int) (k : Int) ((k : Int) + 1)) ∧ RV B V q c X
  k : X.heap[Bo + 1]? = some (.cells cb 24 (0, 0))
theorem RoI.kc {B Bo : Nat} {cb : Array Value} {W : Nat} {l : List Int} {pre : List Nat} {X X' : World} (h : RoI B Bo cb W l pre X) (k : Kc X X') : RoI B Bo cb W l pre X' := by
  obtain ⟨q, c, V, h1, h2, h3⟩ := h.v
  exact ⟨⟨q, c, V, k.same _ _ h1 rfl, h2, k.rv h3⟩, k.same _ _ h.k rfl⟩
structure RoA (B Bo Bl W R : Nat) (p : Option Addr) (n0 c : Nat) (l : List Int) (S S1 : Nat) (pre : List Nat) (x : Nat) (a' : Act) (X : World) : Prop where
  a : a' = { tmps := #[.agg #[.int .i64 (W : Int), .int .i64 (R : Int), .slice p n0 c], .pointer (some ⟨S, 0, none⟩), .slice none 0 0, .pointer (some ⟨Bo, 0, none⟩), .slice (cpK p (W : Int) (x : Int) ((x : Int) + 1)) (cnK (W : Int) (x : Int) ((x : Int) + 1)) (cnK (W : Int) (x : Int) ((x : Int) + 1)), .agg #[.int .i64 (W : Int), .int .i64 (R : Int), .slice p n0 c], .slice (some ⟨S + 1, 0, none⟩) 1 1, .bool true, .bool false, .pointer (some ⟨S, 1, none⟩), .int .i64 (R : Int), .slice (some ⟨S1, 0, none⟩) 0 R, .agg #[.int .i64 (W : Int), .int .i64 (R : Int), .slice p n0 c], .func (.func 58) #[] #[.pointer (some ⟨Bl, 0, none⟩)], .slice (cpK p (W : Int) (x : Int) ((x : Int) + 1)) (cnK (W : Int) (x : Int) ((x : Int) + 1)) (cnK (W : Int) (x : Int) ((x : Int) + 1)), undef, undef, undef, undef, undef, undef], defers := [] }
  m : RoI B Bo #[.int .i64 (W : Int), .int .i64 (R : Int), .slice p n0 c] W l pre X
  x : x = pre.length
  r : pre.length < R
theorem RoA.kc {B Bo Bl W R : Nat} {p : Option Addr} {n0 c : Nat} {l : List Int} {S S1 : Nat} {pre : List Nat} {x : Nat} {a' : Act} {X X' : World} (h : RoA B Bo Bl W R p n0 c l S S1 pre x a' X) (k : Kc X X') : RoA B Bo Bl W R p n0 c l S S1 pre x a' X' := ⟨h.a, h.m.kc k, h.x, h.r⟩
set_option maxRecDepth 100000 in
set_option maxHeartbeats 4000000 in
theorem rows20_yes (W R : Nat) (p : Option Addr) (l : List Int) (c : Nat) (w : World) (hC : CV w W R p l c) (hR : R ≤ 1000) :
    Calls Try.prog 20 #[.agg #[.int .i64 (W : Int), .int .i64 (R : Int), .slice p l.length c]] w fun e w' => GivesV (chK W R l) w e w' := by
  refine (callsIn_wide (n := 4)).1 ?_
  refine callsIn_of_wp_marks Try.func20 rfl trivial ?_ rfl
  simp only [Try.ntmps20, List.size_toArray, List.length_cons, List.length_nil, Nat.reduceAdd, Nat.reduceSub, Array.replicate_succ, Array.replicate_zero, List.push_toArray, List.append_toArray, List.nil_append, List.cons_append]
  have h34 : Fence.wide.fn 34 := trivial
  have h37 : Fence.wide.fn 37 := trivial
  have h38 : Fence.wide.fn 38 := trivial
  obtain ⟨h1, h2⟩ := al2 w (.cells #[.int .i64 (W : Int), .int .i64 (R : Int), .slice p l.length c] 24) (.cells #[.int .i64 (W : Int), .int .i64 (R : Int), .slice p l.length c] 24)
  have KE : Hid (Be w.heap.size w ((w.alloc (.cells #[.int .i64 (W : Int), .int .i64 (R : Int), .slice p l.length c] 24)).alloc (.cells #[.int .i64 (W : Int), .int .i64 (R : Int), .slice p l.length c] 24))) := ((Be.refl (Nat.le_refl _)).al _).al _
  have hlm : l.length ≤ maxLen := by have := hC.len; unfold maxLen; omega
  have CM := mayBe1 (w.heap.size + 1) ((W : Int), (R : Int), p, l, c) _ h2 hlm
  have e0 : mC ((W : Int), (R : Int), p, l, c) = true := mayB_of (wd := (W : Int)) (rs := (R : Int)) ⟨by omega, by have := hC.w4; omega, by omega, by have := hC.rm; omega, by rw [hC.n]; push_cast; rfl⟩
  rw [e0] at CM
  obtain ⟨i0, hi0, hz0, hz1, hz2⟩ := info_parts Try.info38
  have hmk := fun (X : World) => run_make (P := Try.prog) X 35 38 i0 (.slice none 0 0) Try.underlying35 hi0 hz0 .i64 .i64 0 (R : Int) (by omega) (by omega) (by rw [hz2]; omega) (by omega)
  have HC := hidOg hC
  have H1 := hidOg h1
  obtain ⟨n0, hn0⟩ : ∃ n0, n0 = l.length := ⟨_, rfl⟩
  have HN0 := hidOg hn0
  rw [← hn0] at CM KE H1 ⊢
  clear hC h1 h2 hlm e0 hn0
  gi_wp2_with (first | (gi_at_call 34; refine (callsIn_wide.2 CM).mono ?_; rintro e w1 ⟨rfl, hb⟩; obtain ⟨x0, x1, x2, _⟩ := heap3_cell ((hb.block w.heap.size (by simp; omega)).trans H1.out); have HB1 : Hid (Be w.heap.size w w1) := KE.out.to hb; have hs1 : w.heap.size < w1.heap.size := Nat.lt_of_lt_of_le (by simp; omega) hb.size; clear hb) | (gi_at_call 37; refine (callsIn_wide.2 (rows37 _ _ _ _ _ _)).mono ?_; rintro e w2 ⟨rfl, hw⟩; rw [hw]; clear hw w2))
  obtain ⟨w5, hw5⟩ : ∃ w5, w5 = (((w1.alloc (.cells (madeCells #[.slice none 0 0] R) 38)).alloc (.cells #[.slice (some ⟨w1.heap.size, 0, none⟩) 0 R] 35)).alloc (.cells #[.int .i64 (W : Int), .int .i64 (R : Int), .slice p n0 c] 24)) := ⟨_, rfl⟩
  obtain ⟨k1, k2, k3⟩ := al3 w1 (.cells (madeCells #[.slice none 0 0] R) 38) (.cells #[.slice (some ⟨w1.heap.size, 0, none⟩) 0 R] 35) (.cells #[.int .i64 (W : Int), .int .i64 (R : Int), .slice p n0 c] 24)
  rw [← hw5] at k1 k2 k3 ⊢
  have s5 : w5.heap.size = w1.heap.size + 3 := by rw [hw5]; simp
  have B5 : Be w.heap.size w w5 := by rw [hw5]; exact ((HB1.out.al _).al _).al _
  have HV0 : RV w.heap.size [] (some ⟨w1.heap.size, 0, none⟩) R w5 := ⟨⟨by simp, .inr ⟨w1.heap.size, R, _, rfl, HB1.out.s, k1, by simp, by unfold maxLen; omega, by simp [madeCells], by simp⟩⟩, fun x hx => by simp at hx⟩
  have HI0 : RoI w.heap.size (w1.heap.size + 1) #[.int .i64 (W : Int), .int .i64 (R : Int), .slice p n0 c] W l [] w5 := ⟨⟨_, _, [], k2, rfl, HV0⟩, k3⟩
  have hk3 := hidOg k3
  have hseq : SeqV Fence.wide 3 Try.prog 58 #[.pointer (some ⟨w1.heap.size + 1 + 1, 0, none⟩)] (encK p W) (Ke w.heap.size (w1.heap.size + 1 + 1)) (fun pre x _ => x = pre.length ∧ pre.length < R) (fun xs => xs = List.range R) w5 := fun yl J W' hW hJ hY hj =>
    rows58 3 (by omega) yl (w1.heap.size + 1 + 1) w.heap.size W R p l c w W' HC.out J (fun pre W1 hj hlt => hY pre pre.length W1 hj ⟨rfl, hlt⟩) hJ (Nat.le_trans B5.s hW.size) (by rw [← HN0.out]; exact (hW.block (w1.heap.size + 1 + 1) (by omega)).trans hk3.out) hj
  have HB5 := hidOg B5
  have hss := HB1.out.s
  clear hw5 k1 k2 k3 HV0 hmk hi0 hz0 hz1 hz2 x0 x1 x2 B5
  refine wpIn_rangeV rfl (by omega) (gf := 58) (lb := #[.pointer (some ⟨w1.heap.size + 1 + 1, 0, none⟩)]) rfl trivial (enters_of Try.func58 (by kernel_rfl) rfl)
    hseq (fun h k => h.trans k) (ke_b (by omega) (by omega)) (Below.refl _ _) (fun _ => rfl)
    (fun pre X => RoI w.heap.size (w1.heap.size + 1) #[.int .i64 (W : Int), .int .i64 (R : Int), .slice p n0 c] W l pre X ∧ Below w.heap.size w X)
    (OwnFrom.and (own_kc fun _ _ _ k h => h.kc k) (ownFrom_below (Nat.le_refl _) (by omega))) ⟨HI0, HB5.out.b⟩
    (fun pre x a' X => RoA w.heap.size (w1.heap.size + 1) (w1.heap.size + 1 + 1) W R p n0 c l w.heap.size w1.heap.size pre x a' X ∧ Below w.heap.size w X)
    (fun pre x a' => OwnFrom.and (own_kc fun _ _ _ k h => h.kc k) (ownFrom_below (Nat.le_refl _) (by omega))) ?assign ?body ?done
  case assign =>
    rintro yl pre x X K ⟨hM, hB⟩ ⟨hx, hxr⟩ hK
    have fin := hK _ X ((KeepsOthers.refl X).from _) (Ke.refl _ _ _) ⟨⟨rfl, hM, hx, hxr⟩, hB⟩
    clear hK hM hB hseq hx hxr
    gi_wp2
    exact fin
  case body =>
    rintro yl pre x a' X ⟨⟨rfl, hM, hx, hxr⟩, hBX⟩
    subst hx
    obtain ⟨q, cq, V, hv, hlS, hrow⟩ := hM.v
    have hVl : V.length = pre.length := by rw [← lS_len, hlS, List.length_map]
    have hxs := hBX.size
    have O1 : OkCut (W : Int) l.length (pre.length : Int) ((pre.length : Int) + 1) := by
      have := HC.out.ok (f := pre.length) (e := pre.length + 1) (by omega) (by omega)
      push_cast at this; exact this
    have hl1 := wdK_len O1
    have hlen := HC.out.len
    have CJ : Hid (∀ Y, Below X.heap.size X Y → Calls Try.prog 38 #[.slice (cpK p (W : Int) (pre.length : Int) ((pre.length : Int) + 1)) (cnK (W : Int) (pre.length : Int) ((pre.length : Int) + 1)) (cnK (W : Int) (pre.length : Int) ((pre.length : Int) + 1)), .slice none 0 0] Y fun e w' => GivesR (wdK l (W : Int) (pre.length : Int) ((pre.length : Int) + 1)) Y e w') := fun Y hY => by
      have h1 := joined38 (cpK p (W : Int) (pre.length : Int) ((pre.length : Int) + 1)) (wdK l (W : Int) (pre.length : Int) ((pre.length : Int) + 1)) (cnK (W : Int) (pre.length : Int) ((pre.length : Int) + 1)) none [] 0 Y (((HC.out.to (hBX.trans (hY.mono hxs))).r.i.cutK _ _ _)) VRow.nil (by simp) (by
        simp only [catF, catN, List.append_nil, List.length_nil]
        unfold wdK; simp; omega)
      rw [hl1] at h1
      simpa only [catF, catN, List.append_nil, List.length_nil] using h1
    have HL2 : Hid (∀ (q' : Option Addr) (c' : Nat), lS (V ++ [(q', wdK l (W : Int) (pre.length : Int) ((pre.length : Int) + 1), c')]) = (pre ++ [pre.length]).map (fun (k : Nat) => wdK l (W : Int) (k : Int) ((k : Int) + 1))) := fun q' c' => by
      have : lS (V ++ [(q', wdK l (W : Int) (pre.length : Int) ((pre.length : Int) + 1), c')]) = lS V ++ [wdK l (W : Int) (pre.length : Int) ((pre.length : Int) + 1)] := by simp [lS]
      rw [this, hlS, List.map_append]; rfl
    obtain ⟨m, hm⟩ : ∃ m, m = wdK l (W : Int) (pre.length : Int) ((pre.length : Int) + 1) := ⟨_, rfl⟩
    rw [← hm] at CJ HL2
    obtain ⟨nV, hnV⟩ : ∃ nV, nV = V.length := ⟨_, rfl⟩
    have KEY : Hid (∀ (q' : Option Addr) (c' : Nat) (w2 : World), OwnR X.heap.size w2 q' m c' → Below X.heap.size X w2 → ∃ g2 c2 w3, (appS #[35, 35] 35 #[.slice q nV cq, .slice (some ⟨w2.heap.size, 0, none⟩) 1 1]).run Try.prog (w2.alloc (.cells #[.slice q' m.length c'] 38)) = .ok (.slice g2 (nV + 1) c2) w3 ∧ w3.cell? ⟨w1.heap.size + 1, 0, none⟩ = some (.slice q nV cq) ∧ w3.frozen? ⟨w1.heap.size + 1, 0, none⟩ = false ∧ Hid (KeepsFrom w5.heap.size X (w3.setCell ⟨w1.heap.size + 1, 0, none⟩ (.slice g2 (nV + 1) c2)) ∧ Ke w.heap.size (w1.heap.size + 1 + 1) X (w3.setCell ⟨w1.heap.size + 1, 0, none⟩ (.slice g2 (nV + 1) c2)) ∧ RoI w.heap.size (w1.heap.size + 1) #[.int .i64 (W : Int), .int .i64 (R : Int), .slice p n0 c] W l (pre ++ [pre.length]) (w3.setCell ⟨w1.heap.size + 1, 0, none⟩ (.slice g2 (nV + 1) c2)) ∧ Below w.heap.size w (w3.setCell ⟨w1.heap.size + 1, 0, none⟩ (.slice g2 (nV + 1) c2)))) := fun q' c' w2 ho hb => by
      have hV2 : RV w.heap.size V q cq w2 := hrow.to hb
      have hv2 : Boxed w2 (w1.heap.size + 1) 35 (.slice q V.length cq) := (hb.block _ (Array.getElem?_eq_some_iff.1 hv).1).trans hv
      have hs2 : w.heap.size ≤ w2.heap.size := Nat.le_trans hxs hb.size
      obtain ⟨g2, c2, w3, hrun, ho2, hg2⟩ := app_rv (w2.alloc (.cells #[.slice q' m.length c'] 38)) 35 w.heap.size q V cq [(q', m, c')] ⟨w2.heap.size, 0, none⟩ 1 (hV2.to (bal _ _)) (cell_new1 w2 _ 38) (fun x hx => by rw [List.mem_singleton.1 hx]; exact (ho.weak (Nat.zero_le _)).to (bal _ _)) (by simp; omega) (Nat.le_trans hs2 (bal w2 _).size)
      rw [List.length_append, ← hnV, app_hide] at hrun
      obtain ⟨v1, v2, v3, v4, v5⟩ := hv2.appended (tmp := .cells #[.slice q' m.length c'] 38) (by decide) hV2.o hs2 (by omega) ho2.o (by rw [ownBlock_slice]; exact hg2)
      rw [List.length_append] at v2 v3 v4 v5
      have e1 : V.length + [(q', m, c')].length = nV + 1 := by rw [hnV]; rfl
      rw [e1] at v2 v3 v4 v5
      have hc1 := v1.cell
      have hf1 := v1.frozen
      rw [← hnV] at hc1
      have hkl := (Array.getElem?_eq_some_iff.1 hM.k).1
      have hk2 : w2.heap[w1.heap.size + 1 + 1]? = _ := (hb.block _ hkl).trans hM.k
      have hkl2 := (Array.getElem?_eq_some_iff.1 hk2).1
      have hk3' : w3.heap[w1.heap.size + 1 + 1]? = _ := (hg2.block (w1.heap.size + 1 + 1) (by simp; omega) (fun e => by
        rcases hV2.o.2 with ⟨e', _⟩ | ⟨g, cap, cur, e', _, hh, _⟩
        · injection e' with e1; rw [e1] at e; cases e
        · injection e' with e1; rw [e1] at e; have e2 : g = w1.heap.size + 1 + 1 := by simpa using e.symm
          rw [e2, hk2] at hh; cases hh)).trans ((Below.heap_alloc _ _ _ hkl2).trans hk2)
      have hk4 : (w3.setCell ⟨w1.heap.size + 1, 0, none⟩ (.slice g2 (nV + 1) c2)).heap[w1.heap.size + 1 + 1]? = _ := (heap_setCell_other _ _ _ _ (by simp)).trans hk3'
      refine ⟨g2, c2, w3, hrun, hc1, hf1, ((KeepsOthers.of_grownBy (grown_of_below hb) (fun j o e => by cases e)).trans v4).from _, ⟨(hb.mono hxs).trans v5, hk4.trans hM.k.symm⟩, ⟨⟨g2, c2, V ++ [(q', m, c')], by rw [List.length_append, e1]; exact v2, HL2.out q' c', by rw [List.length_append, e1]; exact v3, fun x hx => ?_⟩, hk4⟩, hBX.trans ((hb.mono hxs).trans v5)⟩
      have hx' := ho2.t x hx
      exact ⟨hx'.o.kept (grownBy_setCell' w3 (w1.heap.size + 1) _) (.inr (v1.not_row (by decide) hx'.o).symm), hx'.n⟩
    have hcell := hv.cell
    rw [← hnV] at hcell
    have hblt : w1.heap.size + 1 < X.heap.size := (Array.getElem?_eq_some_iff.1 hv).1
    have hcd : ∀ Y, Below X.heap.size X Y → Y.cell? ⟨w1.heap.size + 1, 0, none⟩ = some (.slice q nV cq) := fun Y hY => (hY.cell (p := ⟨w1.heap.size + 1, 0, none⟩) hblt).trans hcell
    have HCD := hidOg hcd
    clear hM hv hlS hrow hVl hl1 hlen O1 hm hnV hseq hcd HL2
    gi_wp2
    gi_region_with (first | (gi_at_call 38; refine (CallsIn.inRound yl (callsIn_wide.2 (CJ.out _ (below_dr _ _)))).mono ?_; rintro e w2 ⟨q', c', rfl, ho, hb⟩; have hcw := HCD.out w2 ((below_dr _ _).trans hb); have hcx := HCD.out (w2.alloc (.cells #[.slice q' m.length c'] 38)) (((below_dr _ _).trans hb).trans ((bal w2 _).mono hb.size)); obtain ⟨g2, c2, w3, hrun, hc3, hf3, HF⟩ := KEY.out q' c' w2 ho ((below_dr _ _).trans hb); clear ho hb))
    all_goals
      gi_wp2
      obtain ⟨f1, f2, f3, f4⟩ := HF.out
      exact ⟨f1, f2, f3, f4⟩
  case done =>
    rintro D xs X hD hS ⟨hM, hBX⟩ hK
    subst hS
    obtain ⟨q, cq, V, hv, hlS, hrow⟩ := hM.v
    have hc := hv.cell
    have HRW := hidOg hrow
    have HLS : Hid (lS V = chK W R l) := by unfold Hid; rw [hlS, chK_wdK]
    clear hlS hM hseq hrow
    gi_wp2
    refine ⟨by simp, .inl ⟨_, _, rfl, run_takeDeferred hK, ?_⟩⟩
    have k := kc_put (o' := .deferred none) hK rfl
    exact ⟨_, results_tmp rfl _ _ _, q, cq, V, rfl, HLS.out, k.rv HRW.out, hBX.trans (belowK_b (w := w) (Nat.le_refl _) X D _ _ (by omega) hK rfl rfl)⟩
end Go.Proofs.Ytkbikngkhaeakaa
