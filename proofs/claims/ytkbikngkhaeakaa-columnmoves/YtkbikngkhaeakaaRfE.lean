/- The document's Without, With; slices.Clone at rows of values, the law's values, slices.EqualFunc. -/
import Derived.Test.YtkbikngkhaeakaaRfD
import Derived.Test.YtkbikngkhaeakaaLwA
namespace Go.Proofs.Ytkbikngkhaeakaa
open Go.RowKit Go.Sort

theorem ownsRow_set {w : World} {base : Nat} {e : TypeId} {size g n cap : Nat} {xs : List Value} (h : w.ownsRow base e size (.slice (some ⟨g, 0, none⟩) n cap) n xs) (i : Nat) (u : Value) : (w.setCell ⟨g, i, none⟩ u).ownsRow base e size (.slice (some ⟨g, 0, none⟩) n cap) n (xs.set i u) := by
  obtain ⟨h1, h2⟩ := h
  rcases h2 with ⟨hv, _⟩ | ⟨g', cap', cur, hv, hb, hh, c1, c2, c3, c4⟩
  · cases hv
  · cases hv
    refine ⟨by simpa using h1, .inr ⟨g, cap, cur.setIfInBounds i u, rfl, hb, heap_setCell_same w g i cur e u hh, c1, c2, by simpa using c3, ?_⟩⟩
    rw [Array.toList_setIfInBounds, List.take_set, c4]

theorem RV.cells {B : Nat} {X : List RR} {q : Option Addr} {c : Nat} {W : World} (h : RV B X q c W) {k : Nat} (hk : k < X.length) : ∃ G, q = some ⟨G, 0, none⟩ ∧ B ≤ G ∧ G < W.heap.size ∧ W.cell? ⟨G, k, none⟩ = some (.slice (gR X k).1 (gR X k).2.1.length (gR X k).2.2) ∧ W.frozen? ⟨G, k, none⟩ = false := h.ro.cells hk
theorem RV.set {B G : Nat} {X : List RR} {c : Nat} {W : World} (h : RV B X (some ⟨G, 0, none⟩) c W) (k : Nat) (y : RR) (hy : OwnR 0 W y.1 y.2.1 y.2.2) : RV B (X.set k y) (some ⟨G, 0, none⟩) c (W.setCell ⟨G, k, none⟩ (.slice y.1 y.2.1.length y.2.2)) := by
  have hk : ∀ {p : Option Addr} {l : List Int} {d : Nat}, OwnR 0 W p l d → OwnR 0 (W.setCell ⟨G, k, none⟩ (.slice y.1 y.2.1.length y.2.2)) p l d := fun hx => hx.setCell (a := ⟨G, k, none⟩) (fun z hz => by
    have := owns_apart hx.o h.o (by decide)
    rw [ownBlock_slice, ownBlock_slice, hz] at this
    simpa using this) _
  refine ⟨?_, fun x hx => ?_⟩
  · have := ownsRow_set h.o k (.slice y.1 y.2.1.length y.2.2)
    rw [List.length_set, List.map_set]; exact this
  · rcases List.mem_or_eq_of_mem_set hx with hx | rfl
    · exact hk (h.t x hx)
    · exact hk hy
theorem RV.drop1 {B : Nat} {X : List RR} {q : Option Addr} {c : Nat} {W : World} (h : RV B X q c W) {G : Nat} (hq : q = some ⟨G, 0, none⟩) : RV B X.dropLast q c W := by
  refine ⟨?_, fun x hx => h.t x ((List.dropLast_sublist _).subset hx)⟩
  rcases h.o.2 with ⟨e, _⟩ | ⟨g, cap, cur, e, hb, hh, h1, h2, h3, h4⟩
  · rw [hq] at e; cases e
  · rw [hq] at e; injection e with e1 e2 e3
    cases e1; subst e3
    refine ⟨by simp, .inr ⟨G, c, cur, by rw [hq], hb, hh, by simp; omega, h2, h3, ?_⟩⟩
    have : (cur.toList.take (X.length * 1)).take (X.dropLast.length * 1) = cur.toList.take (X.dropLast.length * 1) := by
      rw [List.take_take, Nat.min_eq_left (by simp)]
    rw [← this, h4, Nat.mul_one, List.length_dropLast, List.map_dropLast, List.dropLast_eq_take, List.length_map]
theorem made35 (w : World) : RV w.heap.size [] (some ⟨w.heap.size, 0, none⟩) 0 (w.alloc (.cells #[] 38)) := ⟨World.ownsRow_made (base := w.heap.size) (e := 38) (size := 1) w #[] 0 (Nat.le_refl _) (by unfold maxLen; omega) (by simp), fun x hx => by simp at hx⟩
theorem lS_set (X : List RR) (k : Nat) (y : RR) : lS (X.set k y) = (lS X).set k y.2.1 := by simp [lS, List.map_set]
theorem gR_lS {X : List RR} {k : Nat} (h : k < X.length) : (gR X k).2.1 = (lS X)[k]'(by rw [lS_len]; exact h) := by rw [gR_eq h]; simp [lS]
set_option maxRecDepth 20000 in
set_option maxHeartbeats 1000000 in
theorem with28 (q : Option Addr) (X : List RR) (d r : Nat) (qv : Option Addr) (v : List Int) (dv : Nat) (w : World) (hV : RV 0 X q d w) (hv : OwnR 0 w qv v dv) (hr : r < X.length) (hn : X.length ≤ 1000) :
    Calls Try.prog 28 #[.slice q X.length d, .int .i64 (r : Int), .slice qv v.length dv] w fun e w' => GivesV ((lS X).set r v) w e w' := by
  obtain ⟨p1, c1, w1, hrun, ho, hg⟩ := app_all (w.alloc (.cells #[] 38)) 35 w.heap.size (some ⟨w.heap.size, 0, none⟩) [] 0 q X d (made35 w) ((hV.to (bal _ _)).row) (hV.to (bal _ _)).t (by simp; omega) (bal _ _).size
  rw [List.nil_append] at hrun ho
  have hb : Below w.heap.size w w1 := grown_bel (bal _ _) (fun a ha => by cases ha; exact Nat.le_refl _) (bal _ _).size hg
  obtain ⟨G, rfl, hG, hG2, c0, f0⟩ := ho.cells hr
  have HS := hidOg (ho.set r (qv, v, dv) (hv.to hb))
  have HB : Hid (Below w.heap.size w (w1.setCell ⟨G, r, none⟩ (.slice qv v.length dv))) := hb.setCell (p := ⟨G, r, none⟩) hG _
  have HL : Hid (lS (X.set r (qv, v, dv)) = (lS X).set r v) := lS_set _ _ _
  have HLen : Hid ((X.set r (qv, v, dv)).length = X.length) := List.length_set
  obtain ⟨n, hn'⟩ : ∃ n, n = X.length := ⟨_, rfl⟩
  rw [← hn'] at hrun hr hn HLen
  rw [← hn']
  obtain ⟨nv, hnv⟩ : ∃ nv, nv = v.length := ⟨_, rfl⟩
  rw [← hnv] at HS HB
  rw [← hnv]
  have hrun' : (Builtin.append_ #[35, 35] 35 #[.slice (some ⟨w.heap.size, 0, none⟩) 0 0, .slice q n d]).run Try.prog (w.alloc (.cells #[] 38)) = .ok (.slice (some ⟨G, 0, none⟩) n c1) w1 := hrun
  clear hV hv ho hg hb hn' hnv hrun
  go_enter Try.func28, Try.ntmps28
  go_wp2_with (first | (at_builtin; refine Lib.wpList_append_run _ rfl _ _ 35 35 rfl _ _ rfl rfl _ w1 hrun' ?_))
  go_ret
  exact ⟨_, c1, _, by rw [HLen.out]; rfl, HL.out, HS.out, HB.out⟩
set_option maxRecDepth 20000 in
set_option maxHeartbeats 1000000 in
theorem without25 (q : Option Addr) (X : List RR) (d r : Nat) (w : World) (hV : RV 0 X q d w) (hr : r < X.length) (hn : X.length ≤ 1000) :
    Calls Try.prog 25 #[.slice q X.length d, .int .i64 (r : Int)] w fun e w' => GivesV (swO (lS X) r) w e w' := by
  obtain ⟨p1, c1, w1, hrun, ho, hg⟩ := app_all (w.alloc (.cells #[] 38)) 35 w.heap.size (some ⟨w.heap.size, 0, none⟩) [] 0 q X d (made35 w) ((hV.to (bal _ _)).row) (hV.to (bal _ _)).t (by simp; omega) (bal _ _).size
  rw [List.nil_append] at hrun ho
  have hb : Below w.heap.size w w1 := grown_bel (bal _ _) (fun a ha => by cases ha; exact Nat.le_refl _) (bal _ _).size hg
  obtain ⟨G, rfl, hG, hG2, c0, f0⟩ := ho.cells hr
  obtain ⟨G', e', _, _, d0, g0⟩ := ho.cells (k := X.length - 1) (by omega)
  cases e'
  have HSS := ho.set r (gR X (X.length - 1)) ((hV.t _ (gR_mem (by omega))).to hb)
  have HL : Hid (lS (X.set r (gR X (X.length - 1))).dropLast = swO (lS X) r) := by
    unfold Hid swO
    have e1 : lS (X.set r (gR X (X.length - 1))).dropLast = (lS (X.set r (gR X (X.length - 1)))).dropLast := by unfold lS; rw [List.map_dropLast]
    rw [e1, lS_set, getLast_get (by rw [lS_len]; omega), gR_lS (by omega)]
    simp only [lS_len]
  have HLen : Hid ((X.set r (gR X (X.length - 1))).dropLast.length = X.length - 1) := by unfold Hid; simp
  obtain ⟨y, hy⟩ : ∃ y, y = gR X (X.length - 1) := ⟨_, rfl⟩
  rw [← hy] at HSS HL HLen d0
  have HS := hidOg (HSS.drop1 rfl)
  have HB : Hid (Below w.heap.size w (w1.setCell ⟨G, r, none⟩ (.slice y.1 y.2.1.length y.2.2))) := hb.setCell (p := ⟨G, r, none⟩) hG _
  have hcap := HSS.len
  rw [List.length_set] at hcap
  obtain ⟨n, hn'⟩ : ∃ n, n = X.length := ⟨_, rfl⟩
  rw [← hn'] at hrun hr hn HLen hcap d0
  rw [← hn']
  obtain ⟨L, hL⟩ : ∃ L, L = n - 1 := ⟨_, rfl⟩
  have hL1 : (n : Int) - 1 = (L : Int) := by omega
  rw [← hL] at HLen d0
  have hLc : (L : Int) ≤ (c1 : Int) := by omega
  have hL0 : (0 : Int) ≤ (L : Int) := by omega
  have hLn : (L : Int) < (n : Int) := by omega
  have hLn2 : L < n := by omega
  obtain ⟨qv, v, dv⟩ := y
  simp only at d0 HB
  obtain ⟨nv, hnv⟩ : ∃ nv, nv = v.length := ⟨_, rfl⟩
  rw [← hnv] at d0 HB HS
  have hrun' : (Builtin.append_ #[35, 35] 35 #[.slice (some ⟨w.heap.size, 0, none⟩) 0 0, .slice q n d]).run Try.prog (w.alloc (.cells #[] 38)) = .ok (.slice (some ⟨G, 0, none⟩) n c1) w1 := hrun
  clear hV ho hg hb hn' hnv hrun hL hy HSS
  go_enter Try.func25, Try.ntmps25
  go_wp2_with (first | (at_builtin; refine Lib.wpList_append_run _ rfl _ _ 35 35 rfl _ _ rfl rfl _ w1 hrun' ?_))
  go_ret
  exact ⟨_, c1, _, by rw [HLen.out]; rfl, HL.out, HS.out, HB.out⟩
set_option maxRecDepth 20000 in
theorem clone31 (q : Option Addr) (X : List RR) (d : Nat) (w : World) (hV : RV 0 X q d w) (hn : X.length ≤ 1000) :
    Calls Try.prog 31 #[.slice q X.length d] w fun e w' => ∃ q' c', e = .returned (.slice q' X.length c') ∧ RV w.heap.size X q' c' w' ∧ Below w.heap.size w w' := by
  cases q with
  | none =>
    have h0 : X = [] := by
      cases X with
      | nil => rfl
      | cons x t => obtain ⟨G, e, _⟩ := hV.cells (k := 0) (by simp); cases e
    subst h0
    clear hV hn
    have qn := fun (w : World) => Lib.run_eql_slice_nil (P := Try.prog) w 35 _ none 0 d 0 0 Try.underlying35
    go_enter Try.func31, Try.ntmps31
    go_wp2
    go_ret
    exact ⟨none, 0, rfl, RV.nil _ _, Below.refl _ _⟩
  | some a =>
    obtain ⟨p1, c1, w1, hrun, ho, hg⟩ := app_all (w.alloc (.cells #[] 38)) 35 w.heap.size (some ⟨w.heap.size, 0, none⟩) [] 0 (some a) X d (made35 w) ((hV.to (bal _ _)).row) (hV.to (bal _ _)).t (by simp; omega) (bal _ _).size
    rw [List.nil_append] at hrun ho
    have HB := hidOg (show Below w.heap.size w w1 from grown_bel (bal _ _) (fun a ha => by cases ha; exact Nat.le_refl _) (bal _ _).size hg)
    have HO := hidOg ho
    have qn := fun (w : World) => Lib.run_eql_slice_nil (P := Try.prog) w 35 _ (some a) X.length d 0 0 Try.underlying35
    obtain ⟨n, hn'⟩ : ∃ n, n = X.length := ⟨_, rfl⟩
    have HN := hidOg hn'
    have hrun' : (Builtin.append_ #[35, 35] 35 #[.slice (some ⟨w.heap.size, 0, none⟩) 0 0, .slice (some a) n d]).run Try.prog (w.alloc (.cells #[] 38)) = .ok (.slice p1 n c1) w1 := by rw [hn']; exact hrun
    rw [← hn'] at qn hn ⊢
    clear hV ho hg hn' hrun
    go_enter Try.func31, Try.ntmps31
    go_wp2_with (first | (at_builtin; refine Lib.wpList_append_run _ rfl _ _ 35 35 rfl _ _ rfl rfl _ w1 hrun' ?_))
    go_ret
    exact ⟨p1, c1, rfl, HO.out, HB.out⟩
end Go.Proofs.Ytkbikngkhaeakaa
