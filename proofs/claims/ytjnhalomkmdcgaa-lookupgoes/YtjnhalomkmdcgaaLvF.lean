/- slices.Clone at entries, the law's own 'clone', says. -/
import Derived.Test.YtjnhalomkmdcgaaLvC
import Derived.Test.YtjnhalomkmdcgaaLvE
import Derived.Test.YtjnhalomkmdcgaaLwT
namespace Go.Proofs.Ytjnhalomkmdcgaa
open Go.RowKit

set_option maxRecDepth 20000 in
theorem clone41 (p : Option Addr) (L : List En) (c : Nat) (w : World) (hE : ERow w.heap.size w p L) (hn : L.length ≤ 1000) :
    Calls Try.prog 41 #[.slice p L.length c] w fun e w' => ∃ q' c' X, X.map eOf = L ∧ e = .returned (.slice q' L.length c') ∧ w'.ownsRow w.heap.size 39 3 (.slice q' L.length c') L.length (cellsE X) ∧ (∀ x ∈ X, TRow w.heap.size w' x.2.1.1 x.2.1.2.1 x.2.1.2.2) ∧ Below w.heap.size w w' := by
  cases p with
  | none =>
    have h0 : L = [] := by
      cases L with
      | nil => rfl
      | cons x t => obtain ⟨b, off, h, _⟩ := hE (by simp); cases h
    subst h0
    clear hE hn
    have qn := fun (w : World) => Lib.run_eql_slice_nil (P := Try.prog) w 22 _ none 0 c 0 0 Try.underlying22
    go_enter Try.func41, Try.ntmps41
    go_wp2
    go_ret
    exact ⟨none, 0, [], rfl, rfl, World.ownsRow_nil _ _ _ _, fun x hx => by simp at hx, Below.refl _ _⟩
  | some a =>
    obtain ⟨X, hX, hXt, hXc⟩ := hE.places
    have lX : L.length = X.length := by rw [← hX, List.length_map]
    obtain ⟨i0, hi, hz0, hz1, hz2⟩ := info_parts Try.info39
    have ho := World.ownsRow_made (base := w.heap.size) (e := 39) (size := 3) w #[] 0 (Nat.le_refl _) (by unfold maxLen; omega) (by simp)
    have qn := fun (w : World) => Lib.run_eql_slice_nil (P := Try.prog) w 22 _ (some a) L.length c 0 0 Try.underlying22
    have hsrc : ∀ (o : Obj) j u, (cellsE X)[j]? = some u → (w.alloc o).cell? (a.add j) = some u := by
      intro o j u hj
      have hlt : j < X.length * 3 := by have := (List.getElem?_eq_some_iff.1 hj).1; rw [cellsE_len] at this; exact this
      obtain ⟨b, off, e, hN, hc⟩ := hXc (by omega)
      cases e
      refine cellsE_src (fun k hk => ?_) j u hj
      have hb := (Below.refl w.heap.size w).alloc (Nat.le_refl _) o
      obtain ⟨k0, k1, k2⟩ := hc k hk
      exact ⟨(hb.cell (p := ⟨b, off + k * 3, none⟩) hN).trans k0, (hb.cell (p := ⟨b, off + k * 3 + 1, none⟩) hN).trans k1, (hb.cell (p := ⟨b, off + k * 3 + 2, none⟩) hN).trans k2⟩
    have hlen : (cellsE X).length = L.length * 3 := by rw [cellsE_len, lX]
    have hone := cellsE_one X
    have HX := hidOg hX
    have HXT := hidOg hXt
    obtain ⟨n, hn'⟩ : ∃ n, n = L.length := ⟨_, rfl⟩
    have HE : Hid (n = X.length) := hn'.trans lX
    rw [← hn'] at hlen qn hn ⊢
    clear hE hn' hX hXt hXc lX
    go_enter Try.func41, Try.ntmps41
    go_wp2_with (first | (at_builtin; refine wpList_append_own _ rfl _ _ 22 rfl w.heap.size 39 i0 (.agg #[.int .i64 0, .slice none 0 0, .int .i64 0]) 3 40 Try.underlying22 hi hz0 hz1 hz2 rfl (by decide) _ _ _ rfl ho a n c (cellsE X) rfl hlen (hsrc _) hone (by unfold maxLen; omega) (by omega) (by simp) ?_; intro v' w1 hown hgrow _))
    go_ret
    have hb : Below w.heap.size w w1 := ((Below.refl _ w).alloc (Nat.le_refl _) _).grown hgrow (by simp) (fun k hk => by have h' : w.heap.size = k := Option.some.inj hk; omega)
    rw [Nat.zero_add] at hown
    rcases owns_len hown with ⟨rfl, h0⟩ | ⟨g, c', rfl, hg⟩
    · subst h0
      exact ⟨none, 0, X, HX.out, rfl, by simpa using hown, fun x hx => (HXT.out x hx).below hb (Nat.le_refl _), hb⟩
    · exact ⟨_, c', X, HX.out, rfl, by simpa using hown, fun x hx => (HXT.out x hx).below hb (Nat.le_refl _), hb⟩
/-- A row of ids stays, where a box that holds a slice is written. -/
theorem TRow.box {N : Nat} {w : World} {p : Option Addr} {l : List Int} {c : Nat} (h : TRow N w p l c) {B t n m : Nat} {a : Option Addr} (hx : Boxed w B t (.slice a n m)) (u : Value) : TRow N (w.setCell ⟨B, 0, none⟩ u) p l c := by
  refine ⟨fun h0 => ?_, h.r, h.u⟩
  obtain ⟨b, off, e, hN, hc⟩ := h.i h0
  refine ⟨b, off, e, hN, fun k hk => ?_⟩
  have hne : b ≠ B := fun e => by
    have h1 := hc k hk
    subst e
    have h2 : w.heap[b]? = some (.cells #[.slice a n m] t (0, 0)) := hx
    simp only [World.cell?, h2] at h1
    simp at h1
    have h3 := (List.getElem?_eq_some_iff.1 h1)
    obtain ⟨h4, h5⟩ := h3
    have h6 : off + k = 0 := by simpa using h4
    simp [h6] at h5
  rw [← hc k hk]
  exact cell_heap (heap_setCell_other w ⟨B, 0, none⟩ b u hne) (off + k)
/-- The row of slots that clone writes to. -/
structure ClM (B m : Nat) (q : Option Addr) (c : Nat) (Y : List Ep) (W : World) : Prop where
  o : W.ownsRow B 39 3 (.slice q m c) m (cellsE Y)
  n : Y.length = m
  t : ∀ y ∈ Y, TRow W.heap.size W y.2.1.1 y.2.1.2.1 y.2.1.2.2 ∧ ∀ G, q = some ⟨G, 0, none⟩ → TG G W y.2.1.1 y.2.1.2.1 y.2.1.2.2
theorem ClM.below {B m : Nat} {q : Option Addr} {c : Nat} {Y : List Ep} {W W' : World} (h : ClM B m q c Y W) (hb : Below W.heap.size W W') : ClM B m q c Y W' :=
  ⟨owns_below h.o hb, h.n, fun y hy => ⟨((h.t y hy).1.below hb (Nat.le_refl _)).mono hb.size, fun G hG => ((h.t y hy).2 G hG).below hb⟩⟩
theorem ClM.row {B m : Nat} {q : Option Addr} {c : Nat} {Y : List Ep} {W : World} (h : ClM B m q c Y W) : ERow W.heap.size W q (Y.map eOf) := by
  obtain ⟨p', c', e, hr, _⟩ := erow_owns (N := W.heap.size) (by rw [h.n]; exact h.o) (fun x hx => (h.t x hx).1) (Nat.le_refl _)
  cases e
  exact hr
theorem ClM.cells {B m k : Nat} {q : Option Addr} {c : Nat} {Y : List Ep} {W : World} (h : ClM B m q c Y W) (hk : k < m) : ∃ G, q = some ⟨G, 0, none⟩ ∧ B ≤ G ∧ G < W.heap.size ∧ W.cell? ⟨G, k * 3, none⟩ = some (.int .i64 (gP Y k).1) ∧ W.cell? ⟨G, k * 3 + 1, none⟩ = some (.slice (gP Y k).2.1.1 (gP Y k).2.1.2.1.length (gP Y k).2.1.2.2) ∧ W.cell? ⟨G, k * 3 + 2, none⟩ = some (.int .i64 (gP Y k).2.2) ∧ (∀ o, W.frozen? ⟨G, o, none⟩ = false) := by
  rcases owns_len h.o with ⟨_, h0⟩ | ⟨G, c', hv, hB⟩
  · omega
  · cases hv
    have ho := h.o
    have hc := h.o.cells (g := G) rfl
    obtain ⟨d0, d1, d2⟩ := cellsE_at Y k (by rw [h.n]; exact hk)
    have e0 := hc _ _ d0
    have e1 := hc _ _ d1
    have e2 := hc _ _ d2
    rw [addr_add, Nat.zero_add] at e0 e1 e2
    exact ⟨G, rfl, hB, (h.o.lt G rfl).2, e0, e1, e2, fun o => own_frozen h.o o⟩
/-- A slot's type is written over. -/
theorem ClM.put {B m c G k : Nat} {Y : List Ep} {W : World} (h : ClM B m (some ⟨G, 0, none⟩) c Y W) (r : Option Addr × List Int × Nat) (hr : TG G W r.1 r.2.1 r.2.2) :
    ClM B m (some ⟨G, 0, none⟩) c (Y.set k ((gP Y k).1, r, (gP Y k).2.2)) (W.setCell ⟨G, k * 3 + 1, none⟩ (.slice r.1 r.2.1.length r.2.2)) := by
  refine ⟨own_putT h.o k r, by rw [List.length_set]; exact h.n, fun y hy => ?_⟩
  rcases List.mem_or_eq_of_mem_set hy with hy | rfl
  · have h1 := ((h.t y hy).2 G rfl).setCell (k * 3 + 1) (.slice r.1 r.2.1.length r.2.2)
    exact ⟨h1.t, fun G' hG => by cases hG; exact h1⟩
  · have h1 := hr.setCell (k * 3 + 1) (.slice r.1 r.2.1.length r.2.2)
    exact ⟨h1.t, fun G' hG => by cases hG; exact h1⟩
set_option maxRecDepth 20000 in
set_option maxHeartbeats 4000000 in
theorem clone18 (p : Option Addr) (L : List En) (c : Nat) (w : World) (hE : ERow w.heap.size w p L) (hn : L.length ≤ 1000) (hB : LB L) :
    Calls Try.prog 18 #[.agg #[.slice p L.length c]] w fun e w' => ∃ p' c', e = .returned (.agg #[.slice p' L.length c']) ∧ ERow w'.heap.size w' p' L ∧ Below w.heap.size w w' := by
  obtain ⟨wA, hwA⟩ : ∃ wA, wA = (w.alloc (.cells #[.slice p L.length c] 24)).alloc (.cells #[.slice none 0 0] 24) := ⟨_, rfl⟩
  have bA : Below w.heap.size w wA := by rw [hwA]; exact ((Below.refl _ _).alloc (Nat.le_refl _) _).alloc (by simp) _
  have sA : wA.heap.size = w.heap.size + 2 := by rw [hwA]; simp
  have x1 : Boxed wA (w.heap.size + 1) 24 (.slice none 0 0) := by
    have := Boxed.new (w.alloc (.cells #[.slice p L.length c] 24)) 24 (.slice none 0 0); rw [World.size_alloc] at this; rw [hwA]; exact this
  have CC := clone41 p L c wA (hE.to bA) hn
  have HLB := hidOg hB
  have HX1 := hidOg x1
  have HBA := hidOg bA
  obtain ⟨m, hm⟩ : ∃ m, m = L.length := ⟨_, rfl⟩
  have HM := hidOg hm
  rw [← hm] at CC hn hwA ⊢
  clear hE hB x1 bA hm
  go_enter Try.func18, Try.ntmps18
  go_wp2_with (first | (go_at_call 41; rw [← hwA]; refine Calls.mono CC ?_; clear CC; rintro e w2 ⟨q, d, X, hX, rfl, ho, ht, hb2⟩))
  have hs2 := hb2.size
  have HXl : Hid (X.length = m) := by unfold Hid; rw [HM.out, ← hX, List.length_map]
  have HC0 : Hid (ClM (w.heap.size + 2) m q d X (w2.alloc (.cells #[.slice q m d] 24))) := by
    have h0 : ClM (w.heap.size + 2) m q d X w2 := ⟨by rw [← sA]; exact ho, HXl.out, fun y hy => ⟨(ht y hy).mono hb2.size, fun G hG => by
      have h1 := (ho.lt G (by rw [hG]; rfl))
      have h2 : wA.heap.size ≤ G := h1.1
      exact ((ht y hy).mono h2).tg (Nat.le_of_lt h1.2)⟩⟩
    exact h0.below (bal_lt _ (Nat.le_refl _))
  have HXm := hidOg hX
  have X1 := hidOg ((Boxed.stays HX1.out hb2).alloc (.cells #[.slice q m d] 24))
  have X3 := hidOg (Boxed.new w2 24 (.slice q m d))
  have HB0 := hidOg ((HBA.out.trans (hb2.mono HBA.out.size)).trans (bal_lt (w := w2) (.cells #[.slice q m d] 24) (Nat.le_trans HBA.out.size hb2.size)))
  clear hX ho ht hb2 hs2
  generalize (w2.alloc (.cells #[.slice q m d] 24)) = w3 at HC0 X1 X3 HB0 ⊢
  generalize w2.heap.size = B3 at X3 ⊢
  go_loopw [13] (fun i wr => ∃ (k : Nat) (Y : List Ep), k ≤ m ∧ i = .int .i64 k ∧ Y.map eOf = L ∧ ClM (w.heap.size + 2) m q d Y wr ∧ Boxed wr (w.heap.size + 1) 24 (.slice none 0 0) ∧ Boxed wr B3 24 (.slice q m d) ∧ Below w.heap.size w wr) (fun i _ => m - (intOf i).toNat)
  case atStart => exact ⟨0, X, Nat.zero_le _, rfl, HXm.out, HC0.out, X1.out, X3.out, HB0.out⟩
  case round =>
    obtain ⟨k, Y, hk, rfl, hY, hC, b1, b3, hB⟩ := hrel
    have HY := hidOg hY
    have HC := hidOg hC
    have HB1 := hidOg b1
    have HB3 := hidOg b3
    have HB := hidOg hB
    clear HC0 X1 X3 HB0 hY
    by_cases hlt : k < m
    · obtain ⟨G, rfl, hGB, hGlt, k0, k1, k2, kf⟩ := hC.cells hlt
      have hTk := (hC.t _ (gP_mem (k := k) (by rw [hC.n]; exact hlt))).1
      have hgl : gE L k = eOf (gP Y k) := by rw [← HY.out, gE_map (by rw [hC.n]; exact hlt)]
      have hlen : (gP Y k).2.1.2.1.length ≤ 1000 := by
        have := HLB.out k (by rw [← HM.out]; exact hlt)
        rw [hgl] at this; exact this
      obtain ⟨y, hy⟩ : ∃ y, y = gP Y k := ⟨_, rfl⟩
      have Hy := hidOg hy
      rw [← hy] at k0 k1 k2 hTk hlen
      obtain ⟨s, ⟨qx, t, cx⟩, n⟩ := y
      simp only at k0 k1 k2 hTk hlen
      have CK := fun (W : World) (hb : Below wr.heap.size wr W) => clone19 qx t cx W ((hTk.to hb).i) hTk.u hlen
      obtain ⟨lt, hlt'⟩ : ∃ lt, lt = t.length := ⟨_, rfl⟩
      have HLt := hidOg hlt'
      rw [← hlt'] at k1 CK
      obtain ⟨wD, hwD⟩ : ∃ wD, wD = wr.alloc (.cells #[.int .i64 s, .slice qx lt cx, .int .i64 n] 39) := ⟨_, rfl⟩
      have hbD : Below wr.heap.size wr wD := by rw [hwD]; exact bal_lt _ (Nat.le_refl _)
      have hsD : wD.heap.size = wr.heap.size + 1 := by rw [hwD]; simp
      have K : Hid (∀ W, Below wD.heap.size wD.drew W → (W.cell? ⟨B3, 0, none⟩ = some (.slice (some ⟨G, 0, none⟩) m d) ∧ W.cell? ⟨wr.heap.size, 1, none⟩ = some (.slice qx lt cx)) ∧ Below wr.heap.size wr W) := fun W hb => by
        have h1 : Below wD.heap.size wD W := (below_drew _ _).trans hb
        have h2 : Below wr.heap.size wr W := hbD.trans (h1.mono hbD.size)
        rw [hwD] at h1
        exact ⟨⟨Boxed.cell (Boxed.stays b3 h2), (box3 wr _ _ _ h1).2.1⟩, h2⟩
      have hG3 : G ≠ B3 := fun e => by
        have h1 := hC.o
        rcases h1.2 with ⟨hn, _⟩ | ⟨g, cap, cur, hv, _, hg, _⟩
        · cases hn
        · cases hv
          have h2 : wr.heap[B3]? = some (.cells #[.slice (some ⟨G, 0, none⟩) m d] 24 (0, 0)) := b3
          rw [← e, hg] at h2
          cases h2
      have HG3 : Hid (B3 ≠ G ∧ wr.heap.size ≠ G) := ⟨fun e => hG3 e.symm, by omega⟩
      clear hG3
      have HD0 : Hid (Below wD.heap.size wD.drew wD.drew) := Below.refl _ _
      clear hC b1 b3 hB hTk hgl hlen hy hlt' hbD
      go_wp2
      rw [← hwD]
      have HDu : Below wD.heap.size wD.drew wD := ⟨rfl, rfl, rfl, Nat.le_refl _, fun _ _ => rfl⟩
      have y0 := (K.out _ HDu).1.1
      have y1 := (K.out _ HDu).1.2
      clear HDu hwD
      go_region_held3 (fun w' => w'.cell? ⟨B3, 0, none⟩ = some (.slice (some ⟨G, 0, none⟩) m d) ∧ w'.cell? ⟨wr.heap.size, 1, none⟩ = some (.slice qx lt cx)) (first | with_reducible exact TT.out _ | with_reducible exact ⟨k0, k1⟩ | go_keep) (first
        | (go_at_call 19; refine Calls.mono (CK _ (K.out _ HD0.out).2) ?_; clear CK; rintro e w4 ⟨q4, c4, rfl, hO4, hb4⟩; have HD1 := hidOg (HD0.out.trans (hb4.mono HD0.out.size)); obtain ⟨⟨k0, k1⟩, hb4r⟩ := K.out _ HD1.out; have HC4 := hidOg (HC.out.below hb4r); have HB4 := hidOg (HB.out.trans (hb4r.mono HB.out.size)); have HX4 := hidOg (And.intro (Boxed.stays HB1.out hb4r) (Boxed.stays HB3.out hb4r)); obtain ⟨G', hG', _, _, g0, g1, g2, gf⟩ := HC4.out.cells hlt; cases hG'; have TG4 : Hid (TG G w4 q4 t c4) := ⟨hO4.row, fun _ a ha => (by have := hO4.fresh a ha; simp at this; omega)⟩; have TT : Hid (∀ v : Value, (w4.setCell ⟨G, k * 3 + 1, none⟩ v).cell? ⟨B3, 0, none⟩ = some (.slice (some ⟨G, 0, none⟩) m d) ∧ (w4.setCell ⟨G, k * 3 + 1, none⟩ v).cell? ⟨wr.heap.size, 1, none⟩ = some (.slice qx lt cx)) := (fun v => ⟨(cell_heap (heap_setCell_other w4 ⟨G, k * 3 + 1, none⟩ B3 v HG3.out.1) 0).trans k0, (cell_heap (heap_setCell_other w4 ⟨G, k * 3 + 1, none⟩ wr.heap.size v HG3.out.2) 1).trans k1⟩); clear hO4 hb4 hb4r))
      all_goals
        go_wp2
        go_roundw
        case rel =>
          have hp := HC4.out.put (k := k) (q4, t, c4) TG4.out
          simp only [← HLt.out] at hp
          refine ⟨k + 1, Y.set k ((gP Y k).1, (q4, t, c4), (gP Y k).2.2), by omega, by go_num, ?_, hp, ?_, ?_, HB4.out.setCell (p := ⟨G, k * 3 + 1, none⟩) (by show w.heap.size ≤ G; omega) _⟩
          · rw [map_set, HY.out]
            have e1 : eOf ((gP Y k).1, (q4, t, c4), (gP Y k).2.2) = gE L k := by
              rw [← HY.out, gE_map (by rw [HC.out.n]; exact hlt), ← Hy.out]; rfl
            rw [e1, set_gE]
          · exact (heap_setCell_other w4 ⟨G, k * 3 + 1, none⟩ (w.heap.size + 1) _ (by show w.heap.size + 1 ≠ G; omega)).trans HX4.out.1
          · exact (heap_setCell_other w4 ⟨G, k * 3 + 1, none⟩ B3 _ HG3.out.1).trans HX4.out.2
        case measure => simp [intOf]; omega
    · obtain rfl : k = m := by omega
      have z1 := b1.cell
      have z1f := b1.frozen
      have z3 := b3.cell
      clear hC b1 b3 hB
      go_wp2
      have hrow : ERow wr.heap.size wr q L := by
        have := HC.out.row
        rw [HY.out] at this; exact this
      have fin : ERow (wr.setCell ⟨w.heap.size + 1, 0, none⟩ (.slice q k d)).heap.size (wr.setCell ⟨w.heap.size + 1, 0, none⟩ (.slice q k d)) q L := by
        have hC' : ClM (w.heap.size + 2) k q d Y (wr.setCell ⟨w.heap.size + 1, 0, none⟩ (.slice q k d)) := ⟨HC.out.o.kept (grownBy_setCell' wr (w.heap.size + 1) _) (.inr (HB1.out.not_row (by decide) HC.out.o).symm), HC.out.n, fun y hy => by
          have h1 := ((HC.out.t y hy).1.box HB1.out (.slice q k d))
          have e : (wr.setCell ⟨w.heap.size + 1, 0, none⟩ (.slice q k d)).heap.size = wr.heap.size := by simp
          exact ⟨by rw [e]; exact h1, fun G hG => ⟨by rw [e]; exact h1, ((HC.out.t y hy).2 G hG).g⟩⟩⟩
        have := hC'.row
        rw [HY.out] at this; exact this
      clear hrow
      refine bodyPost_ret (v := .agg #[.slice q k d]) (by simp [results, Try.results18, go_sem, z1]) rfl ⟨q, d, rfl, fin, HB.out.setCell (p := ⟨w.heap.size + 1, 0, none⟩) (by simp) _⟩
/-- says, at a lookup that may be and says A. -/
theorem says25 (p : Option Addr) (T A : List En) (c : Nat) (q : Option Addr) (d : Nat) (w : World) (hE : ERow w.heap.size w p T) (hc : T.length ≤ c) (hn : T.length ≤ 1000) (hr : LkR T A) (hA : ERow w.heap.size w q A) :
    Calls Try.prog 25 #[.agg #[.slice p T.length c], .slice q A.length d] w fun e w' => e = .returned (.bool true) ∧ Below w.heap.size w w' := by
  have hlb := lb_of_ri hr.r
  have hAl : LB A := by
    have := alO_lb hlb
    rwa [alO_of hr] at this
  have hAn : A.length ≤ 1000 := by
    have := alO_len T
    rw [alO_of hr] at this; omega
  have bw : Below w.heap.size w (w.alloc (.cells #[.slice p T.length c] 24)) := bal_lt _ (Nat.le_refl _)
  have K : Hid (∀ W, Below (w.alloc (.cells #[.slice p T.length c] 24)).heap.size (w.alloc (.cells #[.slice p T.length c] 24)) W → W.cell? ⟨w.heap.size, 0, none⟩ = some (.slice p T.length c) ∧ Below w.heap.size w W) := fun W hb => ⟨Boxed.cell (Boxed.stays (Boxed.new w 24 _) hb), bw.trans (hb.mono bw.size)⟩
  have CR := fun (W : World) (hb : Below w.heap.size w W) => right9 p T c W (hE.to hb) hn hc hlb
  have CA := fun (W : World) (hb : Below w.heap.size w W) => all10 p T c W (hE.to hb) hn hlb
  have CS := fun (p1 : Option Addr) (c1 : Nat) (W : World) (h : ERow W.heap.size W p1 A) (hb : Below w.heap.size w W) => same13 p1 A c1 q A d W h (hA.to hb) hAl hAl hAn
  rw [riB_t hr.r] at CR
  rw [hr.a] at CA
  simp only [eqL_t] at CS
  obtain ⟨m, hm⟩ : ∃ m, m = T.length := ⟨_, rfl⟩
  obtain ⟨n, hnn⟩ : ∃ n, n = A.length := ⟨_, rfl⟩
  have HN := hidOg hnn
  rw [← hm] at CR CA K ⊢
  rw [← hnn] at CS ⊢
  clear hE hc hn hr hA hlb hAl hAn bw hm hnn
  go_enter Try.func25, Try.ntmps25
  go_wp2_with (first
    | (go_at_call 9; refine Calls.mono (CR _ (K.out _ (Below.refl _ _)).2) ?_; clear CR; rintro e w1 ⟨rfl, hb1⟩; obtain ⟨y1, h1⟩ := K.out _ hb1; have H1 := hidOg h1; clear hb1 h1)
    | (go_at_call 10; refine Calls.mono (CA _ H1.out) ?_; clear CA; rintro e w2 ⟨p2, c2, rfl, hE2, hb2⟩; rw [← HN.out]; have H2 := hidOg (H1.out.trans (hb2.mono H1.out.size)); have HE2 := hidOg hE2; clear hE2 hb2)
    | (go_at_call 13; refine Calls.mono (CS _ _ _ HE2.out H2.out) ?_; clear CS; rintro e w3 ⟨rfl, hb3⟩; have H3 := hidOg (H2.out.trans (hb3.mono H2.out.size)); clear hb3))
  go_ret
  exact ⟨rfl, H3.out⟩
end Go.Proofs.Ytjnhalomkmdcgaa
