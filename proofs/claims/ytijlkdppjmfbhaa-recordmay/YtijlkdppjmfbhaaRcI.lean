/- inOrder. -/
import Derived.Test.YtijlkdppjmfbhaaRcH
import Derived.Test.YtijlkdppjmfbhaaRcD
namespace Go.Proofs.Ytijlkdppjmfbhaa
open Go.RowKit Go.Shelf
attribute [local go_sem] Oper.semAt_some
attribute [local go_sem ↓] app_hide
/-- These are who stands in the table, by their rows. -/
def IsRows (l : List Sp) (t : Int) (X : List Int) : Prop := X.Perm (rwN l t (plN l l.length)) ∧ X.Pairwise (fun x y => (sG l (x.toNat - 1)).2 ≤ (sG l (y.toNat - 1)).2)
theorem rwN_mem {l : List Sp} {t : Int} {pre : List Nat} {x : Int} : x ∈ rwN l t pre ↔ ∃ k ∈ pre, (sG l k).1 = t ∧ x = (k : Int) + 1 := by
  unfold rwN
  rw [List.mem_map]
  constructor
  · rintro ⟨k, hk, rfl⟩
    obtain ⟨h1, h2⟩ := List.mem_filter.1 hk
    exact ⟨k, h1, by simpa using h2, rfl⟩
  · rintro ⟨k, h1, h2, rfl⟩
    exact ⟨k, List.mem_filter.2 ⟨h1, by simpa using h2⟩, rfl⟩
theorem sortAny (p : Option Addr) (l : List Sp) (c R B : Nat) (q : Option Addr) (d : Nat) (w : World) (X : List Int) (hX : OwnR B w q X d) (hXn : X.length ≤ 1048578) (hXl : ∀ x ∈ X, ∃ k : Nat, k < l.length ∧ x = (k : Int) + 1) (hE : SRow w.heap.size w p l) (hR : w.heap[R]? = some (.cells #[.slice p l.length c] 24)) (hl : l.length ≤ 1048578) (hb : ∀ k, 0 ≤ (sG l k).2 ∧ (sG l k).2 ≤ 1048578) (hRB : R < B) (hpB : 0 < l.length → ∀ a, p = some a → a.block < B) :
    Calls Try.prog 56 #[.slice q X.length d, .func (.func 57) #[] #[.pointer (some ⟨R, 0, none⟩)]] w fun e w' => e = .returned (.tuple #[]) ∧
      ∃ X' : List Int, X'.Perm X ∧ X'.Pairwise (fun x y => (sG l (x.toNat - 1)).2 ≤ (sG l (y.toNat - 1)).2) ∧ OwnR B w' q X' d ∧ Below B w w' ∧ (∀ b, b < w.heap.size → some b ≠ q.map (·.block) → w'.heap[b]? = w.heap[b]?) := by
  rcases hX.o.2 with ⟨e, h0⟩ | ⟨g, cap, cur, e, hg, hh, _⟩
  · injection e with e1 e2 e3
    subst e1 e3
    obtain rfl : X = [] := List.eq_nil_of_length_eq_zero h0
    refine (sort_none56 none 0 _ w).mono ?_
    rintro e w' ⟨rfl, rfl⟩
    exact ⟨rfl, [], List.Perm.refl _, List.Pairwise.nil, OwnR.nil _ _, Below.refl _ _, fun _ _ _ => rfl⟩
  · injection e with e1 e2 e3
    subst e1 e3
    by_cases h0 : l.length = 0
    · have : X = [] := by
        cases X with
        | nil => rfl
        | cons x t => obtain ⟨k, hk, _⟩ := hXl x (by simp); omega
      subst this
      refine (sort_none56 _ _ _ w).mono ?_
      rintro e w' ⟨rfl, rfl⟩
      exact ⟨rfl, [], List.Perm.refl _, List.Pairwise.nil, hX, Below.refl _ _, fun _ _ _ => rfl⟩
    · refine (sort56 p l c R B g d w X hX hXn hXl hE hR hl (by omega) hb (by omega) (fun a ha => by have := hpB (by omega) a ha; omega)).mono ?_
      rintro e w' ⟨rfl, X', hp, hs, hV', hsz, hh', ho, hta, hou⟩
      exact ⟨rfl, X', hp, hs, hV', ⟨ho, hta, hou, hsz, fun k hk => by
        by_cases hk2 : k < w.heap.size
        · exact hh' k (by omega) hk2
        · have := (Array.getElem?_eq_some_iff.1 hh).1; omega⟩, fun b hb hne => hh' b (by simpa using hne) hb⟩
set_option maxRecDepth 100000 in
set_option maxHeartbeats 4000000 in
theorem inOrder40 (p : Option Addr) (l : List Sp) (c : Nat) (t : Int) (w : World) (hE : SRow w.heap.size w p l) (hl : l.length ≤ 1048578) (hrb : ∀ k, 0 ≤ (sG l k).2 ∧ (sG l k).2 ≤ 1048578) :
    Calls Try.prog 40 #[.agg #[.slice p l.length c], .int .i64 t] w fun e w' => ∃ q X d, e = .returned (.slice q (X : List Int).length d) ∧ IsRows l t X ∧ OwnR w.heap.size w' q X d ∧ Below w.heap.size w w' := by
  refine (callsIn_wide (n := 4)).1 ?_
  refine callsIn_of_wp_marks Try.func40 rfl trivial ?_ rfl
  simp only [Try.ntmps40, List.size_toArray, List.length_cons, List.length_nil, Nat.reduceAdd, Nat.reduceSub, Array.replicate_succ, Array.replicate_zero, List.push_toArray, List.append_toArray, List.nil_append, List.cons_append]
  have h55 : Fence.wide.fn 55 := trivial
  have h56 : Fence.wide.fn 56 := trivial
  have CR := fun (Z : World) => placed55 p l.length c Z
  gi_wp2_with (first | (gi_at_call 55; refine (callsIn_wide.2 (CR _)).mono ?_; rintro e w1 ⟨rfl, hw⟩; rw [hw]; clear hw w1))
  obtain ⟨w4, hw4⟩ : ∃ w4, w4 = ((((w.alloc (.cells #[.slice p l.length c] 24)).alloc (.cells #[.int .i64 t] 3)).alloc (.cells #[.slice none 0 0] 26)).alloc (.cells #[.slice p l.length c] 24)) := ⟨_, rfl⟩
  rw [← hw4]
  obtain ⟨h1, h2, h3, h4⟩ := al4 w (.cells #[.slice p l.length c] 24) (.cells #[.int .i64 t] 3) (.cells #[.slice none 0 0] 26) (.cells #[.slice p l.length c] 24)
  rw [← hw4] at h1 h2 h3 h4
  have s4 : w4.heap.size = w.heap.size + 4 := by rw [hw4]; simp
  have B4 : Below w.heap.size w w4 := by rw [hw4]; exact ((((Below.refl _ w).alloc (Nat.le_refl _) _).alloc (by simp) _).alloc (by simp; omega) _).alloc (by simp; omega) _
  have h0 : InI (w.heap.size + 1 + 1) (.slice p l.length c) w4 l t [] w4 := ⟨⟨h4, none, 0, h3, OwnR.nil _ _⟩, Below.refl _ _⟩
  have hst := placed_stops 3 (by omega) (w.heap.size + 1 + 1 + 1) (w.heap.size + 1 + 1) p l c w4 ((hE.below B4 (Nat.le_refl _)).mono (by omega)) (by omega) (by omega) h4
  have c1 : w4.cell? ⟨w.heap.size + 1, 0, none⟩ = some (.int .i64 t) := cell1_heap h2
  have HE4 := hidOg ((hE.below B4 (Nat.le_refl _)))
  have HEE := hidOg hE
  have H1 := hidOg h1
  clear hw4 h1 h2 h3 h4 CR hE
  refine wpIn_rangeFunc_ownH rfl (by omega) (gf := 59) (lb := #[.pointer (some ⟨w.heap.size + 1 + 1 + 1, 0, none⟩)]) rfl trivial (enters_of Try.func59 (by kernel_rfl) rfl)
    hst (fun h k => h.trans k) (ke_b (by omega) (by omega)) (Below.refl _ _) (fun _ => rfl)
    (InI (w.heap.size + 1 + 1) (.slice p l.length c) w4 l t) (fun _ => CnX) (ini_own (w.heap.size + 1 + 1) (.slice p l.length c) w4 l t _ (by omega) (by omega)) (fun c => ownFrom_pure _ (fun _ => False)) h0
    (fun x a' W => ∃ B, w4.heap.size ≤ B ∧ W.heap[B]? = some (.cells #[.int .i64 (sG l (yM x)).1, .int .i64 (sG l (yM x)).2] 34) ∧ a' = { tmps := #[.agg #[.slice p l.length c], .int .i64 t, .pointer (some ⟨w.heap.size, 0, none⟩), .pointer (some ⟨w.heap.size + 1, 0, none⟩), .slice none 0 0, .pointer (some ⟨w.heap.size + 1 + 1, 0, none⟩), .int .i64 ((yM x : Int) + 1), .pointer (some ⟨B, 0, none⟩), .agg #[.slice p l.length c], .func (.func 59) #[] #[.pointer (some ⟨w.heap.size + 1 + 1 + 1, 0, none⟩)], .int .i64 ((yM x : Int) + 1), .agg #[.int .i64 (sG l (yM x)).1, .int .i64 (sG l (yM x)).2], undef, undef, undef, undef, undef, undef, undef, undef, undef, undef, undef, undef], defers := [] })
    (fun x a' => own_kc fun _ W W' k ⟨B, hB, hc, ha⟩ => ⟨B, hB, k.same B _ hc rfl, ha⟩) ?assign ?body ?done ?stop
  case assign =>
    intro yl pre x W K hI hK
    have KK := hidOg hK
    have HI := hidOg hI
    clear hI hK hst h0
    gi_wp2
    have hb := bal W (.cells #[.int .i64 (sG l (yM x)).1, .int .i64 (sG l (yM x)).2] 34)
    have hsz : w4.heap.size ≤ W.heap.size := HI.out.2.size
    refine KK.out _ _ ((KeepsOthers.alloc _ _).from _) ⟨hb.mono (by omega), hb.block _ (by omega)⟩ ?_ ⟨W.heap.size, hsz, blk1, rfl⟩
    exact (ini_own (w.heap.size + 1 + 1) (.slice p l.length c) w4 l t w4.heap.size (by omega) (by omega)).alloc _ HI.out
  case body =>
    rintro yl pre x a' W hlw _ ⟨hM, hBw⟩ ⟨B, hB5, hB, rfl⟩ hlt
    obtain ⟨cb0, cb1, _⟩ := cell2_heap hB
    have k1 := (hBw.cell (p := ⟨w.heap.size + 1, 0, none⟩) (by simp)).trans c1
    obtain ⟨a, ha⟩ : ∃ a, a = (sG l (yM x)).1 := ⟨_, rfl⟩
    obtain ⟨d, hd⟩ : ∃ d, d = (sG l (yM x)).2 := ⟨_, rfl⟩
    rw [← ha] at cb0
    rw [← hd] at cb1
    rw [← ha, ← hd]
    have HA := hidOg ha
    have HMp : Hid ((pre ++ [x]).map yM = pre.map yM ++ [yM x]) := by unfold Hid; simp
    have hlr : (rwN l t (pre.map yM)).length < 1099511627776 := by
      have h1 := rwN_len l t (pre.map yM)
      rw [List.length_map] at h1
      omega
    by_cases he : a = t
    · have hda : (a == t) = true := by simp [he]
      have HR : Hid (rwN l t ((pre ++ [x]).map yM) = rwN l t (pre.map yM) ++ [(yM x : Int) + 1]) := by unfold Hid; rw [HMp.out]; exact rwN_t (by rw [← HA.out]; exact he)
      obtain ⟨hvp, q, cq, hv, hrow⟩ := hM
      obtain ⟨r, hr⟩ : ∃ r, r = rwN l t (pre.map yM) := ⟨_, rfl⟩
      rw [← hr] at hv hrow HR hlr
      have hs2 := hBw.size
      have hsx : w.heap.size + 1 + 1 ≤ W.heap.size := by omega
      obtain ⟨y, hy⟩ : ∃ y, y = (yM x : Int) + 1 := ⟨_, rfl⟩
      rw [← hy] at HR
      rw [← hy]
      have hir : IRow .i64 (W.alloc (.cells #[.int .i64 y] 3)).heap.size (W.alloc (.cells #[.int .i64 y] 3)) (some ⟨W.heap.size, 0, none⟩) [y] := irow_heap .i64 (t := 3) blk1
      obtain ⟨g2, c2, w3, hrun, ho2, hg2⟩ := app_words Try.underlying26 (W.alloc (.cells #[.int .i64 y] 3)) 26 (w.heap.size + 1 + 1) q r cq (some ⟨W.heap.size, 0, none⟩) [y] 1 (hrow.to (bal _ _)) hir (by simp; omega) (Nat.le_trans hsx (bal W _).size)
      have e1 : (r ++ [y]).length = r.length + 1 := by simp
      rw [e1, app_hide] at hrun
      have hrun : (appS #[26, 26] 26 #[.slice q r.length cq, .slice (some ⟨W.heap.size, 0, none⟩) 1 1]).run Try.prog (W.alloc (.cells #[.int .i64 y] 3)) = .ok (.slice g2 (r.length + 1) c2) w3 := hrun
      obtain ⟨v1, v2, v3, v4, v5⟩ := hv.appended (tmp := .cells #[.int .i64 y] 3) (by decide) hrow.o hsx (Nat.le_refl _) ho2.o (by rw [ownBlock_slice]; exact hg2)
      rw [e1] at v2 v3 v4 v5
      have hc0 : W.cell? ⟨w.heap.size + 1 + 1, 0, none⟩ = some (.slice q r.length cq) := hv.cell
      have hc2 : (W.alloc (.cells #[.int .i64 y] 3)).cell? ⟨w.heap.size + 1 + 1, 0, none⟩ = some (.slice q r.length cq) := (hv.alloc _).cell
      have hc1 := v1.cell
      have hf1 := v1.frozen
      have FIN : Hid (KeepsFrom w4.heap.size W (w3.setCell ⟨w.heap.size + 1 + 1, 0, none⟩ (.slice g2 (r.length + 1) c2)) ∧ Ke (w.heap.size + 1 + 1) (w.heap.size + 1 + 1 + 1) W (w3.setCell ⟨w.heap.size + 1 + 1, 0, none⟩ (.slice g2 (r.length + 1) c2)) ∧ InM (w.heap.size + 1 + 1) (.slice p l.length c) l t (pre ++ [x]) (w3.setCell ⟨w.heap.size + 1 + 1, 0, none⟩ (.slice g2 (r.length + 1) c2)) ∧ Below (w.heap.size + 1 + 1) w4 (w3.setCell ⟨w.heap.size + 1 + 1, 0, none⟩ (.slice g2 (r.length + 1) c2))) := by
        have b3 : Boxed w3 (w.heap.size + 1 + 1 + 1) 24 (.slice p l.length c) := (hvp.alloc _).kept hg2 (by
          have := hvp.not_row (by decide) hrow.o
          rw [ownBlock_slice] at this; exact this)
        have b4 := b3.other (B' := w.heap.size + 1 + 1) (by omega) (.slice g2 (r.length + 1) c2)
        refine ⟨v4.from _, ⟨v5, b4.trans hvp.symm⟩, ?_, hBw.trans v5⟩
        unfold InM
        rw [HR.out]
        exact ⟨b4, g2, c2, by rw [e1]; exact v2, ⟨by rw [e1]; exact v3, ho2.n⟩⟩
      have HYY := hidOg hy
      clear v1 v2 v3 v4 v5 hv hrow hvp ho2 hg2 e1 hst h0 c1 hlt hBw hir hr he HR
      clear hy
      gi_wp2
      exact FIN.out
    · have hda : (a == t) = false := by simpa using he
      have HR : Hid (rwN l t ((pre ++ [x]).map yM) = rwN l t (pre.map yM)) := by unfold Hid; rw [HMp.out]; exact rwN_f (by rw [← HA.out]; exact he)
      have HMM := hidOg hM
      have HBw := hidOg hBw
      clear he hM hBw hst h0 c1 ha hd
      gi_wp2
      refine ⟨KeepsFrom.refl _ _, Ke.refl _ _ _, ?_, HBw.out⟩
      unfold InM
      rw [HR.out]
      exact HMM.out
  case done =>
    rintro D xs W hD rfl ⟨⟨hvp, q, cq, hv, hrow⟩, hBw⟩ hK
    rw [plN_y (by omega)] at hv hrow
    have hc0 : W.cell? ⟨w.heap.size + 1 + 1, 0, none⟩ = some (.slice q (rwN l t (plN l l.length)).length cq) := hv.cell
    have hsz := hBw.size
    have hEW : SRow w.heap.size W p l := HE4.out.below hBw (by omega)
    have hRW : W.heap[w.heap.size]? = some (.cells #[.slice p l.length c] 24) := (hBw.block w.heap.size (by omega)).trans H1.out
    have CS := sortAny p l c w.heap.size (w.heap.size + 1 + 1) q cq W _ hrow (by have h1 := rwN_len l t (plN l l.length); have h2 := plN_len l l.length; omega) (fun x hx => by
      obtain ⟨k, hk, _, e⟩ := rwN_mem.1 hx
      unfold plN at hk
      exact ⟨k, List.mem_range.1 (List.mem_filter.1 hk).1, e⟩) (hEW.mono (by omega)) hRW hl hrb (by omega) (fun h0 a ha => by
      obtain ⟨b, off, e, hbN, _⟩ := HEE.out h0
      rw [ha] at e; cases e; show b < _; omega)
    have hne : some (w.heap.size + 1 + 1) ≠ (q.map (·.block)) := by
      have := hv.not_row (by decide) hrow.o
      rw [ownBlock_slice] at this; exact this
    obtain ⟨X0, hX0⟩ : ∃ X0, X0 = rwN l t (plN l l.length) := ⟨_, rfl⟩
    rw [← hX0] at CS hc0
    have HX0 := hidOg hX0
    have HK := hidOg hK
    have HNE := hidOg hne
    have HBw := hidOg hBw
    have hlt2 : w.heap.size + 1 + 1 < W.heap.size := by omega
    have hDlt := (Array.getElem?_eq_some_iff.1 hK).1
    have HND : Hid (some D ≠ q.map (·.block)) := fun e => by
      rcases hrow.o.2 with ⟨h', _⟩ | ⟨g', cap', cur, h', _, hc, _⟩
      · injection h' with e1; rw [e1] at e; cases e
      · injection h' with e1
        rw [e1] at e
        have e2 : D = g' := by simpa using e
        rw [e2, hc] at hK; cases hK
    clear hX0 hK hne hBw hvp hv hrow hst h0 c1 hEW hRW HE4 HEE H1 hrb
    gi_wp2_with (first | (gi_at_call 56; refine (callsIn_wide.2 CS).mono ?_; rintro e w2 ⟨rfl, X', hp, hs, ho, hb2, hk2⟩; have z2 := (cell_heap (hk2 _ hlt2 HNE.out) 0).trans hc0; have HP := hidOg hp; have HS := hidOg hs; have HO := hidOg ho; have HB2 := hidOg hb2; have HD2 := hidOg ((hk2 D hDlt HND.out).trans HK.out); clear hp hs ho hb2 hk2))
    refine ⟨by simp, .inl ⟨_, _, rfl, run_takeDeferred HD2.out, ?_⟩⟩
    have kb := belowK_b (w := w) (n₀ := w.heap.size) (Nat.le_refl _) w2 D (.deferred (some [])) (.deferred none) (by omega) HD2.out rfl rfl
    refine ⟨_, results_tmp rfl _ _ _, q, X', cq, (by rw [HP.out.length_eq]; rfl), ⟨by rw [← HX0.out]; exact HP.out, HS.out⟩, ((kc_put (o' := .deferred none) HD2.out rfl).ownR HO.out).weak (by omega), ((B4.trans (HBw.out.mono (by omega))).trans (HB2.out.mono (by omega))).trans kb⟩
  case stop =>
    rintro D c pre W hD _ h
    exact h.elim
end Go.Proofs.Ytijlkdppjmfbhaa
