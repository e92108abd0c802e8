/- slices.AppendSeq, slices.Collect over the used entries. -/
import Derived.Test.YtjnhalomkmdcgaaLuL
namespace Go.Proofs.Ytjnhalomkmdcgaa
open Go.RowKit Go.Shelf
attribute [local go_sem] Oper.semAt_some
attribute [local go_sem ↓] app_hide

theorem owns_apart {W : World} {B B' s s' n n' : Nat} {e e' : TypeId} {v v' : Value} {xs xs' : List Value} (h : W.ownsRow B e s v n xs) (h' : W.ownsRow B' e' s' v' n' xs') (hne : e ≠ e') : v.ownBlock = none ∨ v.ownBlock ≠ v'.ownBlock := by
  rcases h.2 with ⟨rfl, _⟩ | ⟨g, cap, cur, rfl, _, hg, _⟩
  · exact .inl rfl
  · rcases h'.2 with ⟨rfl, _⟩ | ⟨g', cap', cur', rfl, _, hg', _⟩
    · exact .inr (by simp [Value.ownBlock])
    · refine .inr fun he => ?_
      have : g = g' := by simpa [Value.ownBlock] using he
      subst this
      rw [hg] at hg'; cases hg'; exact hne rfl
/-- What AppendSeq keeps in memory. -/
structure ApM (S Z : Nat) (pre : List Ep) (W : World) : Prop where
  v : ∃ v, Boxed W S 22 v ∧ W.ownsRow S 39 3 v pre.length (cellsE pre)
  o : ∀ x ∈ pre, OwT Z W x.2.1.1 x.2.1.2.1 x.2.1.2.2
theorem ApM.kc {S Z : Nat} {pre : List Ep} {W W' : World} (h : ApM S Z pre W) (k : Kc W W') : ApM S Z pre W' := by
  obtain ⟨v, h1, h2⟩ := h.v
  exact ⟨⟨v, k.same _ _ h1 rfl, k.owns h2⟩, fun x hx => k.owT (h.o x hx)⟩
structure ApA (S B4 Z : Nat) (L : List En) (pre : List Ep) (x : Ep) (a' : Act) (W : World) : Prop where
  a : ∃ b0, a' = { tmps := #[.slice none 0 0, .func (.func 60) #[] #[.pointer (some ⟨B4, 0, none⟩)], .pointer (some ⟨S, 0, none⟩), undef, .slice none 0 0, .pointer (some ⟨b0, 0, none⟩), .func (.func 60) #[] #[.pointer (some ⟨B4, 0, none⟩)], .agg #[.int .i64 x.1, .slice x.2.1.1 x.2.1.2.1.length x.2.1.2.2, .int .i64 x.2.2], undef, undef, undef, undef, undef], defers := [] } ∧
    W.heap[b0]? = some (.cells #[.int .i64 x.1, .slice x.2.1.1 x.2.1.2.1.length x.2.1.2.2, .int .i64 x.2.2] 39 (0, 0))
  m : ApM S Z pre W
  v : VU L Z pre x W
theorem ApA.kc {S B4 Z : Nat} {L : List En} {pre : List Ep} {x : Ep} {a' : Act} {W W' : World} (h : ApA S B4 Z L pre x a' W) (k : Kc W W') : ApA S B4 Z L pre x a' W' := by
  obtain ⟨b0, h1, h2⟩ := h.a
  exact ⟨⟨b0, h1, k.same _ _ h2 rfl⟩, h.m.kc k, h.v.kc k⟩
theorem vu_len {L : List En} {Z : Nat} {pre : List Ep} {x : Ep} {W : World} (h : VU L Z pre x W) : pre.length < L.length := by
  obtain ⟨k, hk, _, _, hp⟩ := h.k
  have : pre.length = ((L.take k).filter usB).length := by rw [← hp, List.length_map]
  have h2 : ((L.take k).filter usB).length ≤ (L.take k).length := List.length_filter_le _ _
  simp at h2
  omega
set_option maxRecDepth 100000 in
set_option maxHeartbeats 4000000 in
theorem append81 (p : Option Addr) (L : List En) (c B4 n₀ : Nat) (w : World) (hE : ERow n₀ w p L) (hn₀ : n₀ ≤ w.heap.size) (hB : LB L) (hl : L.length ≤ 1000) (h4 : w.cell? ⟨B4, 0, none⟩ = some (.slice p L.length c)) :
    Calls Try.prog 81 #[.slice none 0 0, .func (.func 60) #[] #[.pointer (some ⟨B4, 0, none⟩)]] w fun e w' => ∃ (v : Value) (xs : List Ep), e = .returned v ∧ xs.map eOf = L.filter usB ∧ w'.ownsRow w.heap.size 39 3 v xs.length (cellsE xs) ∧ (∀ x ∈ xs, OwT w.heap.size w' x.2.1.1 x.2.1.2.1 x.2.1.2.2) ∧ Below w.heap.size w w' := by
  obtain ⟨i0, hi0, hz0, hz1, hz2⟩ := info_parts Try.info39
  refine (callsIn_wide (n := 4)).1 ?_
  refine callsIn_of_wp_marks Try.func81 rfl trivial ?_ rfl
  simp only [Try.ntmps81, List.size_toArray, List.length_cons, List.length_nil, Nat.reduceAdd, Nat.reduceSub, Array.replicate_succ, Array.replicate_zero, List.push_toArray, List.append_toArray, List.nil_append, List.cons_append]
  have hb4 := World.block_lt_of_cell? w _ h4
  gi_wp2
  obtain ⟨w5, hw5⟩ : ∃ w5, w5 = w.alloc (.cells #[.slice none 0 0] 22) := ⟨_, rfl⟩
  rw [← hw5]
  have s5 : w5.heap.size = w.heap.size + 1 := by rw [hw5]; simp
  have B5 : Below w.heap.size w w5 := by rw [hw5]; exact (Below.refl _ _).alloc (Nat.le_refl _) _
  have bx : Boxed w5 w.heap.size 22 (.slice none 0 0) := by rw [hw5]; exact Boxed.new w 22 _
  clear hw5
  have hLM : ApM w.heap.size (w.heap.size + 1) [] w5 := ⟨⟨_, bx, World.ownsRow_nil _ _ _ _⟩, fun x hx => by simp at hx⟩
  have hseq : SeqV Fence.wide 3 Try.prog 60 #[.pointer (some ⟨B4, 0, none⟩)] encE (Below w.heap.size) (VU L (w.heap.size + 1)) (fun xs => xs.map eOf = L.filter usB) w5 := fun l J W hW hJ hY hj =>
    used60 3 (by omega) l B4 w.heap.size (w.heap.size + 1) p L c hB (by omega) J W hY hJ (by have := hW.size; omega) (by have := hW.size; omega) ((hE.below (B5.trans (hW.mono B5.size)) hn₀).mono hn₀) ((hW.cell (p := ⟨B4, 0, none⟩) (by simp at hb4 ⊢; omega)).trans ((B5.cell (p := ⟨B4, 0, none⟩) hb4).trans h4)) hj
  refine wpIn_rangeV rfl (by omega) (gf := 60) (lb := #[.pointer (some ⟨B4, 0, none⟩)]) rfl trivial (enters_of Try.func60 (by kernel_rfl) rfl)
    hseq belowK_t (belowK_b (by omega)) (Below.refl _ _) (fun _ => rfl)
    (fun pre W => ApM w.heap.size (w.heap.size + 1) pre W ∧ Below w.heap.size w W)
    (OwnFrom.and (own_kc fun _ _ _ k h => h.kc k) (ownFrom_below (Nat.le_refl _) (by omega))) ⟨hLM, B5⟩
    (fun pre x a' W => ApA w.heap.size B4 (w.heap.size + 1) L pre x a' W ∧ Below w.heap.size w W)
    (fun pre x a' => OwnFrom.and (own_kc fun _ _ _ k h => h.kc k) (ownFrom_below (Nat.le_refl _) (by omega))) ?assign ?body ?done
  case assign =>
    rintro l pre ⟨s', ⟨q', t', d'⟩, n'⟩ W K ⟨hM, hBW⟩ hV hK
    have hbal : Below W.heap.size W (W.alloc (.cells #[.int .i64 s', .slice q' t'.length d', .int .i64 n'] 39)) := (Below.refl _ _).alloc (Nat.le_refl _) _
    have fin := hK { tmps := #[.slice none 0 0, .func (.func 60) #[] #[.pointer (some ⟨B4, 0, none⟩)], .pointer (some ⟨w.heap.size, 0, none⟩), undef, .slice none 0 0, .pointer (some ⟨W.heap.size, 0, none⟩), .func (.func 60) #[] #[.pointer (some ⟨B4, 0, none⟩)], .agg #[.int .i64 s', .slice q' t'.length d', .int .i64 n'], undef, undef, undef, undef, undef], defers := [] } _
      ((KeepsOthers.alloc W (.cells #[.int .i64 s', .slice q' t'.length d', .int .i64 n'] 39)).from _) (hbal.mono hBW.size) ⟨⟨⟨W.heap.size, rfl, World.alloc_heap_new W _⟩, hM.kc (kc_below hbal), hV.kc (kc_below hbal)⟩, hBW.trans (hbal.mono hBW.size)⟩
    clear hK hM hV hBW hbal hseq
    gi_wp2
    exact fin
  case body =>
    rintro l pre ⟨s', ⟨q', t', d'⟩, n'⟩ a' W ⟨⟨⟨b0, rfl, hb0⟩, hM, hV⟩, hBW⟩
    obtain ⟨v, hv, hrow⟩ := hM.v
    have hpl := vu_len hV
    have hbsz := hBW.size
    obtain ⟨y0, y1, y2, _⟩ := heap3_cell hb0
    have hc := hv.cell
    have hlv := hv.lt
    obtain ⟨v', w2, hrun, hown', hgrow, _⟩ := run_append_own (P := Try.prog) (W.alloc (.cells #[.int .i64 s', .slice q' t'.length d', .int .i64 n'] 39)) w.heap.size 22 22 39 i0 (.agg #[.int .i64 0, .slice none 0 0, .int .i64 0]) 3 40 Try.underlying22 hi0 hz0 hz1 hz2 rfl (by decide) v pre.length _ (hrow.alloc _) ⟨W.heap.size, 0, none⟩ 1 1 (cellsE [(s', (q', t', d'), n')]) rfl (by
      intro j u hj
      rw [addr_add, World.cell?_alloc_at _ _ _ _ rfl]
      have hj3 : j < 3 := by have := (List.getElem?_eq_some_iff.1 hj).1; simpa [cellsE] using this
      rcases (show j = 0 ∨ j = 1 ∨ j = 2 by omega) with rfl | rfl | rfl <;> simpa [cellsE] using hj) (cellsE_one _) (by unfold maxLen; omega) (by omega) (by simp; omega)
    obtain ⟨g', cap', rfl⟩ := ownsRow_succ hown'
    rw [app_hide] at hrun
    obtain ⟨hv1, hv2, hr2, hk2, hb2⟩ := hv.appended (by decide) hrow hBW.size (Nat.le_refl _) hown' hgrow
    have hc1 := hv1.cell
    have hf1 := hv1.frozen
    have hc2 : (W.alloc (.cells #[.int .i64 s', .slice q' t'.length d', .int .i64 n'] 39)).cell? ⟨w.heap.size, 0, none⟩ = some v := (hv.alloc _).cell
    have KEEP : Hid (∀ (q : Option Addr) (l : List Int) (c : Nat), OwT (w.heap.size + 1) W q l c → OwT (w.heap.size + 1) (w2.setCell ⟨w.heap.size, 0, none⟩ (.slice (some ⟨g', 0, none⟩) (pre.length + 1) cap')) q l c) := fun q l c ho => by
      have h1 : OwT (w.heap.size + 1) (W.alloc (.cells #[.int .i64 s', .slice q' t'.length d', .int .i64 n'] 39)) q l c := ho.below ((Below.refl _ _).alloc (Nat.le_refl _) _)
      have h2 : OwT (w.heap.size + 1) w2 q l c := ⟨h1.o.kept hgrow (owns_apart h1.o (hrow.alloc _) (by decide)), h1.u⟩
      exact h2.setCell (a := ⟨w.heap.size, 0, none⟩) (fun a ha => by have := h2.fresh a ha; show a.block ≠ w.heap.size; omega) _
    have G2 := hidOg hr2
    have G1 := hidOg hv2
    have G3 := hidOg hk2
    have G4 := hidOg hb2
    have HM := hidOg hM
    have HV := hidOg hV
    have HB := hidOg hBW
    obtain ⟨lt', hlt'⟩ : ∃ lt', lt' = t'.length := ⟨_, rfl⟩
    simp only at y0 y1 y2
    simp only []
    rw [← hlt'] at y1 hrun hc2 ⊢
    clear hown' hgrow hv1 hv2 hr2 hk2 hb2 hv hrow hM hV hBW hb0 hseq hlt' hLM B5 bx
    gi_wp2
    refine ⟨G3.out.from _, G4.out, ⟨⟨_, G1.out, ?_⟩, fun y hy => ?_⟩, HB.out.trans G4.out⟩
    · rw [cellsE_append, List.length_append]; exact G2.out
    · rcases List.mem_append.1 hy with hy | hy
      · exact KEEP.out _ _ _ (HM.out.o y hy)
      · rw [List.mem_singleton.1 hy]; exact KEEP.out _ _ _ HV.out.o
  case done =>
    rintro D xs W hD hS ⟨hM, hBW⟩ hK
    obtain ⟨v, hv, hrow⟩ := hM.v
    have hc := hv.cell
    have HM := hidOg hM
    have HS : Hid (xs.map eOf = L.filter usB) := hS
    clear hS hM hseq
    gi_wp2
    refine ⟨by simp, .inl ⟨_, _, rfl, run_takeDeferred hK, ?_⟩⟩
    have k := kc_put (o' := .deferred none) hK rfl
    exact ⟨_, results_tmp rfl _ _ _, v, xs, rfl, HS.out, k.owns hrow, fun x hx => (k.owT (HM.out.o x hx)).base (by omega), hBW.trans (belowK_b (w := w) (Nat.le_refl _) W D _ _ (by omega) hK rfl rfl)⟩
theorem collect71 (p : Option Addr) (L : List En) (c B4 n₀ : Nat) (w : World) (hE : ERow n₀ w p L) (hn₀ : n₀ ≤ w.heap.size) (hB : LB L) (hl : L.length ≤ 1000) (h4 : w.cell? ⟨B4, 0, none⟩ = some (.slice p L.length c)) :
    Calls Try.prog 71 #[.func (.func 60) #[] #[.pointer (some ⟨B4, 0, none⟩)]] w fun e w' => ∃ (v : Value) (xs : List Ep), e = .returned v ∧ xs.map eOf = L.filter usB ∧ w'.ownsRow w.heap.size 39 3 v xs.length (cellsE xs) ∧ (∀ x ∈ xs, OwT w.heap.size w' x.2.1.1 x.2.1.2.1 x.2.1.2.2) ∧ Below w.heap.size w w' := by
  have CA := append81 p L c B4 n₀ w hE hn₀ hB hl h4
  clear hE hB h4
  go_enter Try.func71, Try.ntmps71
  go_wp2_with (first | (go_at_call 81; refine Calls.mono CA ?_; rintro e w1 ⟨v, xs, rfl, h1, h2, h3, h5⟩))
  go_ret
  exact ⟨v, xs, rfl, h1, h2, h3, h5⟩
end Go.Proofs.Ytjnhalomkmdcgaa
