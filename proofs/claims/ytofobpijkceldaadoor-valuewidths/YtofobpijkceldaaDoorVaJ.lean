/- Read. -/
import Derived.Test.YtofobpijkceldaaDoorVaI
namespace Go.Proofs.YtofobpijkceldaaDoor
open Go.RowKit Go.Shelf
attribute [local go_sem] Oper.semAt_some

/-- Is it the text of some words? -/
def rdOk (l : List UInt8) : Bool := (prts l).all okW && decide ((prts l).length ≤ 4)
abbrev wdI (x : List UInt8) : Int := (wordV x : Int)
def rdL (l : List UInt8) : List Int := if rdOk l then (prts l).map wdI else []
def rdN (l : List UInt8) : Int := if rdOk l then 0 else 140
theorem rdL_t {l : List UInt8} (h : rdOk l = true) : rdL l = (prts l).map wdI := by unfold rdL; rw [h]; rfl
theorem rdL_f {l : List UInt8} (h : rdOk l = false) : rdL l = [] := by unfold rdL; rw [h]; rfl
theorem rdN_t {l : List UInt8} (h : rdOk l = true) : rdN l = 0 := by unfold rdN; rw [h]; rfl
theorem rdN_f {l : List UInt8} (h : rdOk l = false) : rdN l = 140 := by unfold rdN; rw [h]; rfl
def rdV (l : List UInt8) : List Int := if (l == [45]) then [] else rdL l
def rdE (l : List UInt8) : Int := if (l == [45]) then 0 else rdN l

set_option maxRecDepth 20000 in
theorem read_dash (s : ByteArray) (w : World) (h : (s.toList == [45]) = true) :
    Calls Tryd.prog 22 #[.string s] w fun e w' => e = .returned (.tuple #[.slice none 0 0, .int .i64 0]) ∧ Below w.heap.size w w' := by
  go_enter Tryd.func22, Tryd.ntmps22
  go_wp2
  exact bodyPost_ret (v := .tuple #[.slice none 0 0, .int .i64 0]) (by simp [results, Tryd.results22, go_sem]) rfl ⟨rfl, ((Below.refl w.heap.size w).alloc (Nat.le_refl _) _).alloc (by simp) _⟩

theorem rd_no {l : List UInt8} {pre : List (List UInt8)} (h : pre <+: prts l) (hb : pre.all okW = false ∨ 4 < pre.length) : rdOk l = false := by
  obtain ⟨r, hr⟩ := h
  unfold rdOk
  rw [← hr, List.all_append, List.length_append]
  rcases hb with hb | hb
  · rw [hb]; rfl
  · rw [decide_eq_false (by omega)]; simp
/-- What Read keeps in memory, word by word. -/
def RI (w : World) (pre : List (List UInt8)) (W : World) : Prop :=
  (∃ v, Boxed W (w.heap.size + 1 + 1) 26 v ∧ W.ownsRow w.heap.size 33 1 v (pre.map wdI).length ((pre.map wdI).map (Value.int .u64)) ∧ (pre.all okW = true ∧ pre.length ≤ 4)) ∧
  (Boxed W w.heap.size 26 (.slice none 0 0) ∧ Boxed W (w.heap.size + 1) 29 (.int .i64 0)) ∧ Below w.heap.size w W
def RX (w : World) (c : Code) (pre : List (List UInt8)) (W : World) : Prop :=
  (c = .ret ∧ (pre.all okW = false ∨ 4 < pre.length)) ∧ (Boxed W w.heap.size 26 (.slice none 0 0) ∧ Boxed W (w.heap.size + 1) 29 (.int .i64 140)) ∧ Below w.heap.size w W
theorem ri_own (w : World) (B : Nat) (hB : w.heap.size ≤ B) : OwnFrom B (RI w) :=
  OwnFrom.and (Own.from (holdsRow_own w.heap.size (w.heap.size + 1 + 1) 26 33 1 (fun pre : List (List UInt8) => (pre.map wdI).length) (fun pre : List (List UInt8) => (pre.map wdI).map (Value.int .u64)) (fun pre _ => pre.all okW = true ∧ pre.length ≤ 4)) _)
    (OwnFrom.and (OwnFrom.and (Own.from (boxed_own w.heap.size 26 (fun _ => Value.slice none 0 0)) _) (Own.from (boxed_own (w.heap.size + 1) 29 (fun _ => Value.int .i64 0)) _)) (ownFrom_below (Nat.le_refl _) hB))
theorem rx_own (w : World) (c : Code) (B : Nat) (hB : w.heap.size ≤ B) : OwnFrom B (RX w c) :=
  OwnFrom.and (ownFrom_pure B (fun pre : List (List UInt8) => c = .ret ∧ (pre.all okW = false ∨ 4 < pre.length)))
    (OwnFrom.and (OwnFrom.and (Own.from (boxed_own w.heap.size 26 (fun _ => Value.slice none 0 0)) _) (Own.from (boxed_own (w.heap.size + 1) 29 (fun _ => Value.int .i64 140)) _)) (ownFrom_below (Nat.le_refl _) hB))

theorem boxed_put {W : World} {B D : Nat} {t : TypeId} {v : Value} {o : Obj} (h : Boxed W B t v) (hl : W.heap[D]? = some o) (ho : o.isCells = false) (o' : Obj) : Boxed (W.putObj D o') B t v :=
  OwnFrom.putObj (Own.from (boxed_own B t (fun _ : Unit => v)) 0) (s := ()) o' h (Nat.zero_le _) hl ho

set_option maxRecDepth 100000 in
set_option maxHeartbeats 2000000 in
theorem read_more (s : ByteArray) (w : World) (hs : s.size < 1152921504606846976) (h : (s.toList == [45]) = false) :
    Calls Tryd.prog 22 #[.string s] w fun e w' => ∃ v, e = .returned (.tuple #[v, .int .i64 (rdN (bL s))]) ∧ w'.ownsRow w.heap.size 33 1 v (rdL (bL s)).length ((rdL (bL s)).map (Value.int .u64)) ∧ Below w.heap.size w w' := by
  refine (callsIn_wide (n := 4)).1 ?_
  refine callsIn_of_wp_marks Tryd.func22 rfl trivial ?_ rfl
  simp only [Tryd.ntmps22, List.size_toArray, List.length_cons, List.length_nil, Nat.reduceAdd, Nat.reduceSub, Array.replicate_succ, Array.replicate_zero, List.push_toArray, List.append_toArray, List.nil_append, List.cons_append]
  have h38 : Fence.wide.fn 38 := trivial
  gi_wp2_with (first | (gi_at_call 38; refine (callsIn_wide.2 (words38 s _)).mono ?_; rintro e w' ⟨rfl, rfl⟩))
  obtain ⟨w4, hw4⟩ : ∃ w4, w4 = ((((w.alloc (.cells #[.slice none 0 0] 26)).alloc (.cells #[.int .i64 0] 29)).alloc (.cells #[.slice none 0 0] 26)).alloc (.cells #[.string s] 9)) := ⟨_, rfl⟩
  rw [← hw4]
  have s4 : w4.heap.size = w.heap.size + 4 := by rw [hw4]; simp
  have hB0 : Below w.heap.size w w4 := by rw [hw4]; exact ((((Below.refl _ w).alloc (Nat.le_refl _) _).alloc (by simp) _).alloc (by simp; omega) _).alloc (by simp; omega) _
  have b1 : Boxed w4 w.heap.size 26 (.slice none 0 0) := by rw [hw4]; exact (((Boxed.new w 26 (.slice none 0 0)).alloc _).alloc _).alloc _
  have b2 : Boxed w4 (w.heap.size + 1) 29 (.int .i64 0) := by
    have := (((Boxed.new (w.alloc (.cells #[.slice none 0 0] 26)) 29 (.int .i64 0)).alloc (.cells #[.slice none 0 0] 26)).alloc (.cells #[.string s] 9)); rw [World.size_alloc] at this; rw [hw4]; exact this
  have b3 : Boxed w4 (w.heap.size + 1 + 1) 26 (.slice none 0 0) := by
    have := ((Boxed.new ((w.alloc (.cells #[.slice none 0 0] 26)).alloc (.cells #[.int .i64 0] 29)) 26 (.slice none 0 0)).alloc (.cells #[.string s] 9)); rw [World.size_alloc, World.size_alloc] at this; rw [hw4]; exact this
  have b4 : w4.cell? ⟨w.heap.size + 1 + 1 + 1, 0, none⟩ = some (.string s) := by rw [hw4]; exact World.cell?_alloc_at _ _ _ _ (by simp)
  clear hw4
  have hst := words_stops 3 (by omega) (w.heap.size + 1 + 1 + 1) w.heap.size s hs w4 (by omega) b4 (by omega)
  have h0 : RI w [] w4 := ⟨⟨_, b3, World.ownsRow_nil _ _ _ _, rfl, by simp⟩, ⟨b1, b2⟩, hB0⟩
  clear b1 b2 b3 b4 hs
  refine wpIn_rangeFunc_ownG rfl (by omega) (gf := 43) (lb := #[.pointer (some ⟨w.heap.size + 1 + 1 + 1, 0, none⟩)]) rfl trivial (enters_of Tryd.func43 (by kernel_rfl) rfl)
    hst belowK_t (belowK_b (by omega)) (Below.refl _ _) (fun _ => rfl)
    (RI w) (RX w) (ri_own w _ (by omega)) (fun c => rx_own w c _ (by omega)) h0
    (fun x => { tmps := #[.string s, undef, .pointer (some ⟨w.heap.size, 0, none⟩), .pointer (some ⟨w.heap.size + 1, 0, none⟩), .pointer (some ⟨w.heap.size + 1 + 1, 0, none⟩), .int .u64 (wordV x), .bool (okW x), .string s, .bool false, .string s, .func (.func 43) #[] #[.pointer (some ⟨w.heap.size + 1 + 1 + 1, 0, none⟩)], .int .u64 (wordV x), .bool (okW x), undef, undef, undef, undef, undef, undef, undef, undef, undef, undef, undef, undef], defers := [] }) ?assign ?body ?done ?stop
  case assign =>
    intro l x W K hK
    gi_wp2
    exact hK
  case body =>
    rintro yl pre x W ⟨⟨v, hv, hrow, hall, hlen⟩, ⟨hr1, hr2⟩, hB⟩ hlt
    obtain ⟨p, c, rfl, _⟩ := irow_owns hrow
    rw [List.length_map] at hrow hv
    have hc := hv.cell
    have hf := hv.frozen
    have c1 := hr1.cell
    have f1 := hr1.frozen
    have c2 := hr2.cell
    have f2 := hr2.frozen
    have n12 : w.heap.size ≠ w.heap.size + 1 := by omega
    by_cases hgo : okW x = true ∧ pre.length < 4
    · obtain ⟨hok, hl4⟩ := hgo
      have hneq : ((pre.length : Int) == 4) = false := by rw [beq_eq_false_iff_ne]; omega
      have HW : Hid ((pre ++ [x]).all okW = true ∧ (pre ++ [x]).length ≤ 4) := ⟨by rw [List.all_append, hall]; simp [hok], by simp; omega⟩
      have CP := fun (t : TypeId) => put35 w.heap.size (.slice p (pre.map wdI).length c) (pre.map wdI) [wdI x] ⟨W.heap.size, 0, none⟩ 1 (W.alloc (.cells #[.int .u64 (wdI x)] t)) (by rw [List.length_map]; exact hrow.alloc _) (fun j u hj => by
        have hj0 : j = 0 := by have := (List.getElem?_eq_some_iff.1 hj).1; simp [cellsI] at this; exact this
        subst hj0
        rw [addr_add, World.cell?_alloc_at _ _ _ _ rfl]
        simpa [cellsI] using hj) (by simp; omega) (by have := hB.size; simp; omega)
      have HRow := hidOg hrow
      have HV := hidOg hv
      have HR1 := hidOg hr1
      have HR2 := hidOg hr2
      have HBl := hidOg hB
      have h35 : Fence.wide.fn 35 := trivial
      rw [List.length_map] at CP
      rw [hok]
      clear hrow hv hr1 hr2 hB hall hok
      gi_wp2_with (first | (gi_at_call 35; refine (callsIn_wide.2 (CP _)).mono ?_; rintro e w1 ⟨v', rfl, hown', hgrow⟩; obtain ⟨p', c', rfl, _⟩ := irow_owns hown'; have HO' := hidOg hown'; have HG' := hidOg hgrow; obtain ⟨hv1, hv2, hrr2, hk2, hb2⟩ := HV.out.appended (by decide) HRow.out HBl.out.size (by omega) hown' hgrow; have hc1 := hv1.cell; have hf1 := hv1.frozen; have HV2 := hidOg hv2; have HRR := hidOg hrr2; have HK2 := hidOg hk2; have HB2 := hidOg hb2; have HV1 := hidOg hv1; clear hown' hgrow hv1 hv2 hrr2 hk2 hb2))
      have e1 : (pre ++ [x]).map wdI = pre.map wdI ++ [wdI x] := by simp
      have e2 : (pre.map wdI ++ [wdI x]).length = pre.length + 1 := by simp
      have q1 := (((HR1.out.alloc (.cells #[.int .u64 (wdI x)] 33)).kept HG'.out (HR1.out.not_row (by decide) HRow.out)).other (B' := w.heap.size + 1 + 1) (by omega) (.slice p' (pre.length + 1) c') : Boxed _ w.heap.size 26 _)
      have q2 := (((HR2.out.alloc (.cells #[.int .u64 (wdI x)] 33)).kept HG'.out (HR2.out.not_row (by decide) HRow.out)).other (B' := w.heap.size + 1 + 1) (by omega) (.slice p' (pre.length + 1) c') : Boxed _ (w.heap.size + 1) 29 _)
      have q3 := HV2.out
      have q4 := HRR.out
      have q5 := HK2.out
      have q6 := HB2.out
      rw [e2] at q3 q4 q5 q6
      refine ⟨q5.from _, q6, ⟨_, q3, ?_, HW.out⟩, ⟨q1, q2⟩, HBl.out.trans q6⟩
      rw [e1, e2]
      exact q4
    · have HBad : Hid ((pre ++ [x]).all okW = false ∨ 4 < (pre ++ [x]).length) := by
        unfold Hid
        cases hok : okW x
        · left; rw [List.all_append]; simp [hok]
        · right; simp; have : ¬ pre.length < 4 := fun h => hgo ⟨hok, h⟩; omega
      cases hok : okW x
      · gi_wp2
        exact ⟨((KeepsOthers.setCell _ _ _).trans (KeepsOthers.setCell _ _ _)).from _, ⟨rfl, HBad.out⟩, ⟨(hr1.set _).other n12 _, (hr2.other (fun e => n12 e.symm) _).set _⟩, (hB.setCell (p := ⟨w.heap.size, 0, none⟩) (by simp) _).setCell (p := ⟨w.heap.size + 1, 0, none⟩) (by simp) _⟩
      · have hl4 : ((pre.length : Int) == 4) = true := by rw [beq_iff_eq]; have : ¬ pre.length < 4 := fun h => hgo ⟨hok, h⟩; omega
        gi_wp2
        exact ⟨((KeepsOthers.setCell _ _ _).trans (KeepsOthers.setCell _ _ _)).from _, ⟨rfl, HBad.out⟩, ⟨(hr1.set _).other n12 _, (hr2.other (fun e => n12 e.symm) _).set _⟩, (hB.setCell (p := ⟨w.heap.size, 0, none⟩) (by simp) _).setCell (p := ⟨w.heap.size + 1, 0, none⟩) (by simp) _⟩
  case done =>
    rintro D ys W hD rfl ⟨⟨v, hv, hrow, hall, hlen⟩, ⟨hr1, hr2⟩, hB⟩ hK
    obtain ⟨p, c, rfl, _⟩ := irow_owns hrow
    have hc := hv.cell
    have c1 := hr1.cell
    have f1 := hr1.frozen
    have c2 := hr2.cell
    have f2 := hr2.frozen
    have hok : rdOk (bL s) = true := by unfold rdOk; rw [hall, decide_eq_true hlen]; rfl
    have HOk := hidOg hok
    clear hok
    gi_wp2
    have n12 : w.heap.size ≠ w.heap.size + 1 := by omega
    have hD' : w.heap.size + 4 ≤ D := by omega
    have q1 : Boxed ((W.setCell ⟨w.heap.size, 0, none⟩ (.slice p (prts (bL s)).length c)).setCell ⟨w.heap.size + 1, 0, none⟩ (.int .i64 0)) w.heap.size 26 (.slice p (prts (bL s)).length c) := (hr1.set _).other n12 _
    have q2 : Boxed ((W.setCell ⟨w.heap.size, 0, none⟩ (.slice p (prts (bL s)).length c)).setCell ⟨w.heap.size + 1, 0, none⟩ (.int .i64 0)) (w.heap.size + 1) 29 (.int .i64 0) := (hr2.other (fun e => n12 e.symm) _).set _
    have q3 : ((W.setCell ⟨w.heap.size, 0, none⟩ (.slice p (prts (bL s)).length c)).setCell ⟨w.heap.size + 1, 0, none⟩ (.int .i64 0)).heap[D]? = some (.deferred (some [])) := by
      rw [Below.heap_setCell _ _ _ D (by simp; omega), Below.heap_setCell _ _ _ D (by simp; omega)]; exact hK
    have q4 := (hrow.kept (grownBy_setCell' W w.heap.size (.slice p (prts (bL s)).length c)) (.inr (hr1.not_row (by decide) hrow).symm))
    have q5 := q4.kept (grownBy_setCell' _ (w.heap.size + 1) (.int .i64 0)) (.inr ((hr2.other (fun e => n12 e.symm) _).not_row (by decide) q4).symm)
    have q6 := (hB.setCell (p := ⟨w.heap.size, 0, none⟩) (by simp) (.slice p (prts (bL s)).length c)).setCell (p := ⟨w.heap.size + 1, 0, none⟩) (by simp) (.int .i64 0)
    generalize ((W.setCell ⟨w.heap.size, 0, none⟩ (.slice p (prts (bL s)).length c)).setCell ⟨w.heap.size + 1, 0, none⟩ (.int .i64 0)) = W2 at q1 q2 q3 q5 q6 ⊢
    refine ⟨by simp, .inl ⟨_, _, rfl, run_takeDeferred q3, ?_⟩⟩
    have g1 := fun o' => (boxed_put q1 q3 rfl o').cell
    have g2 := fun o' => (boxed_put q2 q3 rfl o').cell
    refine ⟨.tuple #[.slice p (prts (bL s)).length c, .int .i64 0], by simp [results, Tryd.results22, go_sem, g1, g2], _, by rw [rdN_t HOk.out], ?_, q6.trans (belowK_b (w := w) (Nat.le_refl _) W2 D _ _ (by omega) q3 rfl rfl)⟩
    rw [rdL_t HOk.out]
    rw [List.length_map] at q5 ⊢
    exact ownsRow_putObj q5 _ q3 rfl
  case stop =>
    rintro D c pre W hD hpre ⟨⟨rfl, hbad⟩, ⟨hr1, hr2⟩, hB⟩ hK
    have hok : rdOk (bL s) = false := rd_no hpre hbad
    have c1 := hr1.cell
    have c2 := hr2.cell
    have HOk := hidOg hok
    clear hok
    gi_wp2
    have hD' : w.heap.size + 4 ≤ D := by omega
    refine ⟨by simp, .inl ⟨_, _, rfl, run_takeDeferred hK, ?_⟩⟩
    have g1 := fun o' => (boxed_put hr1 hK rfl o').cell
    have g2 := fun o' => (boxed_put hr2 hK rfl o').cell
    refine ⟨.tuple #[.slice none 0 0, .int .i64 140], by simp [results, Tryd.results22, go_sem, g1, g2], _, by rw [rdN_f HOk.out], ?_, hB.trans (belowK_b (w := w) (Nat.le_refl _) W D _ _ (by omega) hK rfl rfl)⟩
    rw [rdL_f HOk.out]
    exact World.ownsRow_nil _ _ _ _

/-- Read. -/
theorem read22 (s : ByteArray) (w : World) (hs : s.size < 1152921504606846976) :
    Calls Tryd.prog 22 #[.string s] w fun e w' => ∃ p c, e = .returned (.tuple #[.slice p (rdV (bL s)).length c, .int .i64 (rdE (bL s))]) ∧ OwnR w.heap.size w' p (rdV (bL s)) c ∧ Below w.heap.size w w' := by
  have e0 : (bL s == [45]) = (s.toList == [45]) := by unfold bL; rw [Lib.toList_data]
  cases h : (s.toList == [45])
  · rw [h] at e0
    have e1 : rdV (bL s) = rdL (bL s) := by unfold rdV; rw [e0]; rfl
    have e2 : rdE (bL s) = rdN (bL s) := by unfold rdE; rw [e0]; rfl
    rw [e1, e2]
    refine Calls.mono (read_more s w hs h) ?_
    rintro e w' ⟨v, rfl, ho, hb⟩
    obtain ⟨p, c, rfl, _⟩ := irow_owns ho
    refine ⟨p, c, rfl, ⟨ho, ?_⟩, hb⟩
    cases hk : rdOk (bL s)
    · rw [rdL_f hk]; simp
    · rw [rdL_t hk, List.length_map]
      unfold rdOk at hk
      simp only [Bool.and_eq_true, decide_eq_true_eq] at hk
      omega
  · rw [h] at e0
    have e1 : rdV (bL s) = [] := by unfold rdV; rw [e0]; rfl
    have e2 : rdE (bL s) = 0 := by unfold rdE; rw [e0]; rfl
    rw [e1, e2]
    refine Calls.mono (read_dash s w h) ?_
    rintro e w' ⟨rfl, hb⟩
    exact ⟨none, 0, rfl, OwnR.nil _ _, hb⟩
theorem rdV_u (l : List UInt8) : U64 (rdV l) := by
  intro x hx
  unfold rdV at hx
  split at hx
  · simp at hx
  · unfold rdL at hx
    split at hx
    · simp at hx
      obtain ⟨a, _, rfl⟩ := hx
      have := wordV_lt a
      unfold wdI; omega
    · simp at hx
end Go.Proofs.YtofobpijkceldaaDoor
