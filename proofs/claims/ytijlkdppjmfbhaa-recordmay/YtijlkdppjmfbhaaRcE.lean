/- hasAbove. -/
import Derived.Test.YtijlkdppjmfbhaaRcC
import Derived.Sort.CutIn
namespace Go.Proofs.Ytijlkdppjmfbhaa
open Go.RowKit Go.Shelf
attribute [local go_sem] Oper.semAt_some

def AbQ (l : List Sp) (t r : Int) (k : Nat) : Prop := (sG l k).1 = t ∧ r < (sG l k).2
instance (l : List Sp) (t r : Int) (k : Nat) : Decidable (AbQ l t r k) := inferInstanceAs (Decidable ((sG l k).1 = t ∧ r < (sG l k).2))
/-- Does somebody stand in that table above that row? -/
def abB (l : List Sp) (t r : Int) : Bool := decide (∃ k ∈ plN l l.length, AbQ l t r k)
def HaI (S : Nat) (w4 : World) (l : List Sp) (t r : Int) (pre : List Nat) (W : World) : Prop :=
  Boxed W S 4 (.bool false) ∧ (∀ y ∈ pre, ¬ AbQ l t r (yM y)) ∧ Below S w4 W
def HaX (S : Nat) (w4 : World) (l : List Sp) (t r : Int) (c : Code) (pre : List Nat) (W : World) : Prop :=
  Boxed W S 4 (.bool true) ∧ (c = .ret ∧ ∃ y ∈ pre, AbQ l t r (yM y)) ∧ Below S w4 W
theorem hai_own (S : Nat) (w4 : World) (l : List Sp) (t r : Int) (B : Nat) (h1 : S ≤ w4.heap.size) (h2 : S ≤ B) : OwnFrom B (HaI S w4 l t r) :=
  OwnFrom.and (Own.from (boxed_own S 4 (fun _ => Value.bool false)) _) (OwnFrom.and (ownFrom_pure B (fun pre : List Nat => ∀ y ∈ pre, ¬ AbQ l t r (yM y))) (ownFrom_below h1 h2))
theorem hax_own (S : Nat) (w4 : World) (l : List Sp) (t r : Int) (c : Code) (B : Nat) (h1 : S ≤ w4.heap.size) (h2 : S ≤ B) : OwnFrom B (HaX S w4 l t r c) :=
  OwnFrom.and (Own.from (boxed_own S 4 (fun _ => Value.bool true)) _) (OwnFrom.and (ownFrom_pure B (fun pre : List Nat => c = .ret ∧ ∃ y ∈ pre, AbQ l t r (yM y))) (ownFrom_below h1 h2))
theorem boxed_put {W : World} {B D : Nat} {t : TypeId} {v : Value} {o : Obj} (h : Boxed W B t v) (hl : W.heap[D]? = some o) (ho : o.isCells = false) (o' : Obj) : Boxed (W.putObj D o') B t v :=
  OwnFrom.putObj (Own.from (boxed_own B t (fun _ : Unit => v)) 0) (s := ()) o' h (Nat.zero_le _) hl ho
theorem plN_yM {l : List Sp} {k : Nat} (h : k ≤ 1099511627776) {x : Nat} (hx : x ∈ plN l k) : yM x = x := by
  unfold plN at hx
  have := List.mem_range.1 (List.mem_filter.1 hx).1
  exact yM_eq (by omega)
theorem plN_mono {l : List Sp} {k m : Nat} (h : k ≤ m) {x : Nat} (hx : x ∈ plN l k) : x ∈ plN l m := by
  unfold plN at hx ⊢
  obtain ⟨h1, h2⟩ := List.mem_filter.1 hx
  exact List.mem_filter.2 ⟨List.mem_range.2 (Nat.lt_of_lt_of_le (List.mem_range.1 h1) h), h2⟩
set_option maxRecDepth 100000 in
set_option maxHeartbeats 4000000 in
theorem hasAbove52 (p : Option Addr) (l : List Sp) (c : Nat) (t r : Int) (w : World) (hE : SRow w.heap.size w p l) (hl : l.length ≤ 1099511627776) :
    Calls Try.prog 52 #[.agg #[.slice p l.length c], .int .i64 t, .int .i64 r] w fun e w' => e = .returned (.bool (abB l t r)) ∧ Below w.heap.size w w' := by
  refine (callsIn_wide (n := 4)).1 ?_
  refine callsIn_of_wp_marks Try.func52 rfl trivial ?_ rfl
  simp only [Try.ntmps52, List.size_toArray, List.length_cons, List.length_nil, Nat.reduceAdd, Nat.reduceSub, Array.replicate_succ, Array.replicate_zero, List.push_toArray, List.append_toArray, List.nil_append, List.cons_append]
  have h55 : Fence.wide.fn 55 := trivial
  have CR := fun (Z : World) => placed55 p l.length c Z
  gi_wp2_with (first | (gi_at_call 55; refine (callsIn_wide.2 (CR _)).mono ?_; rintro e w1 ⟨rfl, hw⟩; rw [hw]; clear hw w1))
  obtain ⟨w5, hw5⟩ : ∃ w5, w5 = (((((w.alloc (.cells #[.slice p l.length c] 24)).alloc (.cells #[.int .i64 t] 3)).alloc (.cells #[.int .i64 r] 3)).alloc (.cells #[.bool false] 4)).alloc (.cells #[.slice p l.length c] 24)) := ⟨_, rfl⟩
  rw [← hw5]
  obtain ⟨h1, h2, h3, h4, h5⟩ := al5 w (.cells #[.slice p l.length c] 24) (.cells #[.int .i64 t] 3) (.cells #[.int .i64 r] 3) (.cells #[.bool false] 4) (.cells #[.slice p l.length c] 24)
  rw [← hw5] at h1 h2 h3 h4 h5
  have s5 : w5.heap.size = w.heap.size + 5 := by rw [hw5]; simp
  have B5 : Below w.heap.size w w5 := by rw [hw5]; exact (((((Below.refl _ w).alloc (Nat.le_refl _) _).alloc (by simp) _).alloc (by simp; omega) _).alloc (by simp; omega) _).alloc (by simp; omega) _
  have h0 : HaI (w.heap.size + 1 + 1 + 1) w5 l t r [] w5 := ⟨h4, (fun y hy => by cases hy), Below.refl _ _⟩
  have hst := placed_stops 3 (by omega) (w.heap.size + 1 + 1 + 1 + 1) (w.heap.size + 1 + 1 + 1) p l c w5 ((hE.below B5 (Nat.le_refl _)).mono (by omega)) hl (by omega) h5
  have c1 : w5.cell? ⟨w.heap.size + 1, 0, none⟩ = some (.int .i64 t) := cell1_heap h2
  have c2 : w5.cell? ⟨w.heap.size + 1 + 1, 0, none⟩ = some (.int .i64 r) := cell1_heap h3
  clear hw5 h1 h2 h3 h4 h5 CR hE
  refine wpIn_rangeFunc_ownH rfl (by omega) (gf := 59) (lb := #[.pointer (some ⟨w.heap.size + 1 + 1 + 1 + 1, 0, none⟩)]) rfl trivial (enters_of Try.func59 (by kernel_rfl) rfl)
    hst (fun h k => h.trans k) (ke_b (by omega) (by omega)) (Below.refl _ _) (fun _ => rfl)
    (HaI (w.heap.size + 1 + 1 + 1) w5 l t r) (HaX (w.heap.size + 1 + 1 + 1) w5 l t r) (hai_own (w.heap.size + 1 + 1 + 1) w5 l t r _ (by omega) (by omega)) (fun c => hax_own (w.heap.size + 1 + 1 + 1) w5 l t r c _ (by omega) (by omega)) h0
    (fun x a' W => ∃ B, w5.heap.size ≤ B ∧ W.heap[B]? = some (.cells #[.int .i64 (sG l (yM x)).1, .int .i64 (sG l (yM x)).2] 34) ∧ a' = { tmps := #[.agg #[.slice p l.length c], .int .i64 t, .int .i64 r, .pointer (some ⟨w.heap.size, 0, none⟩), .pointer (some ⟨w.heap.size + 1, 0, none⟩), .pointer (some ⟨w.heap.size + 1 + 1, 0, none⟩), .pointer (some ⟨w.heap.size + 1 + 1 + 1, 0, none⟩), undef, .pointer (some ⟨B, 0, none⟩), .agg #[.slice p l.length c], .func (.func 59) #[] #[.pointer (some ⟨w.heap.size + 1 + 1 + 1 + 1, 0, none⟩)], .int .i64 ((yM x : Int) + 1), .agg #[.int .i64 (sG l (yM x)).1, .int .i64 (sG l (yM x)).2], undef, undef, undef, undef, undef, undef, undef, undef, undef, undef], defers := [] })
    (fun x a' => own_kc fun _ W W' k ⟨B, hB, hc, ha⟩ => ⟨B, hB, k.same B _ hc rfl, ha⟩) ?assign ?body ?done ?stop
  case assign =>
    intro yl pre x W K hI hK
    have KK := hidOg hK
    have HI := hidOg hI
    clear hI hK hst h0
    gi_wp2
    have hb := bal W (.cells #[.int .i64 (sG l (yM x)).1, .int .i64 (sG l (yM x)).2] 34)
    have hsz : w5.heap.size ≤ W.heap.size := HI.out.2.2.size
    refine KK.out _ _ ((KeepsOthers.alloc _ _).from _) ⟨hb.mono (by omega), hb.block _ (by omega)⟩ ?_ ⟨W.heap.size, hsz, blk1, rfl⟩
    exact (hai_own (w.heap.size + 1 + 1 + 1) w5 l t r w5.heap.size (by omega) (by omega)).alloc _ HI.out
  case body =>
    rintro yl pre x a' W hlw _ ⟨ba, hq, hBw⟩ ⟨B, hB5, hB, rfl⟩ hlt
    obtain ⟨cb0, cb1, _⟩ := cell2_heap hB
    have ca := ba.cell
    have fa := ba.frozen
    have k1 := (hBw.cell (p := ⟨w.heap.size + 1, 0, none⟩) (by simp)).trans c1
    have k2 := (hBw.cell (p := ⟨w.heap.size + 1 + 1, 0, none⟩) (by simp)).trans c2
    have HAQ := hidOg (show AbQ l t r (yM x) ↔ (sG l (yM x)).1 = t ∧ r < (sG l (yM x)).2 from Iff.rfl)
    obtain ⟨a, ha⟩ : ∃ a, a = (sG l (yM x)).1 := ⟨_, rfl⟩
    obtain ⟨d, hd⟩ : ∃ d, d = (sG l (yM x)).2 := ⟨_, rfl⟩
    rw [← ha, ← hd] at HAQ
    rw [← ha] at cb0
    rw [← hd] at cb1
    rw [← ha, ← hd]
    have HBA := hidOg ba
    have HQ := hidOg hq
    have HBw := hidOg hBw
    clear ha hd hq hBw ba hst h0 c1 c2
    by_cases he : a = t
    · have hda : (a == t) = true := by simp [he]
      by_cases hr : r < d
      · have hdd : decide (r < d) = true := decide_eq_true hr
        have HE := hidOg (HAQ.out.2 ⟨he, hr⟩)
        clear he hr
        gi_wp2
        exact ⟨(KeepsOthers.setCell _ _ _).from _, HBA.out.set _, ⟨rfl, x, by simp, HE.out⟩, HBw.out.setCell (p := ⟨w.heap.size + 1 + 1 + 1, 0, none⟩) (Nat.le_refl _) _⟩
      · have hdd : decide (r < d) = false := decide_eq_false hr
        have HE := hidOg (fun h => hr (HAQ.out.1 h).2)
        clear he hr
        gi_wp2
        refine ⟨KeepsFrom.refl _ _, Ke.refl _ _ _, HBA.out, fun y hy => ?_, HBw.out⟩
        rcases List.mem_append.1 hy with h | h
        · exact HQ.out y h
        · rw [List.mem_singleton.1 h]; exact HE.out
    · have hda : (a == t) = false := by simpa using he
      have HE := hidOg (fun h => he (HAQ.out.1 h).1)
      clear he
      gi_wp2
      refine ⟨KeepsFrom.refl _ _, Ke.refl _ _ _, HBA.out, fun y hy => ?_, HBw.out⟩
      rcases List.mem_append.1 hy with h | h
      · exact HQ.out y h
      · rw [List.mem_singleton.1 h]; exact HE.out
  case done =>
    rintro D xs W hD rfl ⟨ba, hq, hBw⟩ hK
    have E : Hid (abB l t r = false) := decide_eq_false fun ⟨k, hk, e⟩ => hq k hk (by rw [plN_yM hl hk]; exact e)
    have ca := ba.cell
    have fa := ba.frozen
    have HK := hidOg hK
    have HBw := hidOg hBw
    have HBA := hidOg ba
    clear hK hBw hq ba hst h0
    gi_wp2
    have q1 := Boxed.set (.bool false) HBA.out
    have q3 : (W.setCell ⟨w.heap.size + 1 + 1 + 1, 0, none⟩ (.bool false)).heap[D]? = some (.deferred (some [])) := by
      rw [Below.heap_setCell _ _ _ D (by simp; omega)]; exact HK.out
    have q6 : Below w.heap.size w (W.setCell ⟨w.heap.size + 1 + 1 + 1, 0, none⟩ (.bool false)) := B5.trans ((HBw.out.setCell (p := ⟨w.heap.size + 1 + 1 + 1, 0, none⟩) (Nat.le_refl _) _).mono (by omega))
    refine ⟨by simp, .inl ⟨_, _, rfl, run_takeDeferred q3, ?_⟩⟩
    have g1 := fun o' => (boxed_put q1 q3 rfl o').cell
    exact ⟨.bool false, by simp [results, Try.results52, go_sem, g1], by rw [E.out], q6.trans (belowK_b (w := w) (Nat.le_refl _) _ D _ _ (by omega) q3 rfl rfl)⟩
  case stop =>
    rintro D cc pre W hD ⟨k, hk, rfl⟩ ⟨ba, ⟨rfl, y, hy, he⟩, hBw⟩ hK
    have E : Hid (abB l t r = true) := decide_eq_true ⟨y, plN_mono hk hy, by rw [plN_yM (by omega) hy] at he; exact he⟩
    have HK := hidOg hK
    have HBw := hidOg hBw
    have HBA := hidOg ba
    clear hK hBw ba hst h0 hy he
    gi_wp2
    have q6 : Below w.heap.size w W := B5.trans (HBw.out.mono (by omega))
    refine ⟨by simp, .inl ⟨_, _, rfl, run_takeDeferred HK.out, ?_⟩⟩
    have g1 := fun o' => (boxed_put HBA.out HK.out rfl o').cell
    exact ⟨.bool true, by simp [results, Try.results52, go_sem, g1], by rw [E.out], q6.trans (belowK_b (w := w) (Nat.le_refl _) _ D _ _ (by omega) HK.out rfl rfl)⟩
end Go.Proofs.Ytijlkdppjmfbhaa
