/- whoStands. -/
import Derived.Test.YtijlkdppjmfbhaaRcM
import Derived.Sort.CutIn
namespace Go.Proofs.Ytijlkdppjmfbhaa
open Go.RowKit Go.Shelf Go.Maps
attribute [local go_sem] Oper.semAt_some

/-- Are those places of somebody, no two the same? -/
def GoodQ (l : List Sp) (pre : List Nat) : Prop := (∀ y ∈ pre, plB (sG l y) = true) ∧ pre.Pairwise fun a b => sG l a ≠ sG l b
instance (l : List Sp) (pre : List Nat) : Decidable (GoodQ l pre) := inferInstanceAs (Decidable ((∀ y ∈ pre, plB (sG l y) = true) ∧ pre.Pairwise fun a b => sG l a ≠ sG l b))
/-- May records be? -/
def mayS (l : List Sp) : Bool := decide (l.length ≤ 1048578) && ((l.length == 0 || !decide (sG l (l.length - 1) = (0, 0))) && decide (GoodQ l (plN l l.length)))
/-- Who stands there, of those at these places. -/
def whF (l : List Sp) (pre : List Nat) (s : Sp) : Int := match pre.find? (fun k => decide (sG l k = s)) with
  | some k => (k : Int) + 1
  | none => 0
theorem GoodQ.nil (l : List Sp) : GoodQ l [] := ⟨fun y h => (by cases h), List.Pairwise.nil⟩
theorem whF_0 {l : List Sp} {pre : List Nat} {s : Sp} : whF l pre s = 0 ↔ ∀ y ∈ pre, sG l y ≠ s := by
  unfold whF
  cases h : pre.find? (fun k => decide (sG l k = s)) with
  | none => simpa using List.find?_eq_none.1 h
  | some k =>
    have h1 := List.find?_some h
    have h2 := List.mem_of_find?_eq_some h
    constructor
    · intro e; simp only at e; omega
    · intro e; exact absurd (by simpa using h1) (e k h2)
theorem GoodQ.snoc {l : List Sp} {pre : List Nat} {x : Nat} : GoodQ l (pre ++ [x]) ↔ GoodQ l pre ∧ plB (sG l x) = true ∧ whF l pre (sG l x) = 0 := by
  rw [whF_0]
  unfold GoodQ
  rw [List.pairwise_append]
  constructor
  · rintro ⟨h1, h2, _, h4⟩
    exact ⟨⟨fun y hy => h1 y (List.mem_append_left _ hy), h2⟩, h1 x (by simp), fun y hy => h4 y hy x (by simp)⟩
  · rintro ⟨⟨h1, h2⟩, h3, h4⟩
    refine ⟨fun y hy => ?_, h2, by simp, fun a ha b hb => ?_⟩
    · rcases List.mem_append.1 hy with hy | hy
      · exact h1 y hy
      · rw [List.mem_singleton.1 hy]; exact h3
    · rw [List.mem_singleton.1 hb]; exact h4 a ha
theorem whF_snoc {l : List Sp} {pre : List Nat} {x : Nat} (h : whF l pre (sG l x) = 0) : uP (whF l pre) (sG l x) ((x : Int) + 1) = whF l (pre ++ [x]) := by
  funext t
  unfold uP
  by_cases e : t = sG l x
  · rw [if_pos e, e]
    have h0 : pre.find? (fun k => decide (sG l k = sG l x)) = none := List.find?_eq_none.2 (by simpa using whF_0.1 h)
    unfold whF
    rw [List.find?_append, h0]
    simp
  · rw [if_neg e]
    have e' : ¬ sG l x = t := fun h => e h.symm
    unfold whF
    rw [List.find?_append]
    cases pre.find? (fun k => decide (sG l k = t)) <;> simp [e']
theorem plN_pre {l : List Sp} {k m : Nat} (h : k ≤ m) : ∃ r, plN l m = plN l k ++ r := by
  induction m with
  | zero => obtain rfl : k = 0 := by omega
            exact ⟨[], by simp⟩
  | succ m ih =>
    by_cases e : k = m + 1
    · exact ⟨[], by rw [e]; simp⟩
    · obtain ⟨r, hr⟩ := ih (by omega)
      by_cases hz : sG l m = (0, 0)
      · exact ⟨r, by rw [plN_f hz, hr]⟩
      · exact ⟨r ++ [m], by rw [plN_t hz, hr, List.append_assoc]⟩
theorem GoodQ.left {l : List Sp} {a b : List Nat} (h : GoodQ l (a ++ b)) : GoodQ l a :=
  ⟨fun y hy => h.1 y (List.mem_append_left _ hy), (List.pairwise_append.1 h.2).1⟩
theorem plN_y {l : List Sp} {k : Nat} (h : k ≤ 1099511627776) : (plN l k).map yM = plN l k := by
  have : ∀ x ∈ plN l k, yM x = x := fun x hx => by
    unfold plN at hx
    have := List.mem_range.1 (List.mem_filter.1 hx).1
    exact yM_eq (by omega)
  conv => rhs; rw [← List.map_id (plN l k)]
  exact List.map_congr_left this
/-- What lies in memory while spots are gone through: S: the number's box, S + 1 the map, S + 2 its box. -/
def WhI (S : Nat) (w4 : World) (l : List Sp) (pre : List Nat) (W : World) : Prop :=
  ((Boxed W S 3 (.int .i64 (pre.length : Int)) ∧ Boxed W (S + 1 + 1) 59 (.map (some (S + 1)))) ∧ (MapS W (S + 1) pre.length pre.length (whF l (pre.map yM)) ∧ GoodQ l (pre.map yM))) ∧ Below S w4 W
def WhX (S : Nat) (w4 : World) (l : List Sp) (c : Code) (pre : List Nat) (W : World) : Prop :=
  ((Boxed W S 3 (.int .i64 ((pre.length : Int) - 1)) ∧ Boxed W (S + 1 + 1) 59 (.map (some (S + 1)))) ∧ (c = .exit 0 ∧ 0 < pre.length ∧ ¬ GoodQ l (pre.map yM))) ∧ Below S w4 W
theorem mapS_own (S : Nat) (l : List Sp) (B : Nat) (hB : S + 1 < B) : OwnFrom B (fun (pre : List Nat) W => MapS W (S + 1) pre.length pre.length (whF l (pre.map yM)) ∧ GoodQ l (pre.map yM)) := fun s W W' row hs hg hr =>
  ⟨hs.1.at (hg.block (S + 1) hs.1.is.lt (fun e => by have := (hr (S + 1) e.symm).1; omega)), hs.2⟩
theorem whi_own (S : Nat) (w4 : World) (l : List Sp) (B : Nat) (h1 : S ≤ w4.heap.size) (h2 : S + 1 < B) : OwnFrom B (WhI S w4 l) :=
  OwnFrom.and (OwnFrom.and (OwnFrom.and (Own.from (boxed_own S 3 (fun pre : List Nat => Value.int .i64 (pre.length : Int))) _) (Own.from (boxed_own (S + 1 + 1) 59 (fun _ => Value.map (some (S + 1)))) _))
    (mapS_own S l B h2)) (ownFrom_below h1 (by omega))
theorem whx_own (S : Nat) (w4 : World) (l : List Sp) (c : Code) (B : Nat) (h1 : S ≤ w4.heap.size) (h2 : S + 1 < B) : OwnFrom B (WhX S w4 l c) :=
  OwnFrom.and (OwnFrom.and (OwnFrom.and (Own.from (boxed_own S 3 (fun pre : List Nat => Value.int .i64 ((pre.length : Int) - 1))) _) (Own.from (boxed_own (S + 1 + 1) 59 (fun _ => Value.map (some (S + 1)))) _))
    (ownFrom_pure B (fun pre : List Nat => c = .exit 0 ∧ 0 < pre.length ∧ ¬ GoodQ l (pre.map yM)))) (ownFrom_below h1 (by omega))
theorem run_makeMapH (n : Int) (w : World) : (Instr.makeMap 59 (some (.int .i64 n))).run Try.prog w = .ok (.map (some w.heap.size)) (w.alloc (.map #[] 0)) := by
  simp [Instr.makeMap, run_underlying Try.underlying59, asInt, asIntOf, Result.andThen]
/-- What whoStands answers. -/
def AnsW (l : List Sp) (w : World) (e : Ending) (w' : World) : Prop := ∃ m, e = .returned (.tuple #[m, .bool (mayS l)]) ∧ (mayS l = true → ∃ b n, m = .map (some b) ∧ MapS w' b n n (whF l (plN l l.length)) ∧ w.heap.size ≤ b) ∧ Below w.heap.size w w'
set_option maxRecDepth 100000 in
set_option maxHeartbeats 4000000 in
theorem who_go (p : Option Addr) (l : List Sp) (c : Nat) (w : World) (hE : SRow w.heap.size w p l) (hw : wfL l) (hl : l.length ≤ 1048578) (h1 : l.length = 0 ∨ ¬ sG l (l.length - 1) = (0, 0)) :
    Calls Try.prog 33 #[.agg #[.slice p l.length c]] w fun e w' => AnsW l w e w' := by
  refine (callsIn_wide (n := 4)).1 ?_
  refine callsIn_of_wp_marks Try.func33 rfl trivial ?_ rfl
  simp only [Try.ntmps33, List.size_toArray, List.length_cons, List.length_nil, Nat.reduceAdd, Nat.reduceSub, Array.replicate_succ, Array.replicate_zero, List.push_toArray, List.append_toArray, List.nil_append, List.cons_append]
  have h55 : Fence.wide.fn 55 := trivial
  have h54 : Fence.wide.fn 54 := trivial
  have h45 : Fence.wide.fn 45 := trivial
  have hmm := fun (n : Int) (w : World) => run_makeMapH n w
  have CR := fun (Z : World) => placed55 p l.length c Z
  have CC := count54 p l c (w.alloc (.cells #[.slice p l.length c] 24)) (hE.to (bal _ _)) (by omega)
  obtain ⟨m, hm⟩ : ∃ m, m = l.length := ⟨_, rfl⟩
  rw [← hm] at CC CR hl h1 ⊢
  have HM := hidOg hm
  have HEE := hidOg hE
  have HW := hidOg hw
  clear hm hE hw
  gi_wp2
  apply wpIn_scope_straight
  gi_upto_region 2 with (fail)
  gi_cut [28] from 13 (fun s wx => s = .bool false ∧ wx = w.alloc (.cells #[.slice p m c] 24))
  case first =>
    by_cases h0 : m = 0
    · subst h0
      gi_wp2
      gi_meet
      case rel => exact ⟨rfl, rfl⟩
    · obtain ⟨n, rfl⟩ : ∃ n, m = n + 1 := ⟨m - 1, by omega⟩
      obtain ⟨b, off, rfl, hbN, hcs⟩ := HEE.out (by rw [← HM.out]; omega)
      obtain ⟨c0, c1⟩ := hcs n (by rw [← HM.out]; omega)
      have hlast : ¬ sG l n = (0, 0) := by
        rcases h1 with h | h
        · exact absurd h h0
        · exact h
      obtain ⟨⟨a, d⟩, hs⟩ : ∃ s, s = sG l n := ⟨_, rfl⟩
      rw [← hs] at c0 c1 hlast
      have e0 := ((bal w (.cells #[.slice (some ⟨b, off, none⟩) (n + 1) c] 24)).cell (p := ⟨b, off + n * 2, none⟩) hbN).trans c0
      have e1 := ((bal w (.cells #[.slice (some ⟨b, off, none⟩) (n + 1) c] 24)).cell (p := ⟨b, off + n * 2 + 1, none⟩) hbN).trans c1
      have d1 : decide ((1048578 : Int) < (n : Int) + 1) = false := by simp; omega
      have d2 : decide ((0 : Int) < (n : Int) + 1) = true := decide_eq_true (by omega)
      have d3 : (n : Int) ≤ 1048577 := by omega
      clear hcs CC CR h1 hl h0
      by_cases ha : a = 0
      · subst ha
        have hd3 : ¬ d = 0 := fun h => hlast (by rw [h])
        have hd4 : (d == 0) = false := by simpa using hd3
        gi_wp2
        gi_meet
        case rel => exact ⟨rfl, rfl⟩
      · have hd4 : (a == 0) = false := by simpa using ha
        gi_wp2
        gi_meet
        case rel => exact ⟨rfl, rfl⟩
  case rest =>
    obtain ⟨rfl, rfl⟩ := hcut
    gi_wp2_with (first
      | (gi_at_call 54; refine (callsIn_wide.2 CC).mono ?_; rintro e w1 ⟨rfl, hb1⟩; have HB1 := hidOg hb1; have hs1 : w.heap.size < w1.heap.size := (by have := hb1.size; simp at this; omega); have z1 : w1.cell? ⟨w.heap.size, 0, none⟩ = some (.slice p m c) := cell1_heap ((hb1.block w.heap.size (by simp)).trans blk1); clear hb1))
    apply wpIn_label
    obtain ⟨w3, hw3⟩ : ∃ w3, w3 = (((w1.alloc (.cells #[.int .i64 0] 3)).alloc (.map #[] 0)).alloc (.cells #[.map (some (w1.heap.size + 1))] 59)) := ⟨_, rfl⟩
    rw [← hw3]
    obtain ⟨h1, h2, h3⟩ := al3 (w := w1) (o1 := .cells #[.int .i64 0] 3) (o2 := .map #[] 0) (o3 := .cells #[.map (some (w1.heap.size + 1))] 59)
    rw [← hw3] at h1 h2 h3
    have s3 : w3.heap.size = w1.heap.size + 3 := by rw [hw3]; simp
    have B3 : Below w1.heap.size w1 w3 := by rw [hw3]; exact (((Below.refl _ w1).alloc (Nat.le_refl _) _).alloc (by simp) _).alloc (by simp; omega) _
    have z3 : w3.cell? ⟨w.heap.size, 0, none⟩ = some (.slice p m c) := (B3.cell (p := ⟨w.heap.size, 0, none⟩) hs1).trans z1
    have HM0 : MapS w3 (w1.heap.size + 1) 0 0 (whF l ([].map yM)) := by
      have hm0 := mapS_new (w1.alloc (.cells #[.int .i64 0] 3))
      rw [World.size_alloc] at hm0
      refine hm0.at ?_
      rw [h2]
      have := heap_alloc_new (w1.alloc (.cells #[.int .i64 0] 3)) (.map #[] 0)
      rw [World.size_alloc] at this
      exact this.symm
    clear hw3
    have HB3 := hidOg B3
    gi_wp2_with (first
      | (gi_at_call 55; refine (callsIn_wide.2 (CR _)).mono ?_; rintro e w2 ⟨rfl, hw⟩; rw [hw]; clear hw w2))
    obtain ⟨w4, hw4⟩ : ∃ w4, w4 = w3.alloc (.cells #[.slice p m c] 24) := ⟨_, rfl⟩
    rw [← hw4]
    have h4 : w4.heap[w1.heap.size + 1 + 1 + 1]? = some (.cells #[.slice p m c] 24) := by rw [hw4]; exact blkS (by rw [s3])
    have B34 : Below w3.heap.size w3 w4 := by rw [hw4]; exact bal _ _
    have s4 : w4.heap.size = w1.heap.size + 4 := by rw [hw4]; simp [s3]
    have BW4 : Below w.heap.size w w4 := (((bal w _).trans (HB1.out.mono (bal w _).size)).trans (HB3.out.mono (by omega))).trans (B34.mono (by omega))
    have h0 : WhI w1.heap.size w4 l [] w4 := ⟨⟨⟨atW B34 h1, atW B34 h3⟩, HM0.to B34, GoodQ.nil l⟩, Below.refl _ _⟩
    have hsrow := ((HEE.out.below BW4 (Nat.le_refl _)).mono (show w.heap.size ≤ w1.heap.size by omega))
    have hst := placed_stops 3 (by omega) (w1.heap.size + 1 + 1 + 1) w1.heap.size p l c w4 hsrow (by rw [← HM.out]; omega) (by omega) (by rw [← HM.out]; exact h4)
    have HWf := hidOg HW.out.at
    have HS4 := hidOg s4
    have HBW4 := hidOg BW4
    clear hw4 h1 h2 h3 h4 HM0 CR CC hmm z3 z1 s3 B3 B34 BW4 hsrow
    refine wpIn_rangeFunc_ownH rfl (by omega) (gf := 59) (lb := #[.pointer (some ⟨w1.heap.size + 1 + 1 + 1, 0, none⟩)]) rfl trivial (enters_of Try.func59 (by kernel_rfl) rfl)
      hst (fun h k => h.trans k) (ke_b (by omega) (by omega)) (Below.refl _ _) (fun _ => rfl)
      (WhI w1.heap.size w4 l) (WhX w1.heap.size w4 l) (whi_own w1.heap.size w4 l _ (by omega) (by omega)) (fun c => whx_own w1.heap.size w4 l c _ (by omega) (by omega)) h0
      (fun x a' W => ∃ B, w4.heap.size ≤ B ∧ W.heap[B]? = some (.cells #[.int .i64 (sG l (yM x)).1, .int .i64 (sG l (yM x)).2] 34) ∧ a' = { tmps := #[.agg #[.slice p m c], .pointer (some ⟨w.heap.size, 0, none⟩), .map none, .bool false, .int .i64 m, .int .i64 (plN l m).length, .pointer (some ⟨w1.heap.size, 0, none⟩), .pointer (some ⟨w1.heap.size + 1 + 1, 0, none⟩), .int .i64 ((yM x : Int) + 1), .pointer (some ⟨B, 0, none⟩), .pointer (some ⟨w.heap.size, 0, none⟩), .slice p m c, .int .i64 m, u13, u14, u15, u16, u17, u18, u19, u20, u21, u22, u23, u24, u25, u26, u27, .bool false, .agg #[.slice p m c], .int .i64 (plN l m).length, .int .i64 (plN l m).length, .map (some (w1.heap.size + 1)), .agg #[.slice p m c], .func (.func 59) #[] #[.pointer (some ⟨w1.heap.size + 1 + 1 + 1, 0, none⟩)], .int .i64 ((yM x : Int) + 1), .agg #[.int .i64 (sG l (yM x)).1, .int .i64 (sG l (yM x)).2], u37, u38, u39, u40, u41, u42, u43, u44, u45, u46, u47, u48, u49, u50, u51, u52, u53], defers := [] })
      (fun x a' => own_kc fun _ W W' k ⟨B, hB, hc, ha⟩ => ⟨B, hB, k.same B _ hc rfl, ha⟩) ?assign ?body ?done ?stop
    case assign =>
      intro yl pre x W K hI hK
      have KK := hidOg hK
      have HI := hidOg hI
      clear hI hK hst h0
      gi_wp2
      have hb := bal W (.cells #[.int .i64 (sG l (yM x)).1, .int .i64 (sG l (yM x)).2] 34)
      have hsz : w4.heap.size ≤ W.heap.size := HI.out.2.size |> fun h => h
      refine KK.out _ _ ((KeepsOthers.alloc _ _).from _) ⟨hb.mono (by omega), hb.block _ (by omega)⟩ ?_ ⟨W.heap.size, hsz, blk1, rfl⟩
      exact (whi_own w1.heap.size w4 l w4.heap.size (by omega) (by omega)).alloc _ HI.out
    case body =>
      rintro yl pre x a' W hlw _ ⟨⟨⟨ba, bt⟩, hM, hq⟩, hBw⟩ ⟨B, hB4, hB, rfl⟩ hlt
      obtain ⟨cb0, cb1, _⟩ := cell2_heap hB
      have ca := ba.cell
      have fa := ba.frozen
      have ct := bt.cell
      have hws := HWf.out (yM x)
      have hbsz := hBw.size
      have hpl : pre.length < 1099511627776 := by rw [← HM.out] at hlt; omega
      obtain ⟨W', hrun, hM', hg⟩ := hM.put (s := sG l (yM x)) (v := (yM x : Int) + 1) hws (wfI_of (by omega) (by have := yM_lt x; omega)) (by omega) (by unfold maxLen; omega)
      have HBA := hidOg ba
      have HBT := hidOg bt
      have HQ := hidOg hq
      have HBw := hidOg hBw
      have HSN := hidOg (GoodQ.snoc (l := l) (pre := pre.map yM) (x := yM x))
      have HUP := fun h => whF_snoc (l := l) (pre := pre.map yM) (x := yM x) h
      have HM' := hidOg hM'
      have HG := hidOg hg
      have e1 := hg.block w1.heap.size (by omega) (by simp)
      have e2 := hg.block (w1.heap.size + 1 + 1) (by omega) (by simp)
      have e3 := hg.block B (Array.getElem?_eq_some_iff.1 hB).1 (by simp; omega)
      have ca' := (cell_heap e1 0).trans ca
      have ct' := (cell_heap e2 0).trans ct
      have cb0' := (cell_heap e3 0).trans cb0
      have cb1' := (cell_heap e3 1).trans cb1
      have hsz' := hg.size
      have HK3 : Hid (∀ W2, Below W'.heap.size W' W2 → (W2.cell? ⟨w1.heap.size, 0, none⟩ = some (.int .i64 (pre.length : Int)) ∧ W2.frozen? ⟨w1.heap.size, 0, none⟩ = false ∧ W2.cell? ⟨w1.heap.size + 1 + 1, 0, none⟩ = some (.map (some (w1.heap.size + 1)))) ∧ (KeepsFrom w4.heap.size W W2 ∧ Ke w1.heap.size (w1.heap.size + 1 + 1 + 1) W W2 ∧ Boxed W2 w1.heap.size 3 (.int .i64 (pre.length : Int)) ∧ Boxed W2 (w1.heap.size + 1 + 1) 59 (.map (some (w1.heap.size + 1)))) ∧ MapS W2 (w1.heap.size + 1) (pre.length + 1) (if whF l (pre.map yM) (sG l (yM x)) = 0 then pre.length + 1 else pre.length) (uP (whF l (pre.map yM)) (sG l (yM x)) ((yM x : Int) + 1))) := fun W2 hb => by
        have b1 : Boxed W2 w1.heap.size 3 (.int .i64 (pre.length : Int)) := (HBA.out.kept HG.out (by simp)).kept (grown_of_below hb) (by simp)
        have b2 : Boxed W2 (w1.heap.size + 1 + 1) 59 (.map (some (w1.heap.size + 1))) := (HBT.out.kept HG.out (by simp)).kept (grown_of_below hb) (by simp)
        refine ⟨⟨b1.cell, b1.frozen, b2.cell⟩, ⟨(KeepsFrom.of_grownBy HG.out (fun j hj => by cases hj; omega)).trans (KeepsFrom.of_grownBy (grown_of_below hb) (fun j hj => by cases hj)), ⟨((Below.refl _ W).grown HG.out (by omega) (fun j hj => by cases hj; omega)).trans (hb.mono (by omega)), ?_⟩, b1, b2⟩, HM'.out.to hb⟩
        exact (hb.block _ (by omega)).trans (HG.out.block _ (by omega) (by simp; omega))
      obtain ⟨U, hU⟩ : ∃ U, U = whF l (pre.map yM) (sG l (yM x)) := ⟨_, rfl⟩
      rw [← hU] at HSN HUP HK3
      obtain ⟨a, ha⟩ : ∃ a, a = (sG l (yM x)).1 := ⟨_, rfl⟩
      obtain ⟨d, hd⟩ : ∃ d, d = (sG l (yM x)).2 := ⟨_, rfl⟩
      have hp : plB (sG l (yM x)) = plB (a, d) := by rw [ha, hd]
      rw [hp] at HSN
      rw [← ha, ← hd] at hrun
      rw [← ha] at cb0 cb0'
      rw [← hd] at cb1 cb1'
      rw [← ha, ← hd]
      have CI := fun (Z : World) => isPlace45 a d Z
      obtain ⟨pb, hpb⟩ : ∃ pb, pb = plB (a, d) := ⟨_, rfl⟩
      rw [← hpb] at CI HSN
      obtain ⟨y, hy⟩ : ∃ y, y = yM x := ⟨_, rfl⟩
      obtain ⟨P0, hP0⟩ : ∃ P0, P0 = pre.length := ⟨_, rfl⟩
      have HP0 := hidOg hP0
      rw [← hP0] at HK3 hpl ca ca'
      rw [← hy] at hrun
      rw [← hy]
      have HY := hidOg hy
      clear ha hd hp hpb hU hM hM' hq hBw hws hg e1 e2 e3 ba bt hst h0 hlt hP0 hy
      have HLm : Hid (((pre ++ [x]).length : Int) - 1 = (P0 : Int)) := by unfold Hid; rw [HP0.out]; simp
      have HLp : Hid (((pre ++ [x]).length : Int) = (P0 : Int) + 1) := by unfold Hid; rw [HP0.out]; simp
      have HMp : Hid ((pre ++ [x]).map yM = pre.map yM ++ [yM x]) := by unfold Hid; simp
      cases pb
      · gi_wp2_with (first | (gi_at_call 45; refine (callsIn_wide.2 (CI _)).mono ?_; rintro e W2 ⟨rfl, hb2⟩; have HB2 := hidOg hb2; clear hb2))
        obtain ⟨_, ⟨k1, k2, k3, k4⟩, _⟩ := HK3.out _ HB2.out
        exact ⟨k1, ⟨⟨by rw [HLm.out]; exact k3, k4⟩, rfl, by simp, fun h => by rw [HMp.out] at h; have := (HSN.out.1 h).2.1; simp at this⟩, HBw.out.trans k2.b⟩
      · by_cases hu0 : U = 0
        · have HX := hidOg hu0
          gi_wp2_with (first | (gi_at_call 45; refine (callsIn_wide.2 (CI _)).mono ?_; rintro e W2 ⟨rfl, hb2⟩; have HB2 := hidOg hb2; obtain ⟨⟨q1, q2, q3⟩, _, hm2⟩ := HK3.out _ hb2; rw [if_pos HX.out] at hm2; have hlen := fun ty => hm2.len ty; have HM2 := hidOg hm2; clear hm2 hb2; have hne : ((P0 : Int) + 1 == (P0 : Int)) = false := (by simp; omega)))
          obtain ⟨_, ⟨k1, k2, k3, k4⟩, _⟩ := HK3.out _ HB2.out
          have hb2 : Below w1.heap.size W2 (W2.setCell ⟨w1.heap.size, 0, none⟩ (.int .i64 ((P0 : Int) + 1))) := (Below.refl _ W2).setCell (p := ⟨w1.heap.size, 0, none⟩) (Nat.le_refl _) _
          refine ⟨k1.trans ((KeepsOthers.setCell _ _ _).from _), k2.trans ⟨hb2, heap_setCell_other _ _ _ _ (by simp; omega)⟩, ⟨⟨by rw [HLp.out]; exact Boxed.set _ k3, k4.other (by omega) _⟩, ?_, ?_⟩, (HBw.out.trans k2.b).trans hb2⟩
          · have h2 := HM2.out.at (heap_setCell_other W2 ⟨w1.heap.size, 0, none⟩ (w1.heap.size + 1) (.int .i64 ((P0 : Int) + 1)) (by simp))
            rw [HUP HX.out, ← HMp.out] at h2
            rw [List.length_append, ← HP0.out]
            exact h2
          · rw [HMp.out]; exact HSN.out.2 ⟨HQ.out, trivial, HX.out⟩
        · have HX := hidOg hu0
          gi_wp2_with (first | (gi_at_call 45; refine (callsIn_wide.2 (CI _)).mono ?_; rintro e W2 ⟨rfl, hb2⟩; have HB2 := hidOg hb2; obtain ⟨⟨q1, q2, q3⟩, _, hm2⟩ := HK3.out _ hb2; rw [if_neg HX.out] at hm2; have hlen := fun ty => hm2.len ty; clear hm2 hb2))
          obtain ⟨_, ⟨k1, k2, k3, k4⟩, _⟩ := HK3.out _ HB2.out
          exact ⟨k1, ⟨⟨by rw [HLm.out]; exact k3, k4⟩, rfl, by simp, fun h => by rw [HMp.out] at h; exact HX.out (HSN.out.1 h).2.2⟩, HBw.out.trans k2.b⟩
    case done =>
      rintro D xs W hD rfl ⟨⟨⟨ba, bt⟩, hM, hq⟩, hBw⟩ hK
      have ca := ba.cell
      have ct := bt.cell
      rw [plN_y (by rw [← HM.out]; omega)] at hM hq
      have E : Hid (mayS l = true) := by
        unfold Hid mayS
        rw [decide_eq_true (by rw [← HM.out]; exact hl), decide_eq_true hq]
        rcases h1 with h | h
        · rw [show l.length = 0 from by rw [← HM.out]; exact h]; rfl
        · rw [← HM.out, decide_eq_false h]; simp
      have HK := hidOg hK
      have HBw := hidOg hBw
      have HMM := hidOg hM
      obtain ⟨N, hN⟩ : ∃ N, N = (plN l l.length).length := ⟨_, rfl⟩
      have hN2 : (plN l m).length = N := by rw [hN, HM.out]
      rw [← hN] at ca HMM
      rw [hN2]
      clear hK hBw hM hq ba bt hst h0 h1
      have HNN := hidOg hN
      clear hN hN2
      gi_wp2
      gi_region
      all_goals
        gi_wp2
        rw [Exit.noGoto_ret]
        refine ⟨by simp, .inl ⟨_, _, rfl, run_takeDeferred HK.out, ?_⟩⟩
        have kb := belowK_b (w := w) (n₀ := w.heap.size) (Nat.le_refl _) W.drew D (.deferred (some [])) (.deferred none) (by omega) HK.out rfl rfl
        refine ⟨.tuple #[.map (some (w1.heap.size + 1)), .bool true], by simp [results, Try.results33, go_sem], _, by rw [E.out], fun _ => ⟨_, _, rfl, HMM.out.at ?_, by omega⟩, ((HBW4.out.trans (HBw.out.mono (by omega))).drew).trans kb⟩
        exact (grownBy_putObj' W.drew D _).block (w1.heap.size + 1) (show w1.heap.size + 1 < W.heap.size by have := HBw.out.size; omega) (by simp; omega)
    case stop =>
      rintro D cc pre W hD ⟨k, hk, rfl⟩ ⟨⟨⟨ba, bt⟩, rfl, hp, hq⟩, hBw⟩ hK
      have ca := ba.cell
      have ct := bt.cell
      rw [plN_y (by have := HM.out; omega)] at hq
      have E : Hid (mayS l = false) := by
        unfold Hid mayS
        obtain ⟨r, hr⟩ := plN_pre (l := l) hk
        rw [decide_eq_false (p := GoodQ l (plN l l.length)) (fun h => hq (by rw [hr] at h; exact h.left))]
        simp
      have hN : (plN l k).length ≤ (plN l m).length := by
        obtain ⟨r, hr⟩ := plN_pre (l := l) hk
        rw [HM.out, hr, List.length_append]; omega
      have HK := hidOg hK
      have HBw := hidOg hBw
      obtain ⟨N, hN0⟩ : ∃ N, N = (plN l k).length := ⟨_, rfl⟩
      rw [← hN0] at ca hN hp
      obtain ⟨M, hM0⟩ : ∃ M, M = (plN l m).length := ⟨_, rfl⟩
      rw [← hM0] at hN
      rw [← hM0]
      have d0 : ((N : Int) - 1 == (M : Int)) = false := by simp; omega
      clear hK hBw hq ba bt hst h0 h1 hN0 hM0
      gi_wp2
      gi_region
      all_goals
        gi_wp2
        rw [Exit.noGoto_ret]
        refine ⟨by simp, .inl ⟨_, _, rfl, run_takeDeferred HK.out, ?_⟩⟩
        have kb := belowK_b (w := w) (n₀ := w.heap.size) (Nat.le_refl _) W.drew D (.deferred (some [])) (.deferred none) (by omega) HK.out rfl rfl
        exact ⟨.tuple #[.map (some (w1.heap.size + 1)), .bool false], by simp [results, Try.results33, go_sem], _, by rw [E.out], (fun h => by rw [E.out] at h; cases h), ((HBW4.out.trans (HBw.out.mono (by omega))).drew).trans kb⟩
set_option maxHeartbeats 1000000 in
theorem whoStands33 (p : Option Addr) (l : List Sp) (c : Nat) (w : World) (hE : SRow w.heap.size w p l) (hw : wfL l) (hl : l.length ≤ 1099511627776) :
    Calls Try.prog 33 #[.agg #[.slice p l.length c]] w fun e w' => AnsW l w e w' := by
  by_cases h1 : l.length ≤ 1048578
  · by_cases h0 : l.length = 0 ∨ ¬ sG l (l.length - 1) = (0, 0)
    · exact who_go p l c w hE hw h1 h0
    · have E : Hid (mayS l = false) := by
        unfold Hid mayS
        have : (l.length == 0 || !decide (sG l (l.length - 1) = (0, 0))) = false := by
          rw [Bool.eq_false_iff]; intro h; apply h0; simpa using h
        rw [this]; simp
      have h2 : ¬ l.length = 0 := fun h => h0 (.inl h)
      have h3 : sG l (l.length - 1) = (0, 0) := Decidable.byContradiction fun h => h0 (.inr h)
      obtain ⟨n, hn⟩ : ∃ n, l.length = n + 1 := ⟨l.length - 1, by omega⟩
      obtain ⟨b, off, rfl, hbN, hcs⟩ := hE (by omega)
      obtain ⟨c0, c1⟩ := hcs n (by omega)
      rw [hn, Nat.add_sub_cancel] at h3
      rw [h3] at c0 c1
      have HB := hidOg (bal w (.cells #[.slice (some ⟨b, off, none⟩) (n + 1) c] 24))
      have d1 : decide ((1048578 : Int) < (n : Int) + 1) = false := by simp; omega
      have d2 : decide ((0 : Int) < (n : Int) + 1) = true := decide_eq_true (by omega)
      have d3 : (n : Int) ≤ 1048577 := by omega
      rw [hn]
      clear hcs h0 h1 h2 h3 hn hw hl hE
      go_enter Try.func33, Try.ntmps33
      go_wp2
      apply wp_scope_straight
      go_wp2
      rw [Exit.noGoto_ret]
      exact bodyPost_ret (v := .tuple #[.map none, .bool false]) (by simp [results, Try.results33, go_sem]) rfl ⟨.map none, by rw [E.out], (fun h => by rw [E.out] at h; cases h), HB.out⟩
  · have E : Hid (mayS l = false) := by
      unfold Hid mayS; rw [decide_eq_false h1]; rfl
    have HB := hidOg (bal w (.cells #[.slice p l.length c] 24))
    have d1 : decide ((1048578 : Int) < (l.length : Int)) = true := decide_eq_true (by omega)
    clear hw hE
    go_enter Try.func33, Try.ntmps33
    go_wp2
    apply wp_scope_straight
    go_wp2
    rw [Exit.noGoto_ret]
    exact bodyPost_ret (v := .tuple #[.map none, .bool false]) (by simp [results, Try.results33, go_sem]) rfl ⟨.map none, by rw [E.out], (fun h => by rw [E.out] at h; cases h), HB.out⟩
end Go.Proofs.Ytijlkdppjmfbhaa
