/- placed: those that do not stand nowhere; how many. -/
import Derived.Test.YtijlkdppjmfbhaaRv
import Derived.Test.YtijlkdppjmfbhaaRcA
import Derived.RangeFuncWrites
namespace Go.Proofs.Ytijlkdppjmfbhaa
open Go.RowKit Go.Shelf
attribute [local go_sem] Oper.semAt_some

/-- All below n₀ stays, and the block Bl. -/
structure Ke (n₀ Bl : Nat) (W W' : World) : Prop where
  b : Below n₀ W W'
  m : W'.heap[Bl]? = W.heap[Bl]?
theorem Ke.refl (n₀ Bl : Nat) (W : World) : Ke n₀ Bl W W := ⟨Below.refl _ _, rfl⟩
theorem Ke.trans {n₀ Bl : Nat} {A B C : World} (h : Ke n₀ Bl A B) (k : Ke n₀ Bl B C) : Ke n₀ Bl A C := ⟨h.b.trans k.b, k.m.trans h.m⟩
theorem ke_b {n₀ Bl : Nat} {w : World} (hn : n₀ ≤ w.heap.size) (hm : Bl < w.heap.size) (W : World) (l : Nat) (o o' : Obj) (hl : w.heap.size ≤ l) (h : W.heap[l]? = some o) (h1 : o.isCells = false) (h2 : o.isWalk = false) : Ke n₀ Bl W (W.putObj l o') := by
  have hlt := (Array.getElem?_eq_some_iff.1 h).1
  exact ⟨belowK_b hn W l o o' hl h h1 h2, (grownBy_putObj' W l o').block Bl (by omega) (by simp; omega)⟩
theorem placed55 (p : Option Addr) (n c : Nat) (w : World) :
    Calls Try.prog 55 #[.agg #[.slice p n c]] w fun e w' => e = .returned (.func (.func 59) #[] #[.pointer (some ⟨w.heap.size, 0, none⟩)]) ∧ w' = w.alloc (.cells #[.slice p n c] 24) := by
  go_enter Try.func55, Try.ntmps55
  go_wp2
  go_ret
  exact ⟨rfl, rfl⟩
/-- A place, so that it is a number of the model's whatever it is. -/
def yM (k : Nat) : Nat := k % 1099511627776
theorem yM_eq {k : Nat} (h : k < 1099511627776) : yM k = k := Nat.mod_eq_of_lt h
theorem yM_lt (k : Nat) : yM k < 1099511627776 := Nat.mod_lt _ (by decide)
abbrev encP (l : List Sp) (k : Nat) : Array Value := #[.int .i64 ((yM k : Int) + 1), .agg #[.int .i64 (sG l (yM k)).1, .int .i64 (sG l (yM k)).2]]
/-- The places, among the first k, at which somebody stands somewhere. -/
def plN (l : List Sp) (k : Nat) : List Nat := (List.range k).filter fun j => !decide (sG l j = (0, 0))
theorem plN_t {l : List Sp} {k : Nat} (h : sG l k ≠ (0, 0)) : plN l (k + 1) = plN l k ++ [k] := by
  unfold plN; rw [List.range_succ, List.filter_append]; simp [h]
theorem plN_f {l : List Sp} {k : Nat} (h : sG l k = (0, 0)) : plN l (k + 1) = plN l k := by
  unfold plN; rw [List.range_succ, List.filter_append]; simp [h]
theorem plN_len (l : List Sp) (k : Nat) : (plN l k).length ≤ k := by
  unfold plN; have := List.length_filter_le (fun j => !decide (sG l j = (0, 0))) (List.range k); simpa using this
set_option maxRecDepth 100000 in
set_option maxHeartbeats 2000000 in
theorem placed59 (n : Nat) (hn : 1 ≤ n) (yl Bl n₀ : Nat) (p : Option Addr) (l : List Sp) (c : Nat) (w : World) (hE : SRow n₀ w p l) (hl : l.length ≤ 1099511627776) (J Jx : List Nat → World → Prop)
    (hY : ∀ k W1, k < l.length → J (plN l k) W1 → YieldAt Fence.wide (n - 1) Try.prog yl (encP l k) W1 fun e W' => (e = .returned (.bool true) ∧ J (plN l k ++ [k]) W' ∧ Ke n₀ Bl W1 W') ∨ (e = .returned (.bool false) ∧ Jx (plN l k ++ [k]) W'))
    (hJ : AbidesFrom w.heap.size J) (hn₀ : n₀ ≤ w.heap.size) (hBl : w.heap[Bl]? = some (.cells #[.slice p l.length c] 24 (0, 0))) (h0 : J [] w) :
    CallsIn Fence.wide n Try.prog 59 #[.func (.yield yl) #[] #[], .pointer (some ⟨Bl, 0, none⟩)] w fun e W' => (∃ v, e = .returned v) ∧
      ((∃ xs, xs = plN l l.length ∧ J xs W') ∨ (∃ pre, (∃ k, k ≤ l.length ∧ pre = plN l k) ∧ Jx pre W')) := by
  refine callsIn_of_wp Try.func59 rfl trivial ?_ rfl
  simp only [Try.ntmps59, List.size_toArray, List.length_cons, List.length_nil, Nat.reduceAdd, Nat.reduceSub, Array.replicate_succ, Array.replicate_zero, List.push_toArray, List.append_toArray, List.nil_append, List.cons_append]
  have hbl := (Array.getElem?_eq_some_iff.1 hBl).1
  have HY := hidOg hY
  obtain ⟨m, hm⟩ : ∃ m, m = l.length := ⟨_, rfl⟩
  rw [← hm] at HY hBl hl
  have HM := hidOg hm
  have HBL := hidOg hBl
  have z0 : w.cell? ⟨Bl, 0, none⟩ = some (.slice p m c) := cell1_heap hBl
  have HE := hidOg hE
  rw [← hm]
  clear hY hm hBl hE
  gi_wp2
  gi_loopw [8] (fun v wr => ∃ k : Nat, k ≤ m ∧ v = .int .i64 k ∧ J (plN l k) wr ∧ Ke n₀ Bl w wr) (fun v _ => m - (intOf v).toNat)
  case atStart => exact ⟨0, Nat.zero_le _, rfl, by simpa [plN] using h0, Ke.refl _ _ _⟩
  case round =>
    obtain ⟨k, hk, rfl, hJs, hnx⟩ := hrel
    have HJ := hidOg hJs
    have HX := hidOg hnx
    clear hJs hnx h0 z0
    by_cases hlt : k < m
    · obtain ⟨b, off, rfl, hbN, hcs⟩ := HE.out (by rw [← HM.out]; omega)
      obtain ⟨g0, g1⟩ := hcs k (by rw [← HM.out]; exact hlt)
      have c0 := (HX.out.b.cell (p := ⟨b, off + k * 2, none⟩) hbN).trans g0
      have c1 := (HX.out.b.cell (p := ⟨b, off + k * 2 + 1, none⟩) hbN).trans g1
      have hsz := HX.out.b.size
      have hblr : Bl < wr.heap.size := Nat.lt_of_lt_of_le hbl hsz
      have HJA : Hid (∀ Z, Below wr.heap.size wr Z → J (plN l k) Z ∧ Ke n₀ Bl w Z) := fun Z hb => ⟨hJ _ _ _ none HJ.out (grown_of_below hb) (fun r e => by cases e), HX.out.trans ⟨hb.mono (by omega), hb.block Bl hblr⟩⟩
      by_cases hz : sG l k = (0, 0)
      · have HP := hidOg (plN_f hz)
        rw [hz] at c0 c1
        clear hcs hbN HY hz g0 g1 HE
        have HB2 := hidOg (bal wr (.cells #[.int .i64 0, .int .i64 0] 34))
        gi_wp2
        refine ⟨fun f hf => (by cases hf), ?_⟩
        gi_wp2
        go_roundw
        case rel => exact ⟨k + 1, by omega, by go_num, by rw [HP.out]; exact (HJA.out _ HB2.out).1, (HJA.out _ HB2.out).2⟩
        case measure => simp [intOf]; omega
      · have HP := hidOg (plN_t hz)
        have HZ := hidOg hz
        have YY := fun (Z : World) (hb : Below wr.heap.size wr Z) => HY.out k Z hlt (HJA.out Z hb).1
        dsimp only [encP] at YY
        rw [yM_eq (show k < 1099511627776 by omega)] at YY
        obtain ⟨⟨a, d⟩, hs⟩ : ∃ s, s = sG l k := ⟨_, rfl⟩
        rw [← hs] at YY c0 c1 hz
        dsimp only at c0 c1 YY
        have HYY := hidOg YY
        have hd2 : (a == 0 && d == 0) = false := by
          rw [Bool.eq_false_iff]; intro h; simp at h; exact hz (by rw [h.1, h.2])
        have hd : ¬ (a = 0 ∧ d = 0) := fun h => hz (by rw [h.1, h.2])
        have HB2 := hidOg (bal wr (.cells #[.int .i64 a, .int .i64 d] 34))
        obtain ⟨fn, tmps, assign, body, hy, hR⟩ := HYY.out _ HB2.out
        clear YY HY hcs hbN hs HE hz g0 g1
        by_cases ha : a = 0
        · subst ha
          have hd3 : ¬ d = 0 := fun h => hd ⟨rfl, h⟩
          have hd4 : (d == 0) = false := by simpa using hd3
          clear hd hd2
          gi_wp2
          refine hR.mono ?_
          rintro e W3 (⟨rfl, hJ3, hk3⟩ | ⟨rfl, hJx3⟩)
          · gi_wp2
            go_roundw
            case rel => exact ⟨k + 1, by omega, by go_num, by rw [HP.out]; exact hJ3, (HJA.out _ HB2.out).2.trans hk3⟩
            case measure => simp [intOf]; omega
          · gi_wp2
            refine bodyPost_ret (results_none rfl _ _ _) rfl ?_
            exact ⟨⟨_, rfl⟩, .inr ⟨_, ⟨k + 1, hlt, HP.out.symm⟩, hJx3⟩⟩
        · have hd4 : (a == 0) = false := by simpa using ha
          clear hd hd2
          gi_wp2
          refine hR.mono ?_
          rintro e W3 (⟨rfl, hJ3, hk3⟩ | ⟨rfl, hJx3⟩)
          · gi_wp2
            go_roundw
            case rel => exact ⟨k + 1, by omega, by go_num, by rw [HP.out]; exact hJ3, (HJA.out _ HB2.out).2.trans hk3⟩
            case measure => simp [intOf]; omega
          · gi_wp2
            refine bodyPost_ret (results_none rfl _ _ _) rfl ?_
            exact ⟨⟨_, rfl⟩, .inr ⟨_, ⟨k + 1, hlt, HP.out.symm⟩, hJx3⟩⟩
    · obtain rfl : k = m := by omega
      gi_wp2
      go_end0
      exact ⟨⟨_, rfl⟩, .inl ⟨_, rfl, HJ.out⟩⟩
/-- placed, for a body that may leave: what it wants of each place alone. -/
theorem placed_stops (n : Nat) (hn : 1 ≤ n) (Bl n₀ : Nat) (p : Option Addr) (l : List Sp) (c : Nat) (w : World) (hE : SRow n₀ w p l) (hl : l.length ≤ 1099511627776) (hn₀ : n₀ ≤ w.heap.size) (hBl : w.heap[Bl]? = some (.cells #[.slice p l.length c] 24 (0, 0))) :
    SeqStopsK Fence.wide n Try.prog 59 #[.pointer (some ⟨Bl, 0, none⟩)] (encP l) (Ke n₀ Bl) (fun ys => ys = plN l l.length) (fun pre => ∃ k, k ≤ l.length ∧ pre = plN l k) l.length w := fun yl J Jx W hW hJ _ hY h0 =>
  placed59 n hn yl Bl n₀ p l c W (hE.below (hW.mono hn₀) (Nat.le_refl _)) hl J Jx (fun k W1 hlt hj => hY (plN l k) k W1 hj (Nat.lt_of_le_of_lt (plN_len l k) hlt)) hJ (Nat.le_trans hn₀ hW.size) ((hW.block Bl (Array.getElem?_eq_some_iff.1 hBl).1).trans hBl) h0
/-- How many do not stand nowhere: the box of the number. -/
def CnI (S : Nat) (w4 : World) (pre : List Nat) (W : World) : Prop := Boxed W S 3 (.int .i64 (pre.length : Int)) ∧ Below S w4 W
def CnX (_ : List Nat) (_ : World) : Prop := False
theorem cni_own (S : Nat) (w4 : World) (B : Nat) (h1 : S ≤ w4.heap.size) (h2 : S ≤ B) : OwnFrom B (CnI S w4) :=
  OwnFrom.and (Own.from (boxed_own S 3 (fun pre : List Nat => Value.int .i64 (pre.length : Int))) _) (ownFrom_below h1 h2)
theorem boxed_drew {W : World} {B : Nat} {t : TypeId} {v : Value} (h : Boxed W B t v) (n : Nat) : Boxed (W.drewN n) B t v := h
set_option maxRecDepth 100000 in
set_option maxHeartbeats 4000000 in
theorem count54 (p : Option Addr) (l : List Sp) (c : Nat) (w : World) (hE : SRow w.heap.size w p l) (hl : l.length ≤ 1099511627776) :
    Calls Try.prog 54 #[.agg #[.slice p l.length c]] w fun e w' => e = .returned (.int .i64 (plN l l.length).length) ∧ Below w.heap.size w w' := by
  refine (callsIn_wide (n := 4)).1 ?_
  refine callsIn_of_wp_marks Try.func54 rfl trivial ?_ rfl
  simp only [Try.ntmps54, List.size_toArray, List.length_cons, List.length_nil, Nat.reduceAdd, Nat.reduceSub, Array.replicate_succ, Array.replicate_zero, List.push_toArray, List.append_toArray, List.nil_append, List.cons_append]
  have h55 : Fence.wide.fn 55 := trivial
  have CR := fun (Z : World) => placed55 p l.length c Z
  gi_wp2_with (first | (gi_at_call 55; refine (callsIn_wide.2 (CR _)).mono ?_; rintro e w1 ⟨rfl, hw⟩; rw [hw]; clear hw w1))
  obtain ⟨w4, hw4⟩ : ∃ w4, w4 = (((w.alloc (.cells #[.slice p l.length c] 24)).alloc (.cells #[.int .i64 0] 3)).alloc (.cells #[.slice p l.length c] 24)) := ⟨_, rfl⟩
  rw [← hw4]
  obtain ⟨h1, h2, h3⟩ := al3 (w := w) (o1 := .cells #[.slice p l.length c] 24) (o2 := .cells #[.int .i64 0] 3) (o3 := .cells #[.slice p l.length c] 24)
  rw [← hw4] at h1 h2 h3
  have s4 : w4.heap.size = w.heap.size + 3 := by rw [hw4]; simp
  have B4 : Below w.heap.size w w4 := by rw [hw4]; exact (((Below.refl _ w).alloc (Nat.le_refl _) _).alloc (by simp) _).alloc (by simp; omega) _
  have h0 : CnI (w.heap.size + 1) w4 [] w4 := ⟨h2, Below.refl _ _⟩
  have hst := placed_stops 3 (by omega) (w.heap.size + 1 + 1) (w.heap.size + 1) p l c w4 ((hE.below B4 (Nat.le_refl _)).mono (by omega)) hl (by omega) h3
  clear hw4 h1 h2 h3 CR hE
  refine wpIn_rangeFunc_ownG rfl (by omega) (gf := 59) (lb := #[.pointer (some ⟨w.heap.size + 1 + 1, 0, none⟩)]) rfl trivial (enters_of Try.func59 (by kernel_rfl) rfl)
    hst (fun h k => h.trans k) (ke_b (by omega) (by omega)) (Below.refl _ _) (fun _ => rfl)
    (CnI (w.heap.size + 1) w4) (fun _ => CnX) (cni_own (w.heap.size + 1) w4 _ (by omega) (by omega)) (fun c => ownFrom_pure _ (fun _ => False)) h0
    (fun x => { tmps := #[.agg #[.slice p l.length c], .pointer (some ⟨w.heap.size, 0, none⟩), .int .i64 0, .pointer (some ⟨w.heap.size + 1, 0, none⟩), .agg #[.slice p l.length c], .func (.func 59) #[] #[.pointer (some ⟨w.heap.size + 1 + 1, 0, none⟩)], .int .i64 ((yM x : Int) + 1), .agg #[.int .i64 (sG l (yM x)).1, .int .i64 (sG l (yM x)).2], undef, undef, undef], defers := [] }) ?assign ?body ?done ?stop
  case assign =>
    intro yl x W K hK
    gi_wp2
    simpa using hK
  case body =>
    rintro yl pre x W ⟨ba, hBw⟩ hlt
    have ca := ba.cell
    have fa := ba.frozen
    have HBA := hidOg ba
    have HBw := hidOg hBw
    have hbsz := hBw.size
    have hwr : IntKind.i64.wrap ((pre.length : Int) + 1) = (pre.length : Int) + 1 := by rw [IntKind.wrap_i64]; omega
    have HL : Hid (((pre ++ [x]).length : Int) = (pre.length : Int) + 1) := by unfold Hid; simp
    clear ba hBw hst h0
    gi_wp2
    have hb2 : Below (w.heap.size + 1) W (W.setCell ⟨w.heap.size + 1, 0, none⟩ (.int .i64 ((pre.length : Int) + 1))) := (Below.refl _ W).setCell (p := ⟨w.heap.size + 1, 0, none⟩) (Nat.le_refl _) _
    refine ⟨(KeepsOthers.setCell _ _ _).from _, ⟨hb2, ?_⟩, ?_, HBw.out.trans hb2⟩
    · rw [heap_setCell_other _ _ _ _ (by simp)]
    · rw [HL.out]; exact Boxed.set _ HBA.out
  case done =>
    rintro D xs W hD rfl ⟨ba, hBw⟩ hK
    have ca := ba.cell
    have HK := hidOg hK
    have HBw := hidOg hBw
    obtain ⟨N, hN⟩ : ∃ N, N = (plN l l.length).length := ⟨_, rfl⟩
    rw [← hN] at ca
    have HN := hidOg hN
    clear hK hBw ba hst h0 hN
    gi_wp2
    refine ⟨by simp, .inl ⟨_, _, rfl, run_takeDeferred HK.out, ?_⟩⟩
    exact ⟨.int .i64 N, by simp [results, Try.results54, go_sem], by rw [HN.out], (B4.trans (HBw.out.mono (by omega))).trans (belowK_b (w := w) (Nat.le_refl _) W D _ _ (by omega) HK.out rfl rfl)⟩
  case stop =>
    rintro D c pre W hD _ h
    exact h.elim
end Go.Proofs.Ytijlkdppjmfbhaa
