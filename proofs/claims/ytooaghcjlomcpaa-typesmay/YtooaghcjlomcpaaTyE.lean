/- told, and what it hands back: the ids of a type of which something holds. -/
import Derived.RangeFuncNested
import Derived.RangeFuncBound
import Derived.RangeFuncCalls
import Derived.RangeFuncLeaves
import Derived.Shelf.Abstract
import Derived.Shelf.RegionOpen
import Derived.WalkKit
import Derived.OwnWalkIn
import Derived.TacticsInMore
import Derived.LoopNIn
import Derived.LoopIn
import Derived.Test.YtooaghcjlomcpaaTyD
namespace Go.Proofs.Ytooaghcjlomcpaa
open Go.RowKit Go.Shelf
attribute [local go_sem] Oper.semAt_some

/-- Those of the first k of which something holds. -/
def tolN (l : List Int) (h : Int → Bool) : Nat → List Int
  | 0 => []
  | k + 1 => tolN l h k ++ if h (iG l k) then [iG l k] else []
theorem tolN_len (l : List Int) (h : Int → Bool) (k : Nat) : (tolN l h k).length ≤ k := by
  induction k with
  | zero => simp [tolN]
  | succ k ih => unfold tolN; rw [List.length_append]; split <;> simp <;> omega
theorem tolN_t {l : List Int} {h : Int → Bool} {k : Nat} (hh : h (iG l k) = true) : tolN l h (k + 1) = tolN l h k ++ [iG l k] := by
  show tolN l h k ++ (if h (iG l k) then _ else _) = _; rw [hh]; rfl
theorem tolN_f {l : List Int} {h : Int → Bool} {k : Nat} (hh : h (iG l k) = false) : tolN l h (k + 1) = tolN l h k := by
  show tolN l h k ++ (if h (iG l k) then _ else _) = _; rw [hh]; simp
theorem tolN_filter (l : List Int) (h : Int → Bool) (k : Nat) (hk : k ≤ l.length) : tolN l h k = (l.take k).filter h := by
  induction k with
  | zero => simp [tolN]
  | succ k ih =>
    have e : l.take (k + 1) = l.take k ++ [iG l k] := by
      rw [List.take_succ_eq_append_getElem (by omega)]; simp [iG, show k < l.length by omega]
    rw [e, List.filter_append, ← ih (by omega)]
    cases hh : h (iG l k)
    · rw [tolN_f hh]; simp [hh]
    · rw [tolN_t hh]; simp [hh]
/-- What is told of a row. -/
def tolL (l : List Int) (h : Int → Bool) : List Int := if mayT l then tolN l h l.length else []
theorem tolL_eq (l : List Int) (h : Int → Bool) : tolL l h = if mayT l then l.filter h else [] := by
  unfold tolL; rw [tolN_filter l h l.length (Nat.le_refl _), List.take_length]

theorem grown_of_below {w w' : World} (hb : Below w.heap.size w w') : w.grownBy w' none := ⟨hb.os, hb.tape, hb.output, hb.size, fun k hk _ => hb.block k hk⟩
theorem Below.weak {n m : Nat} {w w' : World} (hb : Below m w w') (h : n ≤ m) : Below n w w' := hb.mono h

theorem told_in (p : Option Addr) (n c : Nat) (g : Nat) (b : Nat) (w : World) :
    Calls Try.prog 54 #[.slice p n c, .func (.func g) #[] #[.pointer (some ⟨b, 0, none⟩)]] w fun e w' => e = .returned (.func (.func 87) #[] #[.pointer (some ⟨w.heap.size, 0, none⟩), .pointer (some ⟨w.heap.size + 1, 0, none⟩)]) ∧ w' = (w.alloc (.cells #[.slice p n c] 22)).alloc (.cells #[.func (.func g) #[] #[.pointer (some ⟨b, 0, none⟩)]] 34) := by
  go_enter Try.func54, Try.ntmps54
  go_wp2
  go_ret
  exact ⟨rfl, rfl⟩

set_option maxRecDepth 100000 in
set_option maxHeartbeats 2000000 in
theorem told1_55 (n : Nat) (hn : 1 ≤ n) (yl Bl Bh Bx n₀ : Nat) (p : Option Addr) (l : List Int) (cap : Nat) (h : Int → Bool) (hlen : l.length < 1152921504606846976) (hU : U64 l) (J Jx : List Int → World → Prop)
    (hY : ∀ pre x W, J pre W → pre.length < l.length → 0 ≤ x → x < 18446744073709551616 → YieldAt Fence.wide (n - 1) Try.prog yl #[.int .u64 x] W fun e W' =>
      (e = .returned (.bool true) ∧ J (pre ++ [x]) W' ∧ Below n₀ W W') ∨ (e = .returned (.bool false) ∧ Jx (pre ++ [x]) W'))
    (W : World) (hJ : AbidesFrom W.heap.size J) (hn₀ : n₀ ≤ W.heap.size) (hBl : W.cell? ⟨Bl, 0, none⟩ = some (.slice p l.length cap)) (lBl : Bl < n₀)
    (hBh : W.cell? ⟨Bh, 0, none⟩ = some (.func (.func 55) #[] #[.pointer (some ⟨Bx, 0, none⟩)])) (lBh : Bh < n₀) (hS : IRow .u64 n₀ W p l)
    (CH : ∀ (x : Int) (wr : World), 0 ≤ x → x < 18446744073709551616 → Below n₀ W wr → Calls Try.prog 55 #[.int .u64 x, .pointer (some ⟨Bx, 0, none⟩)] wr fun e w' => e = .returned (.bool (h x)) ∧ Below wr.heap.size wr w')
    (h0 : J [] W) :
    CallsIn Fence.wide n Try.prog 87 #[.func (.yield yl) #[] #[], .pointer (some ⟨Bl, 0, none⟩), .pointer (some ⟨Bh, 0, none⟩)] W fun e W' => (∃ v, e = .returned v) ∧
      ((∃ ys, ys = tolL l h ∧ J ys W') ∨ (∃ pre, pre.length ≤ l.length ∧ Jx pre W')) := by
  have CM := mayBe_any p l cap W (hS.mono hn₀) hU hlen
  have HS := hidOg hS
  have HU := hidOg hU
  clear hS hU
  cases hm : mayT l
  · have HT : Hid (tolL l h = []) := by unfold Hid tolL; rw [hm]; rfl
    rw [hm] at CM
    clear hm
    refine callsIn_of_wp Try.func87 rfl trivial ?_ rfl
    simp only [Try.ntmps87, List.size_toArray, List.length_cons, List.length_nil, Nat.reduceAdd, Nat.reduceSub, Array.replicate_succ, Array.replicate_zero, List.push_toArray, List.append_toArray, List.nil_append, List.cons_append]
    have h47 : Fence.wide.fn 47 := trivial
    gi_wp2_with (first | (gi_at_call 47; refine (callsIn_wide.2 CM).mono ?_; rintro e w1 ⟨rfl, hb1⟩))
    refine bodyPost_ret (results_none rfl _ _ _) rfl ?_
    exact ⟨⟨_, rfl⟩, .inl ⟨_, HT.out.symm, hJ _ W w1 none h0 (grown_of_below hb1) (fun r e => by cases e)⟩⟩
  · have HT : Hid (tolL l h = tolN l h l.length) := by unfold Hid tolL; rw [hm]; rfl
    rw [hm] at CM
    clear hm
    refine callsIn_of_wp Try.func87 rfl trivial ?_ rfl
    simp only [Try.ntmps87, List.size_toArray, List.length_cons, List.length_nil, Nat.reduceAdd, Nat.reduceSub, Array.replicate_succ, Array.replicate_zero, List.push_toArray, List.append_toArray, List.nil_append, List.cons_append]
    have h47 : Fence.wide.fn 47 := trivial
    have h55 : Fence.wide.fn 55 := trivial
    gi_wp2_with (first | (gi_at_call 47; refine (callsIn_wide.2 CM).mono ?_; rintro e w1 ⟨rfl, hb1⟩; have c1 : w1.cell? ⟨Bl, 0, none⟩ = some (.slice p l.length cap) := (hb1.cell (p := ⟨Bl, 0, none⟩) (by simp; omega)).trans hBl; have h01 := hJ _ W w1 none h0 (grown_of_below hb1) (fun r e => by cases e)))
    clear CM
    gi_loopw [11] (fun i wr => ∃ k : Nat, k ≤ l.length ∧ i = .int .i64 k ∧ J (tolN l h k) wr ∧ Below n₀ W wr)
      (fun i _ => l.length - (intOf i).toNat)
    case atStart => exact ⟨0, Nat.zero_le _, rfl, h01, hb1.mono hn₀⟩
    case round =>
      obtain ⟨k, hk, rfl, hJs, hnx⟩ := hrel
      have hsz := hnx.size
      have HJ := hidOg hJs
      have HX := hidOg hnx
      clear hJs hnx h01 hb1 c1
      by_cases hlt : k < l.length
      · obtain ⟨b, off, rfl, hbB, hcs⟩ := (HS.out.below HX.out (Nat.le_refl _)) (by omega)
        have c0 := hcs k hlt
        clear hcs
        have cf : wr.cell? ⟨Bh, 0, none⟩ = some (.func (.func 55) #[] #[.pointer (some ⟨Bx, 0, none⟩)]) := (HX.out.cell (p := ⟨Bh, 0, none⟩) lBh).trans hBh
        have HL : Hid ((tolN l h k).length ≤ k) := tolN_len l h k
        obtain ⟨u0, u1⟩ := HU.out.at hlt
        have CC := CH (iG l k) wr u0 u1 HX.out
        have HT1 : Hid (h (iG l k) = true → tolN l h (k + 1) = tolN l h k ++ [iG l k]) := tolN_t
        have HT0 : Hid (h (iG l k) = false → tolN l h (k + 1) = tolN l h k) := tolN_f
        obtain ⟨x, hx⟩ : ∃ x, x = iG l k := ⟨_, rfl⟩
        rw [← hx] at c0 u0 u1 CC HT1 HT0
        clear hx
        cases ha : h x
        · have HA := hidOg (HT0.out ha)
          rw [ha] at CC
          clear ha HT0 HT1
          gi_wp2_with (first | (gi_at_call 55; refine (callsIn_wide.2 CC).mono ?_; rintro e w1 ⟨rfl, hb1⟩))
          refine ⟨fun _ h => (by cases h), ?_⟩
          gi_wp2
          go_roundw
          case rel => exact ⟨k + 1, by omega, by go_num, by rw [HA.out]; exact hJ _ _ w1 none HJ.out (grown_of_below hb1) (fun r e => by cases e), HX.out.trans (hb1.mono (by omega))⟩
          case measure => simp [intOf]; omega
        · have HA := hidOg (HT1.out ha)
          rw [ha] at CC
          clear ha HT0 HT1
          gi_wp2_with (first | (gi_at_call 55; refine (callsIn_wide.2 CC).mono ?_; rintro e w1 ⟨rfl, hb1⟩; obtain ⟨fn, tmps, assign, body, hy, hR⟩ := hY (tolN l h k) x w1 (hJ _ _ w1 none HJ.out (grown_of_below hb1) (fun r e => by cases e)) (Nat.lt_of_le_of_lt HL.out hlt) u0 u1))
          refine hR.mono ?_
          rintro e W3 (⟨rfl, hJ3, hk3⟩ | ⟨rfl, hJx3⟩)
          · gi_wp2
            go_roundw
            case rel => exact ⟨k + 1, by omega, by go_num, by rw [HA.out]; exact hJ3, (HX.out.trans (hb1.mono (by omega))).trans hk3⟩
            case measure => simp [intOf]; omega
          · gi_wp2
            refine bodyPost_ret (results_none rfl _ _ _) rfl ?_
            exact ⟨⟨_, rfl⟩, .inr ⟨_, (by have := HL.out; simp; omega), hJx3⟩⟩
      · obtain rfl : k = l.length := by omega
        gi_wp2
        go_end0
        exact ⟨⟨_, rfl⟩, .inl ⟨_, HT.out.symm, HJ.out⟩⟩

theorem told_stops_55 (n : Nat) (hn : 1 ≤ n) (Bl Bh Bx n₀ : Nat) (p : Option Addr) (l : List Int) (cap : Nat) (h : Int → Bool) (hlen : l.length < 1152921504606846976) (hU : U64 l) (w : World) (hn₀ : n₀ ≤ w.heap.size)
    (hBl : w.cell? ⟨Bl, 0, none⟩ = some (.slice p l.length cap)) (lBl : Bl < n₀)
    (hBh : w.cell? ⟨Bh, 0, none⟩ = some (.func (.func 55) #[] #[.pointer (some ⟨Bx, 0, none⟩)])) (lBh : Bh < n₀) (hS : IRow .u64 n₀ w p l)
    (CH : ∀ (x : Int) (wr : World), 0 ≤ x → x < 18446744073709551616 → Below n₀ w wr → Calls Try.prog 55 #[.int .u64 x, .pointer (some ⟨Bx, 0, none⟩)] wr fun e w' => e = .returned (.bool (h x)) ∧ Below wr.heap.size wr w') :
    SeqStopsK Fence.wide n Try.prog 87 #[.pointer (some ⟨Bl, 0, none⟩), .pointer (some ⟨Bh, 0, none⟩)] (fun x : Int => #[Value.int .u64 x]) (Below n₀) (fun ys => ys = tolL l h) (fun pre => pre.length ≤ l.length) l.length w := fun yl J Jx W hW hJ _ hY h0 =>
  told1_55 n hn yl Bl Bh Bx n₀ p l cap h hlen hU J Jx (fun pre x W hj hl _ _ => hY pre x W hj hl) W hJ (Nat.le_trans hn₀ hW.size) ((hW.cell (p := ⟨Bl, 0, none⟩) (by simp; omega)).trans hBl) lBl ((hW.cell (p := ⟨Bh, 0, none⟩) (by simp; omega)).trans hBh) lBh (hS.below hW hn₀)
    (fun x wr h0 h1 hb => CH x wr h0 h1 ((hW.mono hn₀).trans hb)) h0

set_option maxRecDepth 100000 in
set_option maxHeartbeats 2000000 in
theorem told1_60 (n : Nat) (hn : 1 ≤ n) (yl Bl Bh Bx n₀ : Nat) (p : Option Addr) (l : List Int) (cap : Nat) (h : Int → Bool) (hlen : l.length < 1152921504606846976) (hU : U64 l) (J Jx : List Int → World → Prop)
    (hY : ∀ pre x W, J pre W → pre.length < l.length → 0 ≤ x → x < 18446744073709551616 → YieldAt Fence.wide (n - 1) Try.prog yl #[.int .u64 x] W fun e W' =>
      (e = .returned (.bool true) ∧ J (pre ++ [x]) W' ∧ Below n₀ W W') ∨ (e = .returned (.bool false) ∧ Jx (pre ++ [x]) W'))
    (W : World) (hJ : AbidesFrom W.heap.size J) (hn₀ : n₀ ≤ W.heap.size) (hBl : W.cell? ⟨Bl, 0, none⟩ = some (.slice p l.length cap)) (lBl : Bl < n₀)
    (hBh : W.cell? ⟨Bh, 0, none⟩ = some (.func (.func 60) #[] #[.pointer (some ⟨Bx, 0, none⟩)])) (lBh : Bh < n₀) (hS : IRow .u64 n₀ W p l)
    (CH : ∀ (x : Int) (wr : World), 0 ≤ x → x < 18446744073709551616 → Below n₀ W wr → Calls Try.prog 60 #[.int .u64 x, .pointer (some ⟨Bx, 0, none⟩)] wr fun e w' => e = .returned (.bool (h x)) ∧ Below wr.heap.size wr w')
    (h0 : J [] W) :
    CallsIn Fence.wide n Try.prog 87 #[.func (.yield yl) #[] #[], .pointer (some ⟨Bl, 0, none⟩), .pointer (some ⟨Bh, 0, none⟩)] W fun e W' => (∃ v, e = .returned v) ∧
      ((∃ ys, ys = tolL l h ∧ J ys W') ∨ (∃ pre, pre.length ≤ l.length ∧ Jx pre W')) := by
  have CM := mayBe_any p l cap W (hS.mono hn₀) hU hlen
  have HS := hidOg hS
  have HU := hidOg hU
  clear hS hU
  cases hm : mayT l
  · have HT : Hid (tolL l h = []) := by unfold Hid tolL; rw [hm]; rfl
    rw [hm] at CM
    clear hm
    refine callsIn_of_wp Try.func87 rfl trivial ?_ rfl
    simp only [Try.ntmps87, List.size_toArray, List.length_cons, List.length_nil, Nat.reduceAdd, Nat.reduceSub, Array.replicate_succ, Array.replicate_zero, List.push_toArray, List.append_toArray, List.nil_append, List.cons_append]
    have h47 : Fence.wide.fn 47 := trivial
    gi_wp2_with (first | (gi_at_call 47; refine (callsIn_wide.2 CM).mono ?_; rintro e w1 ⟨rfl, hb1⟩))
    refine bodyPost_ret (results_none rfl _ _ _) rfl ?_
    exact ⟨⟨_, rfl⟩, .inl ⟨_, HT.out.symm, hJ _ W w1 none h0 (grown_of_below hb1) (fun r e => by cases e)⟩⟩
  · have HT : Hid (tolL l h = tolN l h l.length) := by unfold Hid tolL; rw [hm]; rfl
    rw [hm] at CM
    clear hm
    refine callsIn_of_wp Try.func87 rfl trivial ?_ rfl
    simp only [Try.ntmps87, List.size_toArray, List.length_cons, List.length_nil, Nat.reduceAdd, Nat.reduceSub, Array.replicate_succ, Array.replicate_zero, List.push_toArray, List.append_toArray, List.nil_append, List.cons_append]
    have h47 : Fence.wide.fn 47 := trivial
    have h60 : Fence.wide.fn 60 := trivial
    gi_wp2_with (first | (gi_at_call 47; refine (callsIn_wide.2 CM).mono ?_; rintro e w1 ⟨rfl, hb1⟩; have c1 : w1.cell? ⟨Bl, 0, none⟩ = some (.slice p l.length cap) := (hb1.cell (p := ⟨Bl, 0, none⟩) (by simp; omega)).trans hBl; have h01 := hJ _ W w1 none h0 (grown_of_below hb1) (fun r e => by cases e)))
    clear CM
    gi_loopw [11] (fun i wr => ∃ k : Nat, k ≤ l.length ∧ i = .int .i64 k ∧ J (tolN l h k) wr ∧ Below n₀ W wr)
      (fun i _ => l.length - (intOf i).toNat)
    case atStart => exact ⟨0, Nat.zero_le _, rfl, h01, hb1.mono hn₀⟩
    case round =>
      obtain ⟨k, hk, rfl, hJs, hnx⟩ := hrel
      have hsz := hnx.size
      have HJ := hidOg hJs
      have HX := hidOg hnx
      clear hJs hnx h01 hb1 c1
      by_cases hlt : k < l.length
      · obtain ⟨b, off, rfl, hbB, hcs⟩ := (HS.out.below HX.out (Nat.le_refl _)) (by omega)
        have c0 := hcs k hlt
        clear hcs
        have cf : wr.cell? ⟨Bh, 0, none⟩ = some (.func (.func 60) #[] #[.pointer (some ⟨Bx, 0, none⟩)]) := (HX.out.cell (p := ⟨Bh, 0, none⟩) lBh).trans hBh
        have HL : Hid ((tolN l h k).length ≤ k) := tolN_len l h k
        obtain ⟨u0, u1⟩ := HU.out.at hlt
        have CC := CH (iG l k) wr u0 u1 HX.out
        have HT1 : Hid (h (iG l k) = true → tolN l h (k + 1) = tolN l h k ++ [iG l k]) := tolN_t
        have HT0 : Hid (h (iG l k) = false → tolN l h (k + 1) = tolN l h k) := tolN_f
        obtain ⟨x, hx⟩ : ∃ x, x = iG l k := ⟨_, rfl⟩
        rw [← hx] at c0 u0 u1 CC HT1 HT0
        clear hx
        cases ha : h x
        · have HA := hidOg (HT0.out ha)
          rw [ha] at CC
          clear ha HT0 HT1
          gi_wp2_with (first | (gi_at_call 60; refine (callsIn_wide.2 CC).mono ?_; rintro e w1 ⟨rfl, hb1⟩))
          refine ⟨fun _ h => (by cases h), ?_⟩
          gi_wp2
          go_roundw
          case rel => exact ⟨k + 1, by omega, by go_num, by rw [HA.out]; exact hJ _ _ w1 none HJ.out (grown_of_below hb1) (fun r e => by cases e), HX.out.trans (hb1.mono (by omega))⟩
          case measure => simp [intOf]; omega
        · have HA := hidOg (HT1.out ha)
          rw [ha] at CC
          clear ha HT0 HT1
          gi_wp2_with (first | (gi_at_call 60; refine (callsIn_wide.2 CC).mono ?_; rintro e w1 ⟨rfl, hb1⟩; obtain ⟨fn, tmps, assign, body, hy, hR⟩ := hY (tolN l h k) x w1 (hJ _ _ w1 none HJ.out (grown_of_below hb1) (fun r e => by cases e)) (Nat.lt_of_le_of_lt HL.out hlt) u0 u1))
          refine hR.mono ?_
          rintro e W3 (⟨rfl, hJ3, hk3⟩ | ⟨rfl, hJx3⟩)
          · gi_wp2
            go_roundw
            case rel => exact ⟨k + 1, by omega, by go_num, by rw [HA.out]; exact hJ3, (HX.out.trans (hb1.mono (by omega))).trans hk3⟩
            case measure => simp [intOf]; omega
          · gi_wp2
            refine bodyPost_ret (results_none rfl _ _ _) rfl ?_
            exact ⟨⟨_, rfl⟩, .inr ⟨_, (by have := HL.out; simp; omega), hJx3⟩⟩
      · obtain rfl : k = l.length := by omega
        gi_wp2
        go_end0
        exact ⟨⟨_, rfl⟩, .inl ⟨_, HT.out.symm, HJ.out⟩⟩

theorem told_stops_60 (n : Nat) (hn : 1 ≤ n) (Bl Bh Bx n₀ : Nat) (p : Option Addr) (l : List Int) (cap : Nat) (h : Int → Bool) (hlen : l.length < 1152921504606846976) (hU : U64 l) (w : World) (hn₀ : n₀ ≤ w.heap.size)
    (hBl : w.cell? ⟨Bl, 0, none⟩ = some (.slice p l.length cap)) (lBl : Bl < n₀)
    (hBh : w.cell? ⟨Bh, 0, none⟩ = some (.func (.func 60) #[] #[.pointer (some ⟨Bx, 0, none⟩)])) (lBh : Bh < n₀) (hS : IRow .u64 n₀ w p l)
    (CH : ∀ (x : Int) (wr : World), 0 ≤ x → x < 18446744073709551616 → Below n₀ w wr → Calls Try.prog 60 #[.int .u64 x, .pointer (some ⟨Bx, 0, none⟩)] wr fun e w' => e = .returned (.bool (h x)) ∧ Below wr.heap.size wr w') :
    SeqStopsK Fence.wide n Try.prog 87 #[.pointer (some ⟨Bl, 0, none⟩), .pointer (some ⟨Bh, 0, none⟩)] (fun x : Int => #[Value.int .u64 x]) (Below n₀) (fun ys => ys = tolL l h) (fun pre => pre.length ≤ l.length) l.length w := fun yl J Jx W hW hJ _ hY h0 =>
  told1_60 n hn yl Bl Bh Bx n₀ p l cap h hlen hU J Jx (fun pre x W hj hl _ _ => hY pre x W hj hl) W hJ (Nat.le_trans hn₀ hW.size) ((hW.cell (p := ⟨Bl, 0, none⟩) (by simp; omega)).trans hBl) lBl ((hW.cell (p := ⟨Bh, 0, none⟩) (by simp; omega)).trans hBh) lBh (hS.below hW hn₀)
    (fun x wr h0 h1 hb => CH x wr h0 h1 ((hW.mono hn₀).trans hb)) h0

set_option maxRecDepth 100000 in
set_option maxHeartbeats 2000000 in
theorem told1_64 (n : Nat) (hn : 1 ≤ n) (yl Bl Bh Bx n₀ : Nat) (p : Option Addr) (l : List Int) (cap : Nat) (h : Int → Bool) (hlen : l.length < 1152921504606846976) (hU : U64 l) (J Jx : List Int → World → Prop)
    (hY : ∀ pre x W, J pre W → pre.length < l.length → 0 ≤ x → x < 18446744073709551616 → YieldAt Fence.wide (n - 1) Try.prog yl #[.int .u64 x] W fun e W' =>
      (e = .returned (.bool true) ∧ J (pre ++ [x]) W' ∧ Below n₀ W W') ∨ (e = .returned (.bool false) ∧ Jx (pre ++ [x]) W'))
    (W : World) (hJ : AbidesFrom W.heap.size J) (hn₀ : n₀ ≤ W.heap.size) (hBl : W.cell? ⟨Bl, 0, none⟩ = some (.slice p l.length cap)) (lBl : Bl < n₀)
    (hBh : W.cell? ⟨Bh, 0, none⟩ = some (.func (.func 64) #[] #[.pointer (some ⟨Bx, 0, none⟩)])) (lBh : Bh < n₀) (hS : IRow .u64 n₀ W p l)
    (CH : ∀ (x : Int) (wr : World), 0 ≤ x → x < 18446744073709551616 → Below n₀ W wr → Calls Try.prog 64 #[.int .u64 x, .pointer (some ⟨Bx, 0, none⟩)] wr fun e w' => e = .returned (.bool (h x)) ∧ Below wr.heap.size wr w')
    (h0 : J [] W) :
    CallsIn Fence.wide n Try.prog 87 #[.func (.yield yl) #[] #[], .pointer (some ⟨Bl, 0, none⟩), .pointer (some ⟨Bh, 0, none⟩)] W fun e W' => (∃ v, e = .returned v) ∧
      ((∃ ys, ys = tolL l h ∧ J ys W') ∨ (∃ pre, pre.length ≤ l.length ∧ Jx pre W')) := by
  have CM := mayBe_any p l cap W (hS.mono hn₀) hU hlen
  have HS := hidOg hS
  have HU := hidOg hU
  clear hS hU
  cases hm : mayT l
  · have HT : Hid (tolL l h = []) := by unfold Hid tolL; rw [hm]; rfl
    rw [hm] at CM
    clear hm
    refine callsIn_of_wp Try.func87 rfl trivial ?_ rfl
    simp only [Try.ntmps87, List.size_toArray, List.length_cons, List.length_nil, Nat.reduceAdd, Nat.reduceSub, Array.replicate_succ, Array.replicate_zero, List.push_toArray, List.append_toArray, List.nil_append, List.cons_append]
    have h47 : Fence.wide.fn 47 := trivial
    gi_wp2_with (first | (gi_at_call 47; refine (callsIn_wide.2 CM).mono ?_; rintro e w1 ⟨rfl, hb1⟩))
    refine bodyPost_ret (results_none rfl _ _ _) rfl ?_
    exact ⟨⟨_, rfl⟩, .inl ⟨_, HT.out.symm, hJ _ W w1 none h0 (grown_of_below hb1) (fun r e => by cases e)⟩⟩
  · have HT : Hid (tolL l h = tolN l h l.length) := by unfold Hid tolL; rw [hm]; rfl
    rw [hm] at CM
    clear hm
    refine callsIn_of_wp Try.func87 rfl trivial ?_ rfl
    simp only [Try.ntmps87, List.size_toArray, List.length_cons, List.length_nil, Nat.reduceAdd, Nat.reduceSub, Array.replicate_succ, Array.replicate_zero, List.push_toArray, List.append_toArray, List.nil_append, List.cons_append]
    have h47 : Fence.wide.fn 47 := trivial
    have h64 : Fence.wide.fn 64 := trivial
    gi_wp2_with (first | (gi_at_call 47; refine (callsIn_wide.2 CM).mono ?_; rintro e w1 ⟨rfl, hb1⟩; have c1 : w1.cell? ⟨Bl, 0, none⟩ = some (.slice p l.length cap) := (hb1.cell (p := ⟨Bl, 0, none⟩) (by simp; omega)).trans hBl; have h01 := hJ _ W w1 none h0 (grown_of_below hb1) (fun r e => by cases e)))
    clear CM
    gi_loopw [11] (fun i wr => ∃ k : Nat, k ≤ l.length ∧ i = .int .i64 k ∧ J (tolN l h k) wr ∧ Below n₀ W wr)
      (fun i _ => l.length - (intOf i).toNat)
    case atStart => exact ⟨0, Nat.zero_le _, rfl, h01, hb1.mono hn₀⟩
    case round =>
      obtain ⟨k, hk, rfl, hJs, hnx⟩ := hrel
      have hsz := hnx.size
      have HJ := hidOg hJs
      have HX := hidOg hnx
      clear hJs hnx h01 hb1 c1
      by_cases hlt : k < l.length
      · obtain ⟨b, off, rfl, hbB, hcs⟩ := (HS.out.below HX.out (Nat.le_refl _)) (by omega)
        have c0 := hcs k hlt
        clear hcs
        have cf : wr.cell? ⟨Bh, 0, none⟩ = some (.func (.func 64) #[] #[.pointer (some ⟨Bx, 0, none⟩)]) := (HX.out.cell (p := ⟨Bh, 0, none⟩) lBh).trans hBh
        have HL : Hid ((tolN l h k).length ≤ k) := tolN_len l h k
        obtain ⟨u0, u1⟩ := HU.out.at hlt
        have CC := CH (iG l k) wr u0 u1 HX.out
        have HT1 : Hid (h (iG l k) = true → tolN l h (k + 1) = tolN l h k ++ [iG l k]) := tolN_t
        have HT0 : Hid (h (iG l k) = false → tolN l h (k + 1) = tolN l h k) := tolN_f
        obtain ⟨x, hx⟩ : ∃ x, x = iG l k := ⟨_, rfl⟩
        rw [← hx] at c0 u0 u1 CC HT1 HT0
        clear hx
        cases ha : h x
        · have HA := hidOg (HT0.out ha)
          rw [ha] at CC
          clear ha HT0 HT1
          gi_wp2_with (first | (gi_at_call 64; refine (callsIn_wide.2 CC).mono ?_; rintro e w1 ⟨rfl, hb1⟩))
          refine ⟨fun _ h => (by cases h), ?_⟩
          gi_wp2
          go_roundw
          case rel => exact ⟨k + 1, by omega, by go_num, by rw [HA.out]; exact hJ _ _ w1 none HJ.out (grown_of_below hb1) (fun r e => by cases e), HX.out.trans (hb1.mono (by omega))⟩
          case measure => simp [intOf]; omega
        · have HA := hidOg (HT1.out ha)
          rw [ha] at CC
          clear ha HT0 HT1
          gi_wp2_with (first | (gi_at_call 64; refine (callsIn_wide.2 CC).mono ?_; rintro e w1 ⟨rfl, hb1⟩; obtain ⟨fn, tmps, assign, body, hy, hR⟩ := hY (tolN l h k) x w1 (hJ _ _ w1 none HJ.out (grown_of_below hb1) (fun r e => by cases e)) (Nat.lt_of_le_of_lt HL.out hlt) u0 u1))
          refine hR.mono ?_
          rintro e W3 (⟨rfl, hJ3, hk3⟩ | ⟨rfl, hJx3⟩)
          · gi_wp2
            go_roundw
            case rel => exact ⟨k + 1, by omega, by go_num, by rw [HA.out]; exact hJ3, (HX.out.trans (hb1.mono (by omega))).trans hk3⟩
            case measure => simp [intOf]; omega
          · gi_wp2
            refine bodyPost_ret (results_none rfl _ _ _) rfl ?_
            exact ⟨⟨_, rfl⟩, .inr ⟨_, (by have := HL.out; simp; omega), hJx3⟩⟩
      · obtain rfl : k = l.length := by omega
        gi_wp2
        go_end0
        exact ⟨⟨_, rfl⟩, .inl ⟨_, HT.out.symm, HJ.out⟩⟩

theorem told_stops_64 (n : Nat) (hn : 1 ≤ n) (Bl Bh Bx n₀ : Nat) (p : Option Addr) (l : List Int) (cap : Nat) (h : Int → Bool) (hlen : l.length < 1152921504606846976) (hU : U64 l) (w : World) (hn₀ : n₀ ≤ w.heap.size)
    (hBl : w.cell? ⟨Bl, 0, none⟩ = some (.slice p l.length cap)) (lBl : Bl < n₀)
    (hBh : w.cell? ⟨Bh, 0, none⟩ = some (.func (.func 64) #[] #[.pointer (some ⟨Bx, 0, none⟩)])) (lBh : Bh < n₀) (hS : IRow .u64 n₀ w p l)
    (CH : ∀ (x : Int) (wr : World), 0 ≤ x → x < 18446744073709551616 → Below n₀ w wr → Calls Try.prog 64 #[.int .u64 x, .pointer (some ⟨Bx, 0, none⟩)] wr fun e w' => e = .returned (.bool (h x)) ∧ Below wr.heap.size wr w') :
    SeqStopsK Fence.wide n Try.prog 87 #[.pointer (some ⟨Bl, 0, none⟩), .pointer (some ⟨Bh, 0, none⟩)] (fun x : Int => #[Value.int .u64 x]) (Below n₀) (fun ys => ys = tolL l h) (fun pre => pre.length ≤ l.length) l.length w := fun yl J Jx W hW hJ _ hY h0 =>
  told1_64 n hn yl Bl Bh Bx n₀ p l cap h hlen hU J Jx (fun pre x W hj hl _ _ => hY pre x W hj hl) W hJ (Nat.le_trans hn₀ hW.size) ((hW.cell (p := ⟨Bl, 0, none⟩) (by simp; omega)).trans hBl) lBl ((hW.cell (p := ⟨Bh, 0, none⟩) (by simp; omega)).trans hBh) lBh (hS.below hW hn₀)
    (fun x wr h0 h1 hb => CH x wr h0 h1 ((hW.mono hn₀).trans hb)) h0

set_option maxRecDepth 100000 in
set_option maxHeartbeats 2000000 in
theorem told1_67 (n : Nat) (hn : 1 ≤ n) (yl Bl Bh Bx n₀ : Nat) (p : Option Addr) (l : List Int) (cap : Nat) (h : Int → Bool) (hlen : l.length < 1152921504606846976) (hU : U64 l) (J Jx : List Int → World → Prop)
    (hY : ∀ pre x W, J pre W → pre.length < l.length → 0 ≤ x → x < 18446744073709551616 → YieldAt Fence.wide (n - 1) Try.prog yl #[.int .u64 x] W fun e W' =>
      (e = .returned (.bool true) ∧ J (pre ++ [x]) W' ∧ Below n₀ W W') ∨ (e = .returned (.bool false) ∧ Jx (pre ++ [x]) W'))
    (W : World) (hJ : AbidesFrom W.heap.size J) (hn₀ : n₀ ≤ W.heap.size) (hBl : W.cell? ⟨Bl, 0, none⟩ = some (.slice p l.length cap)) (lBl : Bl < n₀)
    (hBh : W.cell? ⟨Bh, 0, none⟩ = some (.func (.func 67) #[] #[.pointer (some ⟨Bx, 0, none⟩)])) (lBh : Bh < n₀) (hS : IRow .u64 n₀ W p l)
    (CH : ∀ (x : Int) (wr : World), 0 ≤ x → x < 18446744073709551616 → Below n₀ W wr → Calls Try.prog 67 #[.int .u64 x, .pointer (some ⟨Bx, 0, none⟩)] wr fun e w' => e = .returned (.bool (h x)) ∧ Below wr.heap.size wr w')
    (h0 : J [] W) :
    CallsIn Fence.wide n Try.prog 87 #[.func (.yield yl) #[] #[], .pointer (some ⟨Bl, 0, none⟩), .pointer (some ⟨Bh, 0, none⟩)] W fun e W' => (∃ v, e = .returned v) ∧
      ((∃ ys, ys = tolL l h ∧ J ys W') ∨ (∃ pre, pre.length ≤ l.length ∧ Jx pre W')) := by
  have CM := mayBe_any p l cap W (hS.mono hn₀) hU hlen
  have HS := hidOg hS
  have HU := hidOg hU
  clear hS hU
  cases hm : mayT l
  · have HT : Hid (tolL l h = []) := by unfold Hid tolL; rw [hm]; rfl
    rw [hm] at CM
    clear hm
    refine callsIn_of_wp Try.func87 rfl trivial ?_ rfl
    simp only [Try.ntmps87, List.size_toArray, List.length_cons, List.length_nil, Nat.reduceAdd, Nat.reduceSub, Array.replicate_succ, Array.replicate_zero, List.push_toArray, List.append_toArray, List.nil_append, List.cons_append]
    have h47 : Fence.wide.fn 47 := trivial
    gi_wp2_with (first | (gi_at_call 47; refine (callsIn_wide.2 CM).mono ?_; rintro e w1 ⟨rfl, hb1⟩))
    refine bodyPost_ret (results_none rfl _ _ _) rfl ?_
    exact ⟨⟨_, rfl⟩, .inl ⟨_, HT.out.symm, hJ _ W w1 none h0 (grown_of_below hb1) (fun r e => by cases e)⟩⟩
  · have HT : Hid (tolL l h = tolN l h l.length) := by unfold Hid tolL; rw [hm]; rfl
    rw [hm] at CM
    clear hm
    refine callsIn_of_wp Try.func87 rfl trivial ?_ rfl
    simp only [Try.ntmps87, List.size_toArray, List.length_cons, List.length_nil, Nat.reduceAdd, Nat.reduceSub, Array.replicate_succ, Array.replicate_zero, List.push_toArray, List.append_toArray, List.nil_append, List.cons_append]
    have h47 : Fence.wide.fn 47 := trivial
    have h67 : Fence.wide.fn 67 := trivial
    gi_wp2_with (first | (gi_at_call 47; refine (callsIn_wide.2 CM).mono ?_; rintro e w1 ⟨rfl, hb1⟩; have c1 : w1.cell? ⟨Bl, 0, none⟩ = some (.slice p l.length cap) := (hb1.cell (p := ⟨Bl, 0, none⟩) (by simp; omega)).trans hBl; have h01 := hJ _ W w1 none h0 (grown_of_below hb1) (fun r e => by cases e)))
    clear CM
    gi_loopw [11] (fun i wr => ∃ k : Nat, k ≤ l.length ∧ i = .int .i64 k ∧ J (tolN l h k) wr ∧ Below n₀ W wr)
      (fun i _ => l.length - (intOf i).toNat)
    case atStart => exact ⟨0, Nat.zero_le _, rfl, h01, hb1.mono hn₀⟩
    case round =>
      obtain ⟨k, hk, rfl, hJs, hnx⟩ := hrel
      have hsz := hnx.size
      have HJ := hidOg hJs
      have HX := hidOg hnx
      clear hJs hnx h01 hb1 c1
      by_cases hlt : k < l.length
      · obtain ⟨b, off, rfl, hbB, hcs⟩ := (HS.out.below HX.out (Nat.le_refl _)) (by omega)
        have c0 := hcs k hlt
        clear hcs
        have cf : wr.cell? ⟨Bh, 0, none⟩ = some (.func (.func 67) #[] #[.pointer (some ⟨Bx, 0, none⟩)]) := (HX.out.cell (p := ⟨Bh, 0, none⟩) lBh).trans hBh
        have HL : Hid ((tolN l h k).length ≤ k) := tolN_len l h k
        obtain ⟨u0, u1⟩ := HU.out.at hlt
        have CC := CH (iG l k) wr u0 u1 HX.out
        have HT1 : Hid (h (iG l k) = true → tolN l h (k + 1) = tolN l h k ++ [iG l k]) := tolN_t
        have HT0 : Hid (h (iG l k) = false → tolN l h (k + 1) = tolN l h k) := tolN_f
        obtain ⟨x, hx⟩ : ∃ x, x = iG l k := ⟨_, rfl⟩
        rw [← hx] at c0 u0 u1 CC HT1 HT0
        clear hx
        cases ha : h x
        · have HA := hidOg (HT0.out ha)
          rw [ha] at CC
          clear ha HT0 HT1
          gi_wp2_with (first | (gi_at_call 67; refine (callsIn_wide.2 CC).mono ?_; rintro e w1 ⟨rfl, hb1⟩))
          refine ⟨fun _ h => (by cases h), ?_⟩
          gi_wp2
          go_roundw
          case rel => exact ⟨k + 1, by omega, by go_num, by rw [HA.out]; exact hJ _ _ w1 none HJ.out (grown_of_below hb1) (fun r e => by cases e), HX.out.trans (hb1.mono (by omega))⟩
          case measure => simp [intOf]; omega
        · have HA := hidOg (HT1.out ha)
          rw [ha] at CC
          clear ha HT0 HT1
          gi_wp2_with (first | (gi_at_call 67; refine (callsIn_wide.2 CC).mono ?_; rintro e w1 ⟨rfl, hb1⟩; obtain ⟨fn, tmps, assign, body, hy, hR⟩ := hY (tolN l h k) x w1 (hJ _ _ w1 none HJ.out (grown_of_below hb1) (fun r e => by cases e)) (Nat.lt_of_le_of_lt HL.out hlt) u0 u1))
          refine hR.mono ?_
          rintro e W3 (⟨rfl, hJ3, hk3⟩ | ⟨rfl, hJx3⟩)
          · gi_wp2
            go_roundw
            case rel => exact ⟨k + 1, by omega, by go_num, by rw [HA.out]; exact hJ3, (HX.out.trans (hb1.mono (by omega))).trans hk3⟩
            case measure => simp [intOf]; omega
          · gi_wp2
            refine bodyPost_ret (results_none rfl _ _ _) rfl ?_
            exact ⟨⟨_, rfl⟩, .inr ⟨_, (by have := HL.out; simp; omega), hJx3⟩⟩
      · obtain rfl : k = l.length := by omega
        gi_wp2
        go_end0
        exact ⟨⟨_, rfl⟩, .inl ⟨_, HT.out.symm, HJ.out⟩⟩

theorem told_stops_67 (n : Nat) (hn : 1 ≤ n) (Bl Bh Bx n₀ : Nat) (p : Option Addr) (l : List Int) (cap : Nat) (h : Int → Bool) (hlen : l.length < 1152921504606846976) (hU : U64 l) (w : World) (hn₀ : n₀ ≤ w.heap.size)
    (hBl : w.cell? ⟨Bl, 0, none⟩ = some (.slice p l.length cap)) (lBl : Bl < n₀)
    (hBh : w.cell? ⟨Bh, 0, none⟩ = some (.func (.func 67) #[] #[.pointer (some ⟨Bx, 0, none⟩)])) (lBh : Bh < n₀) (hS : IRow .u64 n₀ w p l)
    (CH : ∀ (x : Int) (wr : World), 0 ≤ x → x < 18446744073709551616 → Below n₀ w wr → Calls Try.prog 67 #[.int .u64 x, .pointer (some ⟨Bx, 0, none⟩)] wr fun e w' => e = .returned (.bool (h x)) ∧ Below wr.heap.size wr w') :
    SeqStopsK Fence.wide n Try.prog 87 #[.pointer (some ⟨Bl, 0, none⟩), .pointer (some ⟨Bh, 0, none⟩)] (fun x : Int => #[Value.int .u64 x]) (Below n₀) (fun ys => ys = tolL l h) (fun pre => pre.length ≤ l.length) l.length w := fun yl J Jx W hW hJ _ hY h0 =>
  told1_67 n hn yl Bl Bh Bx n₀ p l cap h hlen hU J Jx (fun pre x W hj hl _ _ => hY pre x W hj hl) W hJ (Nat.le_trans hn₀ hW.size) ((hW.cell (p := ⟨Bl, 0, none⟩) (by simp; omega)).trans hBl) lBl ((hW.cell (p := ⟨Bh, 0, none⟩) (by simp; omega)).trans hBh) lBh (hS.below hW hn₀)
    (fun x wr h0 h1 hb => CH x wr h0 h1 ((hW.mono hn₀).trans hb)) h0

/-- A number of 64 bits. -/
abbrev N64 := { x : Int // 0 ≤ x ∧ x < 18446744073709551616 }
theorem told_stops64 (n : Nat) (hn : 1 ≤ n) (Bl Bh Bx n₀ : Nat) (p : Option Addr) (l : List Int) (cap : Nat) (h : Int → Bool) (hlen : l.length < 1152921504606846976) (hU : U64 l) (w : World) (hn₀ : n₀ ≤ w.heap.size)
    (hBl : w.cell? ⟨Bl, 0, none⟩ = some (.slice p l.length cap)) (lBl : Bl < n₀)
    (hBh : w.cell? ⟨Bh, 0, none⟩ = some (.func (.func 64) #[] #[.pointer (some ⟨Bx, 0, none⟩)])) (lBh : Bh < n₀) (hS : IRow .u64 n₀ w p l)
    (CH : ∀ (x : Int) (wr : World), 0 ≤ x → x < 18446744073709551616 → Below n₀ w wr → Calls Try.prog 64 #[.int .u64 x, .pointer (some ⟨Bx, 0, none⟩)] wr fun e w' => e = .returned (.bool (h x)) ∧ Below wr.heap.size wr w') :
    SeqStopsK Fence.wide n Try.prog 87 #[.pointer (some ⟨Bl, 0, none⟩), .pointer (some ⟨Bh, 0, none⟩)] (fun x : N64 => #[Value.int .u64 x.1]) (Below n₀) (fun ys => ys.map Subtype.val = tolL l h) (fun pre => pre.length ≤ l.length) l.length w := fun yl J Jx W hW hJ _ hY h0 => by
  refine (told1_64 n hn yl Bl Bh Bx n₀ p l cap h hlen hU (fun pre W => ∃ ps : List N64, ps.map Subtype.val = pre ∧ J ps W) (fun pre W => ∃ ps : List N64, ps.map Subtype.val = pre ∧ Jx ps W) ?_ W ?_ (Nat.le_trans hn₀ hW.size) ((hW.cell (p := ⟨Bl, 0, none⟩) (by simp; omega)).trans hBl) lBl ((hW.cell (p := ⟨Bh, 0, none⟩) (by simp; omega)).trans hBh) lBh (hS.below hW hn₀)
    (fun x wr h0 h1 hb => CH x wr h0 h1 ((hW.mono hn₀).trans hb)) ⟨[], rfl, h0⟩).mono ?_
  · rintro pre x W ⟨ps, rfl, hj⟩ hl u0 u1
    obtain ⟨fn, tmps, assign, body, hy, hR⟩ := hY ps ⟨x, u0, u1⟩ W hj (by simpa using hl)
    refine ⟨fn, tmps, assign, body, hy, hR.mono ?_⟩
    rintro e W' (⟨rfl, h1, h2⟩ | ⟨rfl, h1⟩)
    · exact .inl ⟨rfl, ⟨ps ++ [⟨x, u0, u1⟩], by simp, h1⟩, h2⟩
    · exact .inr ⟨rfl, ps ++ [⟨x, u0, u1⟩], by simp, h1⟩
  · rintro pre W W' row ⟨ps, rfl, hj⟩ hg hr
    exact ⟨ps, rfl, hJ ps W W' row hj hg hr⟩
  · rintro e W' ⟨he, ⟨ys, rfl, ps, hp, hj⟩ | ⟨pre, hl, ps, rfl, hj⟩⟩
    · exact ⟨he, .inl ⟨ps, hp, hj⟩⟩
    · exact ⟨he, .inr ⟨ps, by simpa using hl, hj⟩⟩
end Go.Proofs.Ytooaghcjlomcpaa
