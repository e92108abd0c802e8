/- entity, living and what it hands back: those that are alive, by their indexes. -/
import Derived.RangeFuncNested
import Derived.RangeFuncBound
import Derived.RangeFuncCalls
import Derived.RangeFuncLeaves
import Derived.Shelf.Abstract
import Derived.Shelf.RegionOpen
import Derived.WalkKit
import Derived.OwnWalkIn
import Derived.TacticsInMore
import Derived.LoopNIn
import Derived.LoopIn
import Derived.Test.YtaglhajlgnjhcaaDoorAlF
import Derived.Test.YtaglhajlgnjhcaaDoorIdF
namespace Go.Proofs.YtaglhajlgnjhcaaDoor
open Go.RowKit Go.Shelf
attribute [local go_sem] Oper.semAt_some

theorem entity45 (i g : Int) (a : Bool) (w : World) :
    Calls Tryd.prog 45 #[.int .i64 i, .agg #[.int .i64 g, .bool a]] w fun e w' => e = .returned (.int .u64 (entV i g)) ∧ Below w.heap.size w w' := by
  go_enter Tryd.func45, Tryd.ntmps45
  go_wp2_with (first | (go_at_call 64; refine Calls.mono (entity_any i g _) ?_; rintro e w1 ⟨rfl, hb⟩))
  go_ret
  exact ⟨rfl, below1 hb⟩

/-- Those that are alive among the first k slots. -/
def livN (l : List (Int × Bool)) : Nat → List Int
  | 0 => []
  | k + 1 => livN l k ++ if sA l k then [entV ((k : Int) + 1) (sG l k)] else []
theorem livN_len (l : List (Int × Bool)) (k : Nat) : (livN l k).length ≤ k := by
  induction k with
  | zero => simp [livN]
  | succ k ih => unfold livN; rw [List.length_append]; split <;> simp <;> omega
theorem livN_t {l : List (Int × Bool)} {k : Nat} (h : sA l k = true) : livN l (k + 1) = livN l k ++ [entV ((k : Int) + 1) (sG l k)] := by
  show livN l k ++ (if sA l k then _ else _) = _; rw [h]; rfl
theorem livN_f {l : List (Int × Bool)} {k : Nat} (h : sA l k = false) : livN l (k + 1) = livN l k := by
  show livN l k ++ (if sA l k then _ else _) = _; rw [h]; simp

theorem grown_of_below {w w' : World} (hb : Below w.heap.size w w') : w.grownBy w' none := ⟨hb.os, hb.tape, hb.output, hb.size, fun k hk _ => hb.block k hk⟩

theorem living_in (m : Int) (p : Option Addr) (n c : Nat) (q : Option Addr) (k d : Nat) (w : World) :
    Calls Tryd.prog 42 #[.agg #[.int .i64 m, .slice p n c, .slice q k d]] w fun e w' => e = .returned (.func (.func 62) #[] #[.pointer (some ⟨w.heap.size, 0, none⟩)]) ∧ w' = w.alloc (.cells #[.int .i64 m, .slice p n c, .slice q k d] 25) := by
  go_enter Tryd.func42, Tryd.ntmps42
  go_wp2
  go_ret
  exact ⟨rfl, rfl⟩

set_option maxRecDepth 100000 in
set_option maxHeartbeats 2000000 in
theorem living1_in (n : Nat) (hn : 1 ≤ n) (l Bs n₀ : Nat) (p : Option Addr) (sl : List (Int × Bool)) (cap : Nat) (hlen : sl.length < 1152921504606846976) (J Jx : List Int → World → Prop)
    (hY : ∀ pre x W, J pre W → pre.length < sl.length → YieldAt Fence.wide (n - 1) Tryd.prog l #[.int .u64 x] W fun e W' =>
      (e = .returned (.bool true) ∧ J (pre ++ [x]) W' ∧ Below n₀ W W') ∨ (e = .returned (.bool false) ∧ Jx (pre ++ [x]) W'))
    (W : World) (hJ : AbidesFrom W.heap.size J) (hn₀ : n₀ ≤ W.heap.size) (hBs : W.cell? ⟨Bs, 1, none⟩ = some (.slice p sl.length cap)) (hS : SRow n₀ W p sl) (h0 : J [] W) :
    CallsIn Fence.wide n Tryd.prog 62 #[.func (.yield l) #[] #[], .pointer (some ⟨Bs, 0, none⟩)] W fun e W' => (∃ v, e = .returned v) ∧
      ((∃ ys, ys = livN sl sl.length ∧ J ys W') ∨ (∃ pre, (∃ k, k ≤ sl.length ∧ pre = livN sl k) ∧ Jx pre W')) := by
  refine callsIn_of_wp Tryd.func62 rfl trivial ?_ rfl
  simp only [Tryd.ntmps62, List.size_toArray, List.length_cons, List.length_nil, Nat.reduceAdd, Nat.reduceSub, Array.replicate_succ, Array.replicate_zero, List.push_toArray, List.append_toArray, List.nil_append, List.cons_append]
  have h45 : Fence.wide.fn 45 := trivial
  gi_wp2
  gi_loopw [8] (fun i wr => ∃ k : Nat, k ≤ sl.length ∧ i = .int .i64 k ∧ J (livN sl k) wr ∧ Below n₀ W wr)
    (fun i _ => sl.length - (intOf i).toNat)
  case atStart => exact ⟨0, Nat.zero_le _, rfl, h0, Below.refl _ _⟩
  case round =>
    obtain ⟨k, hk, rfl, hJs, hnx⟩ := hrel
    have hsz := hnx.size
    by_cases hlt : k < sl.length
    · obtain ⟨b, off, rfl, hbB, hcs⟩ := (hS.below hnx (Nat.le_refl _)) (by omega)
      obtain ⟨c0, c1⟩ := hcs k hlt
      clear hcs
      have hJa : ∀ o, J (livN sl k) (wr.alloc o) := fun o => hJ _ wr (wr.alloc o) none hJs (World.grownBy_alloc wr o none) (fun r e => by cases e)
      have HL : Hid ((livN sl k).length ≤ k) := livN_len sl k
      cases ha : sA sl k
      · rw [ha] at c1
        have HA : Hid (sA sl k = false) := ha
        clear ha
        gi_wp2
        refine ⟨fun _ h => (by cases h), ?_⟩
        gi_wp2
        go_roundw
        case rel => exact ⟨k + 1, by omega, by go_num, by rw [livN_f HA.out]; exact hJa _, hnx.alloc (by omega) _⟩
        case measure => simp [intOf]; omega
      · rw [ha] at c1
        have HA : Hid (sA sl k = true) := ha
        clear ha
        gi_wp2_with (first | (gi_at_call 45; refine (callsIn_wide.2 (entity45 ((k : Int) + 1) (sG sl k) true _)).mono ?_; rintro e w1 ⟨rfl, hb1⟩; obtain ⟨fn, tmps, assign, body, hy, hR⟩ := hY (livN sl k) (entV ((k : Int) + 1) (sG sl k)) w1 (hJ _ _ w1 none (hJa _) (grown_of_below hb1) (fun r e => by cases e)) (Nat.lt_of_le_of_lt HL.out hlt)))
        refine hR.mono ?_
        rintro e W3 (⟨rfl, hJ3, hk3⟩ | ⟨rfl, hJx3⟩)
        · gi_wp2
          go_roundw
          case rel => exact ⟨k + 1, by omega, by go_num, by rw [livN_t HA.out]; exact hJ3, ((hnx.alloc (by omega) _).trans (hb1.mono (by simp; omega))).trans hk3⟩
          case measure => simp [intOf]; omega
        · gi_wp2
          refine bodyPost_ret (results_none rfl _ _ _) rfl ?_
          exact ⟨⟨_, rfl⟩, .inr ⟨_, ⟨k + 1, by omega, (livN_t HA.out).symm⟩, hJx3⟩⟩
    · obtain rfl : k = sl.length := by omega
      gi_wp2
      go_end0
      exact ⟨⟨_, rfl⟩, .inl ⟨_, rfl, hJs⟩⟩

theorem living_stops (n : Nat) (hn : 1 ≤ n) (Bs n₀ : Nat) (p : Option Addr) (sl : List (Int × Bool)) (cap : Nat) (hlen : sl.length < 1152921504606846976) (w : World) (hBs : Bs < w.heap.size) (hn₀ : n₀ ≤ w.heap.size)
    (hc : w.cell? ⟨Bs, 1, none⟩ = some (.slice p sl.length cap)) (hS : SRow n₀ w p sl) :
    SeqStopsK Fence.wide n Tryd.prog 62 #[.pointer (some ⟨Bs, 0, none⟩)] (fun x : Int => #[Value.int .u64 x]) (Below n₀) (fun ys => ys = livN sl sl.length) (fun pre => ∃ k, k ≤ sl.length ∧ pre = livN sl k) sl.length w := fun l J Jx W hW hJ _ hY h0 =>
  living1_in n hn l Bs n₀ p sl cap hlen J Jx hY W hJ (Nat.le_trans hn₀ hW.size) ((hW.cell (p := ⟨Bs, 1, none⟩) hBs).trans hc) (hS.below hW hn₀) h0
end Go.Proofs.YtaglhajlgnjhcaaDoor
