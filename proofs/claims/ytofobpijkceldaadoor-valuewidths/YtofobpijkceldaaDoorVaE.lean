/- texts, and what it hands back: the texts of a value's words. -/
import Derived.RangeFuncNested
import Derived.RangeFuncBound
import Derived.RangeFuncCalls
import Derived.RangeFuncLeaves
import Derived.RangeFuncBox
import Derived.Shelf.Abstract
import Derived.Shelf.RegionOpen
import Derived.WalkKit
import Derived.OwnWalkIn
import Derived.TacticsInMore
import Derived.LoopNIn
import Derived.LoopIn
import Derived.Test.YtofobpijkceldaaDoorVaD
import Derived.Test.YtofobpijkceldaaDoorVaA
namespace Go.Proofs.YtofobpijkceldaaDoor
open Go.RowKit Go.Shelf
attribute [local go_sem] Oper.semAt_some

/-- A word. -/
abbrev Wd := {x : Nat // x < 18446744073709551616}
def toWd (x : Int) : Wd := ⟨x.toNat % 18446744073709551616, Nat.mod_lt _ (by omega)⟩
/-- The text of a word. -/
def wT (x : Wd) : ByteArray := ⟨(hexW x.1).toArray⟩
theorem wT_size (x : Wd) : 1 ≤ (wT x).size ∧ (wT x).size ≤ 16 := by
  have a := hexW_pos x.1; have b := hexW_len16 x.1 x.2
  have e : (wT x).size = (hexW x.1).length := by unfold wT; rfl
  omega
/-- The first k words. -/
def texN (l : List Int) (k : Nat) : List Wd := (l.take k).map toWd
theorem texN_succ {l : List Int} {k : Nat} (h : k < l.length) : texN l (k + 1) = texN l k ++ [toWd (iG l k)] := by
  unfold texN; rw [List.take_succ_eq_append_getElem h, iG_eq h, List.map_append]; rfl
theorem texN_len (l : List Int) (k : Nat) : (texN l k).length ≤ k := by unfold texN; simp; omega

theorem texts36 (p : Option Addr) (n c : Nat) (w : World) :
    Calls Tryd.prog 36 #[.slice p n c] w fun e w' => e = .returned (.func (.func 41) #[] #[.pointer (some ⟨w.heap.size, 0, none⟩)]) ∧ w' = w.alloc (.cells #[.slice p n c] 26) := by
  go_enter Tryd.func36, Tryd.ntmps36
  go_wp2
  go_ret
  exact ⟨rfl, rfl⟩

set_option maxRecDepth 100000 in
set_option maxHeartbeats 2000000 in
theorem texts1_41 (n : Nat) (hn : 1 ≤ n) (yl Bl n₀ : Nat) (p : Option Addr) (l : List Int) (cap : Nat) (hlen : l.length < 1152921504606846976) (hU : U64 l) (J Jx : List Wd → World → Prop)
    (hY : ∀ pre x W, J pre W → pre.length < l.length → YieldAt Fence.wide (n - 1) Tryd.prog yl #[.string (wT x)] W fun e W' =>
      (e = .returned (.bool true) ∧ J (pre ++ [x]) W' ∧ Below n₀ W W') ∨ (e = .returned (.bool false) ∧ Jx (pre ++ [x]) W'))
    (W : World) (hJ : AbidesFrom W.heap.size J) (hn₀ : n₀ ≤ W.heap.size) (hBl : W.cell? ⟨Bl, 0, none⟩ = some (.slice p l.length cap)) (hS : IRow .u64 n₀ W p l) (hT : Tb W) (h3 : 3 < n₀)
    (h0 : J [] W) :
    CallsIn Fence.wide n Tryd.prog 41 #[.func (.yield yl) #[] #[], .pointer (some ⟨Bl, 0, none⟩)] W fun e W' => (∃ v, e = .returned v) ∧
      ((∃ ys, ys = texN l l.length ∧ J ys W') ∨ (∃ pre, pre.length ≤ l.length ∧ Jx pre W')) := by
  have HS := hidOg hS
  have HU := hidOg hU
  have HT := hidOg hT
  clear hS hU hT
  refine callsIn_of_wp Tryd.func41 rfl trivial ?_ rfl
  simp only [Tryd.ntmps41, List.size_toArray, List.length_cons, List.length_nil, Nat.reduceAdd, Nat.reduceSub, Array.replicate_succ, Array.replicate_zero, List.push_toArray, List.append_toArray, List.nil_append, List.cons_append]
  have h42 : Fence.wide.fn 42 := trivial
  gi_wp2
  gi_loopw [7] (fun i wr => ∃ k : Nat, k ≤ l.length ∧ i = .int .i64 k ∧ J (texN l k) wr ∧ Below n₀ W wr)
    (fun i _ => l.length - (intOf i).toNat)
  case atStart => exact ⟨0, Nat.zero_le _, rfl, h0, Below.refl _ _⟩
  case round =>
    obtain ⟨k, hk, rfl, hJs, hnx⟩ := hrel
    have hsz := hnx.size
    have HJ := hidOg hJs
    have HX := hidOg hnx
    clear hJs hnx h0
    by_cases hlt : k < l.length
    · obtain ⟨b, off, rfl, hbB, hcs⟩ := (HS.out.below HX.out (Nat.le_refl _)) (by omega)
      have c0 := hcs k hlt
      clear hcs
      have HL : Hid ((texN l k).length ≤ k) := texN_len l k
      obtain ⟨u0, u1⟩ := HU.out.at hlt
      have HE := hidOg (texN_succ hlt)
      obtain ⟨x, hx⟩ : ∃ x : Nat, iG l k = (x : Int) := ⟨(iG l k).toNat, by omega⟩
      have hx64 : x < 18446744073709551616 := by omega
      have CC := fmt42 x hx64 wr (HT.out.below h3 HX.out)
      obtain ⟨y, hy⟩ : ∃ y : Wd, y = toWd (iG l k) := ⟨_, rfl⟩
      have ey : y.1 = x := by rw [hy, hx]; simp [toWd]; omega
      rw [← hy] at HE
      rw [hx] at c0
      have ew : (⟨(hexW x).toArray⟩ : ByteArray) = wT y := by unfold wT; rw [ey]
      rw [ew] at CC
      clear hx u0 u1 ew hy ey
      gi_wp2_with (first | (gi_at_call 42; refine (callsIn_wide.2 CC).mono ?_; rintro e w1 ⟨rfl, hb1⟩; obtain ⟨fn, tmps, assign, body, hy, hR⟩ := hY (texN l k) y w1 (hJ _ _ w1 none HJ.out (grown_of_below hb1) (fun r e => by cases e)) (Nat.lt_of_le_of_lt HL.out hlt)))
      refine hR.mono ?_
      rintro e W3 (⟨rfl, hJ3, hk3⟩ | ⟨rfl, hJx3⟩)
      · gi_wp2
        go_roundw
        case rel => exact ⟨k + 1, by omega, by go_num, by rw [HE.out]; exact hJ3, (HX.out.trans (hb1.mono (by omega))).trans hk3⟩
        case measure => simp [intOf]; omega
      · gi_wp2
        refine bodyPost_ret (results_none rfl _ _ _) rfl ?_
        exact ⟨⟨_, rfl⟩, .inr ⟨_, (by have := HL.out; simp; omega), hJx3⟩⟩
    · obtain rfl : k = l.length := by omega
      gi_wp2
      go_end0
      exact ⟨⟨_, rfl⟩, .inl ⟨_, rfl, HJ.out⟩⟩

theorem texts_stops (n : Nat) (hn : 1 ≤ n) (Bl n₀ : Nat) (p : Option Addr) (l : List Int) (cap : Nat) (hlen : l.length < 1152921504606846976) (hU : U64 l) (w : World) (hn₀ : n₀ ≤ w.heap.size)
    (hBl : w.cell? ⟨Bl, 0, none⟩ = some (.slice p l.length cap)) (lBl : Bl < w.heap.size) (hS : IRow .u64 n₀ w p l) (hT : Tb w) (h3 : 3 < n₀) :
    SeqStopsK Fence.wide n Tryd.prog 41 #[.pointer (some ⟨Bl, 0, none⟩)] (fun x : Wd => #[Value.string (wT x)]) (Below n₀) (fun ys => ys = texN l l.length) (fun pre => pre.length ≤ l.length) l.length w := fun yl J Jx W hW hJ _ hY h0 =>
  texts1_41 n hn yl Bl n₀ p l cap hlen hU J Jx (fun pre x W hj hl => hY pre x W hj hl) W hJ (Nat.le_trans hn₀ hW.size) ((hW.cell (p := ⟨Bl, 0, none⟩) lBl).trans hBl) (hS.below hW hn₀) (hT.to hW) h3 h0
end Go.Proofs.YtofobpijkceldaaDoor
