/- bytesOf, and what it hands back: the bytes of an id, in either order. -/
import Derived.RangeFuncNested
import Derived.RangeFuncBound
import Derived.RangeFuncCalls
import Derived.RangeFuncLeaves
import Derived.RangeFuncBox
import Derived.Shelf.Abstract
import Derived.Shelf.RegionOpen
import Derived.Stop.RegionWithIn
import Derived.WalkKit
import Derived.OwnWalkIn
import Derived.TacticsInMore
import Derived.LoopNIn
import Derived.LoopIn
import Derived.Laws.BitsAllLaws
import Derived.Test.YtjnhalomkmdcgaaHaA
import Derived.Test.YtjnhalomkmdcgaaMod
namespace Go.Proofs.Ytjnhalomkmdcgaa
open Go.RowKit Go.Shelf
attribute [local go_sem] Oper.semAt_some

/-- A byte. -/
abbrev By := {x : Nat // x < 256}
def byB (id k : Nat) : By := ⟨byN id k, byN_lt id k⟩
/-- The first k bytes, told in the order o. -/
def bys (o : Nat → Nat) (id : Nat) (k : Nat) : List By := (List.range k).map fun i => byB id (o i)
theorem bys_succ (o : Nat → Nat) (id k : Nat) : bys o id (k + 1) = bys o id k ++ [byB id (o k)] := by
  unfold bys; rw [List.range_succ, List.map_append]; rfl
theorem bys_len (o : Nat → Nat) (id k : Nat) : (bys o id k).length = k := by unfold bys; simp
theorem byte_at (id j : Nat) (hid : id < 18446744073709551616) : bits .and .u64 ((id / 2 ^ (j * 8) : Nat) : Int) 255 = ((byN id j : Nat) : Int) := by
  have h1 : id / 2 ^ (j * 8) < 18446744073709551616 := Nat.lt_of_le_of_lt (Nat.div_le_self _ _) hid
  have := u64_and_nat (id / 2 ^ (j * 8)) 255 h1 (by omega)
  have e : ((255 : Nat) : Int) = 255 := rfl
  rw [e] at this
  rw [this, show (255 : Nat) = 2 ^ 8 - 1 from rfl, Nat.and_two_pow_sub_one_eq_mod]
  unfold byN
  rw [Nat.mul_comm j 8, Nat.pow_mul]
theorem grown_of_below {w w' : World} (hb : Below w.heap.size w w') : w.grownBy w' none := ⟨hb.os, hb.tape, hb.output, hb.size, fun k hk _ => hb.block k hk⟩
theorem below_drew (B : Nat) (w : World) : Below B w w.drew := ⟨rfl, rfl, rfl, Nat.le_refl _, fun _ _ => rfl⟩
theorem bool_out {e : Ending} {A B : Prop} (h : (e = .returned (.bool true) ∧ A) ∨ (e = .returned (.bool false) ∧ B)) : ∃ b, e = .returned (.bool b) ∧ ((b = true ∧ A) ∨ (b = false ∧ B)) := by
  rcases h with ⟨h, a⟩ | ⟨h, a⟩
  · exact ⟨true, h, .inl ⟨rfl, a⟩⟩
  · exact ⟨false, h, .inr ⟨rfl, a⟩⟩

theorem bytesOf24 (id : Int) (g : Nat) (w : World) :
    Calls Try.prog 88 #[.int .u64 id, .func (.func g) #[] #[]] w fun e w' => e = .returned (.func (.func 108) #[] #[.pointer (some ⟨w.heap.size, 0, none⟩), .pointer (some ⟨w.heap.size + 1, 0, none⟩)]) ∧ w' = (w.alloc (.cells #[.int .u64 id] 41)).alloc (.cells #[.func (.func g) #[] #[]] 120) := by
  go_enter Try.func88, Try.ntmps88
  go_wp2
  go_ret
  exact ⟨rfl, rfl⟩

set_option maxRecDepth 100000 in
set_option maxHeartbeats 2000000 in
theorem bytes28_27 (n : Nat) (hn : 1 ≤ n) (yl Bi Bp n₀ id : Nat) (hid : id < 18446744073709551616) (J Jx : List By → World → Prop)
    (hY : ∀ pre x W, J pre W → pre.length < 8 → YieldAt Fence.wide (n - 1) Try.prog yl #[.int .u64 ((x : By).1 : Int)] W fun e W' =>
      (e = .returned (.bool true) ∧ J (pre ++ [x]) W' ∧ Below n₀ W W') ∨ (e = .returned (.bool false) ∧ Jx (pre ++ [x]) W'))
    (W : World) (hJ : AbidesFrom W.heap.size J) (hBi : W.cell? ⟨Bi, 0, none⟩ = some (.int .u64 (id : Int))) (lBi : Bi < n₀)
    (hBp : W.cell? ⟨Bp, 0, none⟩ = some (.func (.func 89) #[] #[])) (lBp : Bp < n₀) (h0 : J [] W) :
    CallsIn Fence.wide n Try.prog 108 #[.func (.yield yl) #[] #[], .pointer (some ⟨Bi, 0, none⟩), .pointer (some ⟨Bp, 0, none⟩)] W fun e W' => (∃ v, e = .returned v) ∧
      ((∃ ys, ys = bys (fun i => i) id 8 ∧ J ys W') ∨ (∃ pre, pre.length ≤ 8 ∧ Jx pre W')) := by
  refine callsIn_of_wp Try.func108 rfl trivial ?_ rfl
  simp only [Try.ntmps108, List.size_toArray, List.length_cons, List.length_nil, Nat.reduceAdd, Nat.reduceSub, Array.replicate_succ, Array.replicate_zero, List.push_toArray, List.append_toArray, List.nil_append, List.cons_append]
  have h27 : Fence.wide.fn 89 := trivial
  gi_wp2
  gi_loopw [5] (fun i wr => ∃ k : Nat, k ≤ 8 ∧ i = .int .i64 k ∧ J (bys (fun i => i) id k) wr ∧ Below n₀ W wr)
    (fun i _ => 8 - (intOf i).toNat)
  case atStart => exact ⟨0, Nat.zero_le _, rfl, h0, Below.refl _ _⟩
  case round =>
    obtain ⟨k, hk, rfl, hJs, hnx⟩ := hrel
    have hsz := hnx.size
    have HJ := hidOg hJs
    have HX := hidOg hnx
    clear hJs hnx h0
    by_cases hlt : k < 8
    · have ci : wr.cell? ⟨Bi, 0, none⟩ = some (.int .u64 (id : Int)) := (HX.out.cell (p := ⟨Bi, 0, none⟩) lBi).trans hBi
      have cp : wr.cell? ⟨Bp, 0, none⟩ = some (.func (.func 89) #[] #[]) := (HX.out.cell (p := ⟨Bp, 0, none⟩) lBp).trans hBp
      have CC := fromLowest27 (k : Int)
      have e1 := byte_at id (k) hid
      obtain ⟨y, hy'⟩ : ∃ y : By, y = byB id (k) := ⟨_, rfl⟩
      have ey : ((byN id (k) : Nat) : Int) = ((y.1 : Nat) : Int) := by rw [hy']; rfl
      rw [ey] at e1
      obtain ⟨d, hd⟩ : ∃ d : Nat, d = id / 2 ^ ((k) * 8) := ⟨_, rfl⟩
      have e2 : IntKind.i64.wrap (((k : Nat) : Int) * 8) = ((k : Nat) : Int) * 8 := by simp [IntKind.wrap, IntKind.bits, IntKind.signed]; omega
      have e3 : (id : Int) / 2 ^ (((k : Nat) : Int) * 8).toNat = ((d : Nat) : Int) := by
        have : (((k : Nat) : Int) * 8).toNat = (k) * 8 := by omega
        rw [this, hd]; simp
      rw [← hd] at e1
      have HE : Hid (bys (fun i => i) id (k + 1) = bys (fun i => i) id k ++ [y]) := by unfold Hid; rw [bys_succ, hy']
      have HL : Hid ((bys (fun i => i) id k).length < 8) := by unfold Hid; rw [bys_len]; exact hlt
      obtain ⟨fn, tmps, assign, body, hy, hR⟩ := hY (bys (fun i => i) id k) y wr.drew (hJ _ _ wr.drew none HJ.out (grown_of_below (below_drew _ _)) (fun r e => by cases e)) HL.out
      clear ey hy' hd hY
      gi_wp2
      gi_region_with (first | (gi_at_call 89; refine (callsIn_wide.2 (CC _)).mono ?_; rintro e w1 ⟨rfl, hw⟩; rw [hw]; clear hw w1) | (refine hR.mono ?_; rintro e W3 hor; obtain ⟨b, rfl, hb⟩ := bool_out hor))
      all_goals
        clear hor
        rcases hb with ⟨rfl, hJ3, hk3⟩ | ⟨rfl, hJx3⟩
        · gi_wp2
          go_roundw
          case rel => exact ⟨k + 1, by omega, by go_num, by rw [HE.out]; exact hJ3, (HX.out.trans (below_drew _ _)).trans hk3⟩
          case measure => simp [intOf]; omega
        · gi_wp2
          refine bodyPost_ret (results_none rfl _ _ _) rfl ?_
          exact ⟨⟨_, rfl⟩, .inr ⟨_, (by have := HL.out; simp; omega), hJx3⟩⟩
    · obtain rfl : k = 8 := by omega
      gi_wp2
      go_end0
      exact ⟨⟨_, rfl⟩, .inl ⟨_, rfl, HJ.out⟩⟩

theorem bytes_stops_27 (n : Nat) (hn : 1 ≤ n) (Bi Bp n₀ id : Nat) (hid : id < 18446744073709551616) (w : World) (hn₀ : n₀ ≤ w.heap.size)
    (hBi : w.cell? ⟨Bi, 0, none⟩ = some (.int .u64 (id : Int))) (lBi : Bi < n₀) (hBp : w.cell? ⟨Bp, 0, none⟩ = some (.func (.func 89) #[] #[])) (lBp : Bp < n₀) :
    SeqStopsK Fence.wide n Try.prog 108 #[.pointer (some ⟨Bi, 0, none⟩), .pointer (some ⟨Bp, 0, none⟩)] (fun x : By => #[Value.int .u64 (x.1 : Int)]) (Below n₀) (fun ys => ys = bys (fun i => i) id 8) (fun pre => pre.length ≤ 8) 8 w := fun yl J Jx W hW hJ _ hY h0 =>
  bytes28_27 n hn yl Bi Bp n₀ id hid J Jx (fun pre x W hj hl => hY pre x W hj hl) W hJ ((hW.cell (p := ⟨Bi, 0, none⟩) (by simp; omega)).trans hBi) lBi ((hW.cell (p := ⟨Bp, 0, none⟩) (by simp; omega)).trans hBp) lBp h0

end Go.Proofs.Ytjnhalomkmdcgaa
