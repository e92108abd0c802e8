/- hash.Of, types.Compare, types.Check at rows of ids that came in; turns, and what it hands back. -/
import Derived.Test.YtjnhalomkmdcgaaRf
import Derived.Test.YtjnhalomkmdcgaaRgB
import Derived.Test.YtjnhalomkmdcgaaLkD
import Derived.Test.YtjnhalomkmdcgaaLkO
namespace Go.Proofs.Ytjnhalomkmdcgaa
open Go.RowKit Go.Shelf
attribute [local go_sem] Oper.semAt_some

/-- The hash of a row of ids. -/
def hsT (t : List Int) : Nat := hOf (t.map Int.toNat)
theorem nrow_of {N : Nat} {w : World} {p : Option Addr} {l : List Int} (h : IRow .u64 N w p l) (hU : U64 l) : NRow N w p (l.map Int.toNat) := by
  intro h0
  obtain ⟨b, off, rfl, hN, hc⟩ := h (by simpa using h0)
  refine ⟨b, off, rfl, hN, fun k hk => ?_⟩
  have hk' : k < l.length := by simpa using hk
  rw [hc k hk']
  have e : nG (l.map Int.toNat) k = (iG l k).toNat := by simp [nG, iG, hk']
  rw [e, Int.toNat_of_nonneg (hU.at hk').1]
theorem un_of {l : List Int} (hU : U64 l) : UN (l.map Int.toNat) := by
  intro x hx
  obtain ⟨y, hy, rfl⟩ := List.mem_map.1 hx
  have := hU y hy
  omega
theorem of64 (p : Option Addr) (l : List Int) (c : Nat) (w : World) (hS : IRow .u64 w.heap.size w p l) (hU : U64 l) (hlen : l.length ≤ 1000) :
    Calls Try.prog 64 #[.slice p l.length c] w fun e w' => e = .returned (.int .u64 (hsT l : Nat)) ∧ Below w.heap.size w w' := by
  have := of10 p (l.map Int.toNat) c w (nrow_of hS hU) (un_of hU) (by simp; omega)
  rwa [List.length_map] at this
theorem refOf53 (p : Option Addr) (l : List Int) (c : Nat) (w : World) (hS : IRow .u64 w.heap.size w p l) (hU : U64 l) (hlen : l.length ≤ 1000) :
    Calls Try.prog 53 #[.slice p l.length c] w fun e w' => e = .returned (.int .u64 (hsT l : Nat)) ∧ Below w.heap.size w w' := by
  have := refOf11 p (l.map Int.toNat) c w (nrow_of hS hU) (un_of hU) (by simp; omega)
  rwa [List.length_map] at this
theorem compare38 (p : Option Addr) (l : List Int) (c : Nat) (q : Option Addr) (r : List Int) (d : Nat) (w : World) (h : IRow .u64 w.heap.size w p l) (g : IRow .u64 w.heap.size w q r) (l1 : l.length ≤ 1000) (l2 : r.length ≤ 1000) :
    Calls Try.prog 38 #[.slice p l.length c, .slice q r.length d] w fun e w' => e = .returned (.int .i64 (cmpL l r)) ∧ w' = w := by
  have CC := compare58 p l c q r d w h g (by omega) (by omega)
  clear h g
  go_enter Try.func38, Try.ntmps38
  go_wp2_with (first | (go_at_call 62; refine Calls.mono CC ?_; rintro e w1 ⟨rfl, rfl⟩))
  go_ret
  exact ⟨rfl, rfl⟩
theorem check30 (p : Option Addr) (l : List Int) (c : Nat) (w : World) (h : IRow .u64 w.heap.size w p l) (hU : U64 l) (hl : l.length ≤ 1000) :
    Calls Try.prog 30 #[.slice p l.length c] w fun e w' => e = .returned (.int .i64 (chkE l)) ∧ Below w.heap.size w w' := by
  have CM := mayBe_any p l c w h hU (by omega)
  cases hm : mayT l
  · have E : Hid (chkE l = 130) := by unfold Hid chkE; rw [hm]; rfl
    rw [hm] at CM
    clear hm h hU
    go_enter Try.func30, Try.ntmps30
    go_wp2_with (first | (go_at_call 52; refine Calls.mono CM ?_; rintro e w1 ⟨rfl, hb⟩))
    go_ret
    exact ⟨ret_int E.out.symm, hb⟩
  · have E : Hid (chkE l = 0) := by unfold Hid chkE; rw [hm]; rfl
    rw [hm] at CM
    clear hm h hU
    go_enter Try.func30, Try.ntmps30
    go_wp2_with (first | (go_at_call 52; refine Calls.mono CM ?_; rintro e w1 ⟨rfl, hb⟩))
    go_ret
    exact ⟨ret_int E.out.symm, hb⟩

theorem turns63 (h m : Int) (w : World) :
    Calls Try.prog 63 #[.int .u64 h, .int .i64 m] w fun e w' => e = .returned (.func (.func 74) #[] #[.pointer (some ⟨w.heap.size + 1, 0, none⟩), .pointer (some ⟨w.heap.size, 0, none⟩)]) ∧ w' = (w.alloc (.cells #[.int .u64 h] 40)).alloc (.cells #[.int .i64 m] 3) := by
  go_enter Try.func63, Try.ntmps63
  go_wp2
  go_ret
  exact ⟨rfl, rfl⟩
/-- The first k slots that the turns come to. -/
def tsF (h m : Nat) (hm : 0 < m) (k : Nat) : List (Fin m) := (List.range k).map fun j => ⟨tuK h m j, tuK_lt hm j⟩
theorem tsF_succ (h m : Nat) (hm : 0 < m) (k : Nat) : tsF h m hm (k + 1) = tsF h m hm k ++ [⟨tuK h m k, tuK_lt hm k⟩] := by
  unfold tsF; rw [List.range_succ, List.map_append]; rfl
theorem tsF_len (h m : Nat) (hm : 0 < m) (k : Nat) : (tsF h m hm k).length = k := by unfold tsF; simp
abbrev encS {m : Nat} (x : Fin m) : Array Value := #[.int .i64 (x.1 : Int)]

/-- What lies below n₀ stays, and so do two blocks. -/
structure KeB (n₀ Bm Bh : Nat) (W W' : World) : Prop where
  b : Below n₀ W W'
  m : W'.heap[Bm]? = W.heap[Bm]?
  h : W'.heap[Bh]? = W.heap[Bh]?
theorem KeB.refl (n₀ Bm Bh : Nat) (W : World) : KeB n₀ Bm Bh W W := ⟨Below.refl _ _, rfl, rfl⟩
theorem KeB.trans {n₀ Bm Bh : Nat} {A B C : World} (h : KeB n₀ Bm Bh A B) (k : KeB n₀ Bm Bh B C) : KeB n₀ Bm Bh A C := ⟨h.b.trans k.b, k.m.trans h.m, k.h.trans h.h⟩
theorem keb_b {n₀ Bm Bh : Nat} {w : World} (hn : n₀ ≤ w.heap.size) (hm : Bm < w.heap.size) (hh : Bh < w.heap.size) (W : World) (l : Nat) (o o' : Obj) (hl : w.heap.size ≤ l) (h : W.heap[l]? = some o) (h1 : o.isCells = false) (h2 : o.isWalk = false) : KeB n₀ Bm Bh W (W.putObj l o') := by
  have hlt := (Array.getElem?_eq_some_iff.1 h).1
  exact ⟨belowK_b hn W l o o' hl h h1 h2, (grownBy_putObj' W l o').block Bm (by omega) (by simp; omega), (grownBy_putObj' W l o').block Bh (by omega) (by simp; omega)⟩
theorem KeB.setCell {n₀ Bm Bh : Nat} {A W : World} (h : KeB n₀ Bm Bh A W) {a : Addr} (hn : n₀ ≤ a.block) (hm : Bm ≠ a.block) (hh : Bh ≠ a.block) (v : Value) : KeB n₀ Bm Bh A (W.setCell a v) :=
  ⟨h.b.setCell hn v, by rw [heap_setCell_other W a Bm v hm]; exact h.m, by rw [heap_setCell_other W a Bh v hh]; exact h.h⟩
theorem cell_heap {W W' : World} {B : Nat} (h : W'.heap[B]? = W.heap[B]?) (o : Nat) : W'.cell? ⟨B, o, none⟩ = W.cell? ⟨B, o, none⟩ := by simp only [World.cell?]; rw [h]
set_option maxRecDepth 100000 in
set_option maxHeartbeats 2000000 in
theorem turns74 (n : Nat) (hn : 1 ≤ n) (yl Bm Bh n₀ h m : Nat) (hm : 0 < m) (hm2 : m ≤ 1000000) (J Jx : List (Fin m) → World → Prop)
    (hY : ∀ pre x W, J pre W → pre.length < m → YieldAt Fence.wide (n - 1) Try.prog yl (encS x) W fun e W' =>
      (e = .returned (.bool true) ∧ J (pre ++ [x]) W' ∧ KeB n₀ Bm Bh W W') ∨ (e = .returned (.bool false) ∧ Jx (pre ++ [x]) W'))
    (W : World) (hBm : W.cell? ⟨Bm, 0, none⟩ = some (.int .i64 (m : Int)))
    (hBh : W.cell? ⟨Bh, 0, none⟩ = some (.int .u64 (h : Int))) (h0 : J [] W) :
    CallsIn Fence.wide n Try.prog 74 #[.func (.yield yl) #[] #[], .pointer (some ⟨Bm, 0, none⟩), .pointer (some ⟨Bh, 0, none⟩)] W fun e W' => (∃ v, e = .returned v) ∧
      ((∃ ys, ys = tsF h m hm m ∧ J ys W') ∨ (∃ pre, (∃ k, k ≤ m ∧ pre = tsF h m hm k) ∧ Jx pre W')) := by
  refine callsIn_of_wp Try.func74 rfl trivial ?_ rfl
  simp only [Try.ntmps74, List.size_toArray, List.length_cons, List.length_nil, Nat.reduceAdd, Nat.reduceSub, Array.replicate_succ, Array.replicate_zero, List.push_toArray, List.append_toArray, List.nil_append, List.cons_append]
  have h75 : Fence.wide.fn 75 := trivial
  gi_wp2
  gi_loopw [8] (fun i wr => ∃ k : Nat, k ≤ m ∧ i = .int .i64 k ∧ J (tsF h m hm k) wr ∧ KeB n₀ Bm Bh W wr)
    (fun i _ => m - (intOf i).toNat)
  case atStart => exact ⟨0, Nat.zero_le _, rfl, h0, KeB.refl _ _ _ _⟩
  case round =>
    obtain ⟨k, hk, rfl, hJs, hnx⟩ := hrel
    have HJ := hidOg hJs
    have HX := hidOg hnx
    clear hJs hnx h0
    by_cases hlt : k < m
    · have cm : wr.cell? ⟨Bm, 0, none⟩ = some (.int .i64 (m : Int)) := (cell_heap HX.out.m 0).trans hBm
      have ch : wr.cell? ⟨Bh, 0, none⟩ = some (.int .u64 (h : Int)) := (cell_heap HX.out.h 0).trans hBh
      have CC := fun (W : World) => probe_ok h m k hm (by omega) (by omega) W
      obtain ⟨y, hy'⟩ : ∃ y : Fin m, y = ⟨tuK h m k, tuK_lt hm k⟩ := ⟨_, rfl⟩
      have ey : (((h % m + k) % m : Nat) : Int) = ((y.1 : Nat) : Int) := by rw [hy']; rfl
      rw [ey] at CC
      have HE : Hid (tsF h m hm (k + 1) = tsF h m hm k ++ [y]) := by unfold Hid; rw [tsF_succ, hy']
      have HL : Hid ((tsF h m hm k).length < m) := by unfold Hid; rw [tsF_len]; exact hlt
      obtain ⟨fn, tmps, assign, body, hy, hR⟩ := hY (tsF h m hm k) y wr HJ.out HL.out
      clear ey hy' hY
      gi_wp2_with (first | (gi_at_call 75; refine (callsIn_wide.2 (CC _)).mono ?_; rintro e w1 ⟨rfl, hw⟩; rw [hw]; clear hw w1))
      refine hR.mono ?_
      rintro e W3 (⟨rfl, hJ3, hk3⟩ | ⟨rfl, hJx3⟩)
      · gi_wp2
        go_roundw
        case rel => exact ⟨k + 1, by omega, by go_num, by rw [HE.out]; exact hJ3, HX.out.trans hk3⟩
        case measure => simp [intOf]; omega
      · gi_wp2
        refine bodyPost_ret (results_none rfl _ _ _) rfl ?_
        exact ⟨⟨_, rfl⟩, .inr ⟨_, ⟨k + 1, hlt, HE.out.symm⟩, hJx3⟩⟩
    · obtain rfl : k = m := by omega
      gi_wp2
      go_end0
      exact ⟨⟨_, rfl⟩, .inl ⟨_, rfl, HJ.out⟩⟩
theorem turns_stops (n : Nat) (hn : 1 ≤ n) (Bm Bh n₀ h m : Nat) (hm : 0 < m) (hm2 : m ≤ 1000000) (w : World)
    (hBm : w.cell? ⟨Bm, 0, none⟩ = some (.int .i64 (m : Int))) (lBm : Bm < w.heap.size) (hBh : w.cell? ⟨Bh, 0, none⟩ = some (.int .u64 (h : Int))) (lBh : Bh < w.heap.size) :
    SeqStopsK Fence.wide n Try.prog 74 #[.pointer (some ⟨Bm, 0, none⟩), .pointer (some ⟨Bh, 0, none⟩)] (encS (m := m)) (KeB n₀ Bm Bh) (fun ys => ys = tsF h m hm m) (fun pre => ∃ k, k ≤ m ∧ pre = tsF h m hm k) m w := fun yl J Jx W hW _ _ hY h0 =>
  turns74 n hn yl Bm Bh n₀ h m hm hm2 J Jx (fun pre x W hj hl => hY pre x W hj hl) W ((hW.cell (p := ⟨Bm, 0, none⟩) lBm).trans hBm) ((hW.cell (p := ⟨Bh, 0, none⟩) lBh).trans hBh) h0
end Go.Proofs.Ytjnhalomkmdcgaa
