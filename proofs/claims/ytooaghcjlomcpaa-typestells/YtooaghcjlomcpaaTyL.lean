/- Rows that the call owns: few once more, slices.Reverse; slices.Compare, Compare. -/
import Derived.Test.YtooaghcjlomcpaaTyK
import Derived.Shelf.SlicesE.Reverse
namespace Go.Proofs
open Go.Shelf
def Try.laysE35_ren : Go.Shelf.Ren := ⟨fun | 35 => 36 | n => n, fun | 22 => 22 | 23 => 33 | n => n, fun | n => n⟩
theorem Try.laysE35 : Go.Proofs.SlLaysE.n35 Try.prog Try.laysE35_ren := {
  mixed := by kernel_rfl
  f35 := ⟨Try.f36.name, by decide, Try.func36.trans (congrArg some (by kernel_rfl))⟩
  t0 := Try.underlying0
  a0 := Try.isAgg0
  z0 := Try.sizeOf0
  v0 := Try.zeroValue0
  t3 := Try.underlying3
  a3 := Try.isAgg3
  z3 := Try.sizeOf3
  v3 := Try.zeroValue3
  t4 := Try.underlying4
  a4 := Try.isAgg4
  z4 := Try.sizeOf4
  v4 := Try.zeroValue4
  t22 := Try.underlying22
  a22 := Try.isAgg22
  z22 := Try.sizeOf22
  v22 := Try.zeroValue22
  a23 := Try.isAgg33
  z23 := Try.sizeOf33 }
end Go.Proofs
namespace Go.Proofs.Ytooaghcjlomcpaa
open Go.RowKit Go.Sort

/-- A call that hands back a row that it owns. -/
def GivesO (l : List Int) (w : World) (e : Ending) (w' : World) : Prop := ∃ v, e = .returned v ∧ w'.ownsRow w.heap.size 33 1 v l.length (l.map (Value.int .u64)) ∧ Below w.heap.size w w'

set_option maxRecDepth 20000 in
theorem clone46o (p : Option Addr) (l : List Int) (c : Nat) (w : World) (hS : IRow .u64 w.heap.size w p l) (hn : l.length ≤ 1099511627776) :
    Calls Try.prog 46 #[.slice p l.length c] w fun e w' => GivesO l w e w' := by
  cases p with
  | none =>
    have h0 : l = [] := by
      cases l with
      | nil => rfl
      | cons x t => obtain ⟨b, off, h, _⟩ := hS (by simp); cases h
    subst h0
    clear hS hn
    have qn := fun (w : World) => Lib.run_eql_slice_nil (P := Try.prog) w 22 _ none 0 c 0 0 Try.underlying22
    go_enter Try.func46, Try.ntmps46
    go_wp2
    go_ret
    exact ⟨_, rfl, World.ownsRow_nil _ _ _ _, Below.refl _ _⟩
  | some a =>
    obtain ⟨i0, hi, hz0, hz1, hz2⟩ := info_parts Try.info33
    have ho := World.ownsRow_made (base := w.heap.size) (e := 33) (size := 1) w #[] 0 (Nat.le_refl _) (by unfold maxLen; omega) (by simp)
    have qn := fun (w : World) => Lib.run_eql_slice_nil (P := Try.prog) w 22 _ (some a) l.length c 0 0 Try.underlying22
    have hsrc : ∀ (o : Obj) j u, (cellsI .u64 l)[j]? = some u → (w.alloc o).cell? (a.add j) = some u := by
      intro o j u hj
      have hlt : j < l.length := by have := (List.getElem?_eq_some_iff.1 hj).1; simpa [cellsI] using this
      obtain ⟨b, off, e, _, hc⟩ := hS.to ((Below.refl w.heap.size w).alloc (Nat.le_refl _) o) (by omega)
      cases e
      exact cellsI_src hc j u hj
    have hlen := cellsI_len .u64 l
    have hone := cellsI_one .u64 l
    obtain ⟨n, hn'⟩ : ∃ n, n = l.length := ⟨_, rfl⟩
    have HE := hidOg hn'
    rw [← hn'] at hlen qn hn ⊢
    clear hS hn'
    go_enter Try.func46, Try.ntmps46
    go_wp2_with (first | (at_builtin; refine wpList_append_own _ rfl _ _ 22 rfl w.heap.size 33 i0 (.int .u64 0) 1 8 Try.underlying22 hi hz0 hz1 hz2 rfl (by decide) _ _ _ rfl ho a n c (cellsI .u64 l) rfl hlen (hsrc _) hone (by unfold maxLen; omega) (by omega) (by simp) ?_; intro v' w1 hown hgrow _))
    go_ret
    have hb : Below w.heap.size w w1 := ((Below.refl _ w).alloc (Nat.le_refl _) _).grown hgrow (by simp) (fun k hk => by have h' : w.heap.size = k := Option.some.inj hk; omega)
    rw [HE.out, Nat.zero_add] at hown
    exact ⟨_, rfl, hown, hb⟩

set_option maxRecDepth 20000 in
theorem few_own (p : Option Addr) (l : List Int) (c : Nat) (w : World) (h : InR w p l c) :
    Calls Try.prog 10 #[.slice p l.length c] w fun e w' => GivesO (l.take 20) w e w' := by
  obtain ⟨n, hn⟩ : ∃ n, n = (l.take 20).length := ⟨_, rfl⟩
  have hl := h.r
  have hn' : (if (20 : Int) < (l.length : Int) then (20 : Int) else (l.length : Int)) = (n : Int) := by rw [hn]; simp only [List.length_take]; split <;> omega
  have hn2 : min (l.length : Int) 20 = (n : Int) := by rw [hn]; simp only [List.length_take]; omega
  have n0 : (0 : Int) ≤ (n : Int) := by omega
  have n1 : (n : Int) ≤ (c : Int) := by omega
  have CC := clone46o p (l.take 20) c w (h.i.take 20) (by simp; omega)
  rw [← hn] at CC
  obtain ⟨m, hm⟩ : ∃ m, m = l.take 20 := ⟨_, rfl⟩
  rw [← hm] at CC ⊢
  clear h hl hn hm
  go_enter Try.func10, Try.ntmps10
  go_wp2_with (first | (go_at_call 46; refine Calls.mono CC ?_; rintro e w1 ⟨v, rfl, hr, hb⟩))
  go_ret
  exact ⟨v, rfl, hr, hb⟩

theorem holds_of_blockU {w : World} {g : Nat} {cur : Array Value} {e : TypeId} {ss : List Int} (hb : w.heap[g]? = some (.cells cur e (0, 0))) (ht : cur.toList.take ss.length = ss.map (Value.int .u64)) : Holds (Value.int .u64) w g 0 ss.toArray := by
  intro j hj
  have hj' : j < ss.length := by simpa using hj
  refine ⟨?_, by simp [World.frozen?, hb]⟩
  have h1 : (cur.toList.take ss.length)[j]? = (ss.map (Value.int .u64))[j]? := by rw [ht]
  rw [List.getElem?_take_of_lt hj'] at h1
  simp only [World.cell?, hb, Nat.zero_add]
  simp only [Option.isSome_none, Bool.false_eq_true, if_false]
  rw [← Array.getElem?_toList, h1]
  simp [hj']
theorem heap_putU {w : World} {g n : Nat} {cur : Array Value} {e : TypeId} {fr : Nat × Nat} (d : Array Int) (hb : w.heap[g]? = some (.cells cur e fr)) :
    (putRow (Value.int .u64) (Sort.ahead w n) g 0 d).heap[g]? = some (.cells (putCells (Value.int .u64) 0 d cur) e fr) := by
  simp [putRow, mapBlock, Sort.ahead, Array.getElem?_modify, hb, onCells]
theorem grownBy_putU {w : World} {g n : Nat} (d : Array Int) : w.grownBy (putRow (Value.int .u64) (Sort.ahead w n) g 0 d) (some g) := by
  refine ⟨rfl, rfl, rfl, by simp, fun k hk hne => ?_⟩
  have : g ≠ k := fun e => hne (by rw [e])
  simp [putRow, mapBlock, Sort.ahead, Array.getElem?_modify, this]
theorem take_putCellsU (cur : Array Value) (ts : List Int) (h : ts.length ≤ cur.size) : (putCells (Value.int .u64) 0 ts.toArray cur).toList.take ts.length = ts.map (Value.int .u64) := by
  apply List.ext_getElem?
  intro j
  by_cases hj : j < ts.length
  · rw [List.getElem?_take_of_lt hj, Array.getElem?_toList]
    simp [putCells, hj, show j < cur.size by omega]
  · rw [List.getElem?_take_eq_none (by omega), List.getElem?_eq_none (by simp; omega)]
theorem ownsRow_putU {w : World} {base g cap n : Nat} {e : TypeId} {cur : Array Value} {ss ts : List Int} (hl : ts.length = ss.length) (hbase : base ≤ g) (hb : w.heap[g]? = some (.cells cur e (0, 0)))
    (h1 : ss.length ≤ cap) (h2 : cap ≤ maxLen) (h3 : cur.size = cap * 1) :
    (putRow (Value.int .u64) (Sort.ahead w n) g 0 ts.toArray).ownsRow base e 1 (.slice (some ⟨g, 0, none⟩) ss.length cap) ss.length (ts.map (Value.int .u64)) :=
  ⟨by simp [hl], .inr ⟨g, cap, _, rfl, hbase, heap_putU _ hb, h1, h2, by simp [putCells, h3], by rw [Nat.mul_one, ← hl]; exact take_putCellsU cur ts (by omega)⟩⟩

theorem reverse36 (base : Nat) (v : Value) (l : List Int) (w : World) (hown : w.ownsRow base 33 1 v l.length (l.map (Value.int .u64))) (hn : l.length ≤ 1099511627776) :
    Calls Try.prog 36 #[v] w fun e w' => e = .returned (.tuple #[]) ∧ w'.ownsRow base 33 1 v l.length (l.reverse.map (Value.int .u64)) ∧ w.grownBy w' v.ownBlock := by
  rcases hown.2 with ⟨rfl, h0⟩ | ⟨g, cap, cur, rfl, hbase, hb, h1, h2, h3, h4⟩
  · obtain rfl : l = [] := List.eq_nil_of_length_eq_zero h0
    refine Calls.mono (AnyE.slices_Reverse_empty Try.laysE35 none 0 w) ?_
    rintro e w' ⟨rfl, rfl⟩
    exact ⟨rfl, by simpa using hown, World.grownBy.refl _ _⟩
  · have hH : Holds (Value.int .u64) w g 0 l.toArray := holds_of_blockU hb (by simpa using h4)
    refine Calls.mono (AnyE.slices_Reverse Try.laysE35 (Value.int .u64) (fun _ => rfl) g 0 cap l w hH (by omega)) ?_
    rintro e w' ⟨rfl, n, rfl⟩
    exact ⟨rfl, ownsRow_putU (ts := l.reverse) (by simp) hbase hb h1 h2 h3, grownBy_putU _⟩

/-- A row elsewhere stays where only one block turns. -/
theorem IRow.grown {q : IntKind} {w w' : World} {p : Option Addr} {l : List Int} {row : Option Nat} (h : IRow q w.heap.size w p l) (hg : w.grownBy w' row) (hne : ∀ a, p = some a → some a.block ≠ row) : IRow q w'.heap.size w' p l := by
  intro h0
  obtain ⟨b, off, rfl, hN, hc⟩ := h h0
  refine ⟨b, off, rfl, Nat.lt_of_lt_of_le hN hg.size, fun k hk => ?_⟩
  rw [← hc k hk]
  have e := hg.block b hN (hne _ rfl)
  simp only [World.cell?]
  rw [e]
theorem Row.grown {w w' : World} {p : Option Addr} {l : List Int} {c : Nat} {row : Option Nat} (h : Row w p l c) (hg : w.grownBy w' row) (hne : ∀ a, p = some a → some a.block ≠ row) : Row w' p l c := ⟨h.i.grown hg hne, h.r, h.n, h.a⟩

/-- How two rows stand. -/
def cmpL : List Int → List Int → Int
  | [], [] => 0
  | [], _ :: _ => -1
  | _ :: _, [] => 1
  | x :: a, y :: b => if x < y then -1 else if y < x then 1 else cmpL a b
theorem cmp83 (x y : Int) (w : World) : Calls Try.prog 88 #[.int .u64 x, .int .u64 y] w fun e w' => e = .returned (.int .i64 (if x < y then -1 else if y < x then 1 else 0)) ∧ w' = w := by
  by_cases h : x < y
  · rw [if_pos h]
    go_enter Try.func88, Try.ntmps88
    go_wp2_with (first | (go_at_call 100; refine (nan101 _ _).mono ?_; rintro e w1 ⟨rfl, rfl⟩))
    go_ret
    exact ⟨rfl, rfl⟩
  · rw [if_neg h]
    by_cases h' : y < x
    · rw [if_pos h']
      go_enter Try.func88, Try.ntmps88
      go_wp2_with (first | (go_at_call 100; refine (nan101 _ _).mono ?_; rintro e w1 ⟨rfl, rfl⟩))
      go_ret
      exact ⟨rfl, rfl⟩
    · rw [if_neg h']
      go_enter Try.func88, Try.ntmps88
      go_wp2_with (first | (go_at_call 100; refine (nan101 _ _).mono ?_; rintro e w1 ⟨rfl, rfl⟩))
      go_ret
      exact ⟨rfl, rfl⟩
theorem drop_cons {l : List Int} {k : Nat} (h : k < l.length) : l.drop k = iG l k :: l.drop (k + 1) := by rw [List.drop_eq_getElem_cons h, iG_eq h]
/-- One step further. -/
theorem cmp_step {a b : List Int} {k : Nat} (ha : k < a.length) (hb : k < b.length) : cmpL (a.drop k) (b.drop k) = if iG a k < iG b k then -1 else if iG b k < iG a k then 1 else cmpL (a.drop (k + 1)) (b.drop (k + 1)) := by
  rw [drop_cons ha, drop_cons hb]; rfl
theorem cmp_end {a b : List Int} {k : Nat} (ha : k < a.length) (hb : b.length ≤ k) : cmpL (a.drop k) (b.drop k) = 1 := by
  rw [drop_cons ha, List.drop_eq_nil_of_le hb]; rfl
theorem cmp_out {a b : List Int} {k : Nat} (ha : a.length ≤ k) (hb : k < b.length) : cmpL (a.drop k) (b.drop k) = -1 := by
  rw [drop_cons hb, List.drop_eq_nil_of_le ha]; rfl
theorem cmp_both {a b : List Int} {k : Nat} (ha : a.length ≤ k) (hb : b.length ≤ k) : cmpL (a.drop k) (b.drop k) = 0 := by
  rw [List.drop_eq_nil_of_le ha, List.drop_eq_nil_of_le hb]; rfl

set_option maxRecDepth 20000 in
set_option maxHeartbeats 4000000 in
theorem compare58 (p : Option Addr) (l : List Int) (c : Nat) (q : Option Addr) (r : List Int) (d : Nat) (w : World) (hS : IRow .u64 w.heap.size w p l) (hR : IRow .u64 w.heap.size w q r) (l1 : l.length ≤ 1099511627776) (l2 : r.length ≤ 1099511627776) :
    Calls Try.prog 58 #[.slice p l.length c, .slice q r.length d] w fun e w' => e = .returned (.int .i64 (cmpL l r)) ∧ w' = w := by
  obtain ⟨v, hv⟩ : ∃ v, v = cmpL l r := ⟨_, rfl⟩
  rw [← hv]
  have HV : Hid (v = cmpL (l.drop 0) (r.drop 0)) := hv
  obtain ⟨n, hn⟩ : ∃ n, n = l.length := ⟨_, rfl⟩
  obtain ⟨m, hm⟩ : ∃ m, m = r.length := ⟨_, rfl⟩
  have HN := hidOg hn
  have HM := hidOg hm
  have HS := hidOg hS
  have HR := hidOg hR
  rw [← hn] at l1 ⊢
  rw [← hm] at l2 ⊢
  clear hS hR hv hn hm
  go_enter Try.func58, Try.ntmps58
  go_wp2
  go_loop [11] (fun i => ∃ k : Nat, k ≤ n ∧ k ≤ m ∧ i = .int .i64 k ∧ v = cmpL (l.drop k) (r.drop k)) (fun i => n - (intOf i).toNat)
  case atStart => exact ⟨0, Nat.zero_le _, Nat.zero_le _, rfl, HV.out⟩
  case round =>
    obtain ⟨k, hk, hkm, rfl, hv⟩ := hrel
    have HW := hidOg hv
    clear hv HV
    by_cases hkn : k < n
    · obtain ⟨b, off, rfl, hbB, hcs⟩ := HS.out (by have := HN.out; omega)
      have c0 := hcs k (by have := HN.out; omega)
      clear hcs
      obtain ⟨x, hx⟩ : ∃ x, x = iG l k := ⟨_, rfl⟩
      rw [← hx] at c0
      have HX := hidOg hx
      clear hx
      by_cases hlm : k < m
      · obtain ⟨b', off', rfl, hbB', hcs'⟩ := HR.out (by have := HM.out; omega)
        have c0' := hcs' k (by have := HM.out; omega)
        clear hcs'
        obtain ⟨y, hy⟩ : ∃ y, y = iG r k := ⟨_, rfl⟩
        rw [← hy] at c0'
        have HY := hidOg hy
        clear hy
        have HE : Hid (v = if x < y then -1 else if y < x then 1 else cmpL (l.drop (k + 1)) (r.drop (k + 1))) := by
          unfold Hid; rw [HW.out, cmp_step (by rw [← HN.out]; exact hkn) (by rw [← HM.out]; exact hlm), HX.out, HY.out]
        have CC := fun (W : World) => cmp83 x y W
        have hge : ¬ ((m : Int) ≤ (k : Int)) := by omega
        by_cases h1 : x < y
        · have e : v = -1 := by rw [HE.out, if_pos h1]
          subst e
          rw [if_pos h1] at CC
          clear HW HE
          go_wp2_with (first | (go_at_call 88; refine Calls.mono (CC _) ?_; rintro e w1 ⟨rfl, rfl⟩))
          go_ret
          exact ⟨rfl, rfl⟩
        · by_cases h2 : y < x
          · have e : v = 1 := by rw [HE.out, if_neg h1, if_pos h2]
            subst e
            rw [if_neg h1, if_pos h2] at CC
            clear HW HE
            go_wp2_with (first | (go_at_call 88; refine Calls.mono (CC _) ?_; rintro e w1 ⟨rfl, rfl⟩))
            go_ret
            exact ⟨rfl, rfl⟩
          · have HE' : Hid (v = cmpL (l.drop (k + 1)) (r.drop (k + 1))) := by unfold Hid; rw [HE.out, if_neg h1, if_neg h2]
            rw [if_neg h1, if_neg h2] at CC
            clear HW HE
            go_wp2_with (first | (go_at_call 88; refine Calls.mono (CC _) ?_; rintro e w1 ⟨rfl, rfl⟩))
            go_round
            case rel => exact ⟨k + 1, by omega, by omega, by go_num, HE'.out⟩
            case measure => simp [intOf]; omega
      · have e : v = 1 := by rw [HW.out]; exact cmp_end (by rw [← HN.out]; exact hkn) (by have := HM.out; omega)
        have hge : (m : Int) ≤ (k : Int) := by omega
        subst e
        clear HW
        go_wp2
        go_ret
        exact ⟨rfl, rfl⟩
    · obtain rfl : k = n := by omega
      by_cases hlm : k < m
      · have e : v = -1 := by rw [HW.out]; exact cmp_out (by have := HN.out; omega) (by have := HM.out; omega)
        subst e
        clear HW
        go_wp2
        go_ret
        exact ⟨rfl, rfl⟩
      · have e : v = 0 := by rw [HW.out]; exact cmp_both (by have := HN.out; omega) (by have := HM.out; omega)
        have hge : ¬ ((k : Int) < (m : Int)) := by omega
        subst e
        clear HW
        go_wp2
        go_ret
        exact ⟨rfl, rfl⟩
theorem compare_any (p : Option Addr) (l : List Int) (c : Nat) (q : Option Addr) (r : List Int) (d : Nat) (w : World) (h : Row w p l c) (g : Row w q r d) :
    Calls Try.prog 21 #[.slice p l.length c, .slice q r.length d] w fun e w' => e = .returned (.int .i64 (cmpL l r)) ∧ w' = w := by
  have CC := compare58 p l c q r d w h.i g.i h.n g.n
  clear h g
  go_enter Try.func21, Try.ntmps21
  go_wp2_with (first | (go_at_call 58; refine Calls.mono CC ?_; rintro e w1 ⟨rfl, rfl⟩))
  go_ret
  exact ⟨rfl, rfl⟩
end Go.Proofs.Ytooaghcjlomcpaa
