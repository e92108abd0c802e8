/- Rows that the call owns: few once more, slices.Reverse; slices.Compare, Compare. -/
import Derived.Test.YtjnhalomkmdcgaaTyJ
import Derived.Sort.AtCall
import Derived.Laws.AppendOwn
import Derived.Laws.Rows
namespace Go.Proofs.Ytjnhalomkmdcgaa
open Go.RowKit

/-- A call that hands back a row that it owns. -/
def GivesO (l : List Int) (w : World) (e : Ending) (w' : World) : Prop := ∃ v, e = .returned v ∧ w'.ownsRow w.heap.size 41 1 v l.length (l.map (Value.int .u64)) ∧ Below w.heap.size w w'

set_option maxRecDepth 20000 in
theorem clone46o (p : Option Addr) (l : List Int) (c : Nat) (w : World) (hS : IRow .u64 w.heap.size w p l) (hn : l.length ≤ 1099511627776) :
    Calls Try.prog 19 #[.slice p l.length c] w fun e w' => GivesO l w e w' := by
  cases p with
  | none =>
    have h0 : l = [] := by
      cases l with
      | nil => rfl
      | cons x t => obtain ⟨b, off, h, _⟩ := hS (by simp); cases h
    subst h0
    clear hS hn
    have qn := fun (w : World) => Lib.run_eql_slice_nil (P := Try.prog) w 34 _ none 0 c 0 0 Try.underlying34
    go_enter Try.func19, Try.ntmps19
    go_wp2
    go_ret
    exact ⟨_, rfl, World.ownsRow_nil _ _ _ _, Below.refl _ _⟩
  | some a =>
    obtain ⟨i0, hi, hz0, hz1, hz2⟩ := info_parts Try.info41
    have ho := World.ownsRow_made (base := w.heap.size) (e := 41) (size := 1) w #[] 0 (Nat.le_refl _) (by unfold maxLen; omega) (by simp)
    have qn := fun (w : World) => Lib.run_eql_slice_nil (P := Try.prog) w 34 _ (some a) l.length c 0 0 Try.underlying34
    have hsrc : ∀ (o : Obj) j u, (cellsI .u64 l)[j]? = some u → (w.alloc o).cell? (a.add j) = some u := by
      intro o j u hj
      have hlt : j < l.length := by have := (List.getElem?_eq_some_iff.1 hj).1; simpa [cellsI] using this
      obtain ⟨b, off, e, _, hc⟩ := hS.to ((Below.refl w.heap.size w).alloc (Nat.le_refl _) o) (by omega)
      cases e
      exact cellsI_src hc j u hj
    have hlen := cellsI_len .u64 l
    have hone := cellsI_one .u64 l
    obtain ⟨n, hn'⟩ : ∃ n, n = l.length := ⟨_, rfl⟩
    have HE := hidOg hn'
    rw [← hn'] at hlen qn hn ⊢
    clear hS hn'
    go_enter Try.func19, Try.ntmps19
    go_wp2_with (first | (at_builtin; refine wpList_append_own _ rfl _ _ 34 rfl w.heap.size 41 i0 (.int .u64 0) 1 8 Try.underlying34 hi hz0 hz1 hz2 rfl (by decide) _ _ _ rfl ho a n c (cellsI .u64 l) rfl hlen (hsrc _) hone (by unfold maxLen; omega) (by omega) (by simp) ?_; intro v' w1 hown hgrow _))
    go_ret
    have hb : Below w.heap.size w w1 := ((Below.refl _ w).alloc (Nat.le_refl _) _).grown hgrow (by simp) (fun k hk => by have h' : w.heap.size = k := Option.some.inj hk; omega)
    rw [HE.out, Nat.zero_add] at hown
    exact ⟨_, rfl, hown, hb⟩

/-- A row elsewhere stays where only one block turns. -/
theorem IRow.grown {q : IntKind} {w w' : World} {p : Option Addr} {l : List Int} {row : Option Nat} (h : IRow q w.heap.size w p l) (hg : w.grownBy w' row) (hne : ∀ a, p = some a → some a.block ≠ row) : IRow q w'.heap.size w' p l := by
  intro h0
  obtain ⟨b, off, rfl, hN, hc⟩ := h h0
  refine ⟨b, off, rfl, Nat.lt_of_lt_of_le hN hg.size, fun k hk => ?_⟩
  rw [← hc k hk]
  have e := hg.block b hN (hne _ rfl)
  simp only [World.cell?]
  rw [e]
theorem Row.grown {w w' : World} {p : Option Addr} {l : List Int} {c : Nat} {row : Option Nat} (h : Row w p l c) (hg : w.grownBy w' row) (hne : ∀ a, p = some a → some a.block ≠ row) : Row w' p l c := ⟨h.i.grown hg hne, h.r, h.n, h.a⟩

/-- How two rows stand. -/
def cmpL : List Int → List Int → Int
  | [], [] => 0
  | [], _ :: _ => -1
  | _ :: _, [] => 1
  | x :: a, y :: b => if x < y then -1 else if y < x then 1 else cmpL a b
theorem cmp83 (x y : Int) (w : World) : Calls Try.prog 73 #[.int .u64 x, .int .u64 y] w fun e w' => e = .returned (.int .i64 (if x < y then -1 else if y < x then 1 else 0)) ∧ w' = w := by
  by_cases h : x < y
  · rw [if_pos h]
    go_enter Try.func73, Try.ntmps73
    go_wp2_with (first | (go_at_call 84; refine (nan101 _ _).mono ?_; rintro e w1 ⟨rfl, rfl⟩))
    go_ret
    exact ⟨rfl, rfl⟩
  · rw [if_neg h]
    by_cases h' : y < x
    · rw [if_pos h']
      go_enter Try.func73, Try.ntmps73
      go_wp2_with (first | (go_at_call 84; refine (nan101 _ _).mono ?_; rintro e w1 ⟨rfl, rfl⟩))
      go_ret
      exact ⟨rfl, rfl⟩
    · rw [if_neg h']
      go_enter Try.func73, Try.ntmps73
      go_wp2_with (first | (go_at_call 84; refine (nan101 _ _).mono ?_; rintro e w1 ⟨rfl, rfl⟩))
      go_ret
      exact ⟨rfl, rfl⟩
theorem drop_cons {l : List Int} {k : Nat} (h : k < l.length) : l.drop k = iG l k :: l.drop (k + 1) := by rw [List.drop_eq_getElem_cons h, iG_eq h]
/-- One step further. -/
theorem cmp_step {a b : List Int} {k : Nat} (ha : k < a.length) (hb : k < b.length) : cmpL (a.drop k) (b.drop k) = if iG a k < iG b k then -1 else if iG b k < iG a k then 1 else cmpL (a.drop (k + 1)) (b.drop (k + 1)) := by
  rw [drop_cons ha, drop_cons hb]; rfl
theorem cmp_end {a b : List Int} {k : Nat} (ha : k < a.length) (hb : b.length ≤ k) : cmpL (a.drop k) (b.drop k) = 1 := by
  rw [drop_cons ha, List.drop_eq_nil_of_le hb]; rfl
theorem cmp_out {a b : List Int} {k : Nat} (ha : a.length ≤ k) (hb : k < b.length) : cmpL (a.drop k) (b.drop k) = -1 := by
  rw [drop_cons hb, List.drop_eq_nil_of_le ha]; rfl
theorem cmp_both {a b : List Int} {k : Nat} (ha : a.length ≤ k) (hb : b.length ≤ k) : cmpL (a.drop k) (b.drop k) = 0 := by
  rw [List.drop_eq_nil_of_le ha, List.drop_eq_nil_of_le hb]; rfl

set_option maxRecDepth 20000 in
set_option maxHeartbeats 4000000 in
theorem compare58 (p : Option Addr) (l : List Int) (c : Nat) (q : Option Addr) (r : List Int) (d : Nat) (w : World) (hS : IRow .u64 w.heap.size w p l) (hR : IRow .u64 w.heap.size w q r) (l1 : l.length ≤ 1099511627776) (l2 : r.length ≤ 1099511627776) :
    Calls Try.prog 62 #[.slice p l.length c, .slice q r.length d] w fun e w' => e = .returned (.int .i64 (cmpL l r)) ∧ w' = w := by
  obtain ⟨v, hv⟩ : ∃ v, v = cmpL l r := ⟨_, rfl⟩
  rw [← hv]
  have HV : Hid (v = cmpL (l.drop 0) (r.drop 0)) := hv
  obtain ⟨n, hn⟩ : ∃ n, n = l.length := ⟨_, rfl⟩
  obtain ⟨m, hm⟩ : ∃ m, m = r.length := ⟨_, rfl⟩
  have HN := hidOg hn
  have HM := hidOg hm
  have HS := hidOg hS
  have HR := hidOg hR
  rw [← hn] at l1 ⊢
  rw [← hm] at l2 ⊢
  clear hS hR hv hn hm
  go_enter Try.func62, Try.ntmps62
  go_wp2
  go_loop [11] (fun i => ∃ k : Nat, k ≤ n ∧ k ≤ m ∧ i = .int .i64 k ∧ v = cmpL (l.drop k) (r.drop k)) (fun i => n - (intOf i).toNat)
  case atStart => exact ⟨0, Nat.zero_le _, Nat.zero_le _, rfl, HV.out⟩
  case round =>
    obtain ⟨k, hk, hkm, rfl, hv⟩ := hrel
    have HW := hidOg hv
    clear hv HV
    by_cases hkn : k < n
    · obtain ⟨b, off, rfl, hbB, hcs⟩ := HS.out (by have := HN.out; omega)
      have c0 := hcs k (by have := HN.out; omega)
      clear hcs
      obtain ⟨x, hx⟩ : ∃ x, x = iG l k := ⟨_, rfl⟩
      rw [← hx] at c0
      have HX := hidOg hx
      clear hx
      by_cases hlm : k < m
      · obtain ⟨b', off', rfl, hbB', hcs'⟩ := HR.out (by have := HM.out; omega)
        have c0' := hcs' k (by have := HM.out; omega)
        clear hcs'
        obtain ⟨y, hy⟩ : ∃ y, y = iG r k := ⟨_, rfl⟩
        rw [← hy] at c0'
        have HY := hidOg hy
        clear hy
        have HE : Hid (v = if x < y then -1 else if y < x then 1 else cmpL (l.drop (k + 1)) (r.drop (k + 1))) := by
          unfold Hid; rw [HW.out, cmp_step (by rw [← HN.out]; exact hkn) (by rw [← HM.out]; exact hlm), HX.out, HY.out]
        have CC := fun (W : World) => cmp83 x y W
        have hge : ¬ ((m : Int) ≤ (k : Int)) := by omega
        by_cases h1 : x < y
        · have e : v = -1 := by rw [HE.out, if_pos h1]
          subst e
          rw [if_pos h1] at CC
          clear HW HE
          go_wp2_with (first | (go_at_call 73; refine Calls.mono (CC _) ?_; rintro e w1 ⟨rfl, rfl⟩))
          go_ret
          exact ⟨rfl, rfl⟩
        · by_cases h2 : y < x
          · have e : v = 1 := by rw [HE.out, if_neg h1, if_pos h2]
            subst e
            rw [if_neg h1, if_pos h2] at CC
            clear HW HE
            go_wp2_with (first | (go_at_call 73; refine Calls.mono (CC _) ?_; rintro e w1 ⟨rfl, rfl⟩))
            go_ret
            exact ⟨rfl, rfl⟩
          · have HE' : Hid (v = cmpL (l.drop (k + 1)) (r.drop (k + 1))) := by unfold Hid; rw [HE.out, if_neg h1, if_neg h2]
            rw [if_neg h1, if_neg h2] at CC
            clear HW HE
            go_wp2_with (first | (go_at_call 73; refine Calls.mono (CC _) ?_; rintro e w1 ⟨rfl, rfl⟩))
            go_round
            case rel => exact ⟨k + 1, by omega, by omega, by go_num, HE'.out⟩
            case measure => simp [intOf]; omega
      · have e : v = 1 := by rw [HW.out]; exact cmp_end (by rw [← HN.out]; exact hkn) (by have := HM.out; omega)
        have hge : (m : Int) ≤ (k : Int) := by omega
        subst e
        clear HW
        go_wp2
        go_ret
        exact ⟨rfl, rfl⟩
    · obtain rfl : k = n := by omega
      by_cases hlm : k < m
      · have e : v = -1 := by rw [HW.out]; exact cmp_out (by have := HN.out; omega) (by have := HM.out; omega)
        subst e
        clear HW
        go_wp2
        go_ret
        exact ⟨rfl, rfl⟩
      · have e : v = 0 := by rw [HW.out]; exact cmp_both (by have := HN.out; omega) (by have := HM.out; omega)
        have hge : ¬ ((k : Int) < (m : Int)) := by omega
        subst e
        clear HW
        go_wp2
        go_ret
        exact ⟨rfl, rfl⟩
theorem compare_any (p : Option Addr) (l : List Int) (c : Nat) (q : Option Addr) (r : List Int) (d : Nat) (w : World) (h : Row w p l c) (g : Row w q r d) :
    Calls Try.prog 38 #[.slice p l.length c, .slice q r.length d] w fun e w' => e = .returned (.int .i64 (cmpL l r)) ∧ w' = w := by
  have CC := compare58 p l c q r d w h.i g.i h.n g.n
  clear h g
  go_enter Try.func38, Try.ntmps38
  go_wp2_with (first | (go_at_call 62; refine Calls.mono CC ?_; rintro e w1 ⟨rfl, rfl⟩))
  go_ret
  exact ⟨rfl, rfl⟩
end Go.Proofs.Ytjnhalomkmdcgaa
