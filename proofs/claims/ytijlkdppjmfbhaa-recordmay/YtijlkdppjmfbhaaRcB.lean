/- slices.Equal, Clone, Index, Contains, at numbers and at spots. -/
import Derived.Test.YtijlkdppjmfbhaaSp
namespace Go.Proofs.Ytijlkdppjmfbhaa
open Go.RowKit
set_option maxRecDepth 20000 in
set_option maxHeartbeats 4000000 in
theorem equal18 (p : Option Addr) (l : List Int) (c : Nat) (q : Option Addr) (r : List Int) (d : Nat) (w : World) (hS : IRow .i64 w.heap.size w p l) (hR : IRow .i64 w.heap.size w q r) (l1 : l.length ≤ 1099511627776) :
    Calls Try.prog 18 #[.slice p l.length c, .slice q r.length d] w fun e w' => e = .returned (.bool (samI l r)) ∧ Below w.heap.size w w' := by
  by_cases hl : l.length = r.length
  · obtain ⟨v, hv⟩ : ∃ v, v = samI l r := ⟨_, rfl⟩
    rw [← hv]
    have HV := hidOg hv
    clear hv
    have HL := hidOg hl
    obtain ⟨n, hn⟩ : ∃ n, n = r.length := ⟨_, rfl⟩
    have HN : Hid (n = l.length) := by unfold Hid; omega
    have HS := hidOg hS
    have HR := hidOg hR
    have HNr := hidOg hn
    rw [show l.length = n by omega, show r.length = n by omega]
    have hn1 : n ≤ 1099511627776 := by omega
    clear hl hn hS hR l1
    go_enter Try.func18, Try.ntmps18
    go_wp2
    go_loopw [13] (fun i wr => ∃ k : Nat, k ≤ n ∧ i = .int .i64 k ∧ (∀ j, j < k → iG l j = iG r j) ∧ Below w.heap.size w wr) (fun i _ => n - (intOf i).toNat)
    case atStart => exact ⟨0, Nat.zero_le _, rfl, fun j h => by omega, Below.refl _ _⟩
    case round =>
      obtain ⟨k, hk, rfl, hall, hbr⟩ := hrel
      have HA := hidOg hall
      clear hall
      have hsz := hbr.size
      by_cases hk' : k < n
      · obtain ⟨b, off, rfl, hbB, hcs⟩ := (HS.out.below hbr (Nat.le_refl _)) (by have := HN.out; omega)
        have c0 := hcs k (by have := HN.out; omega)
        obtain ⟨b', off', rfl, hbB', hcs'⟩ := (HR.out.below hbr (Nat.le_refl _)) (by have := HNr.out; omega)
        have c0' := hcs' k (by have := HNr.out; omega)
        clear hcs hcs'
        obtain ⟨x, hx⟩ : ∃ x, x = iG l k := ⟨_, rfl⟩
        obtain ⟨y, hy⟩ : ∃ y, y = iG r k := ⟨_, rfl⟩
        rw [← hx] at c0
        rw [← hy] at c0'
        have HX := hidOg hx
        have HY := hidOg hy
        clear hx hy
        by_cases hxy : x = y
        · have HXY := hidOg hxy
          subst hxy
          go_wp2
          go_region
          go_wp2
          go_roundw
          case rel => exact ⟨k + 1, by omega, by go_num, fun j hj => (by by_cases e : j = k; { subst e; rw [← HX.out, ← HY.out] }; { exact HA.out j (by omega) }), below_drewN' hbr _⟩
          case measure => simp [intOf]; omega
        · have hd : (x == y) = false := by simpa using hxy
          go_wp2
          go_region
          go_wp2
          go_ret
          exact ⟨ret_bool (by rw [HV.out, samI_at k (by rw [← HX.out, ← HY.out]; exact hxy)]), below_drewN' hbr _⟩
      · obtain rfl : k = n := by omega
        go_wp2
        go_ret
        exact ⟨ret_bool (by rw [HV.out, samI_all HL.out (by rw [← HN.out]; exact HA.out)]), hbr⟩
  · have hl' : ((l.length : Int) == (r.length : Int)) = false := by simp; omega
    rw [samI_len hl]
    clear hS hR l1 hl
    go_enter Try.func18, Try.ntmps18
    go_wp2
    go_ret
    exact ⟨rfl, Below.refl _ _⟩
set_option maxRecDepth 20000 in
set_option maxHeartbeats 4000000 in
theorem equal34 (p : Option Addr) (l : List Sp) (c : Nat) (q : Option Addr) (r : List Sp) (d : Nat) (w : World) (hS : SRow w.heap.size w p l) (hR : SRow w.heap.size w q r) (l1 : l.length ≤ 1099511627776) :
    Calls Try.prog 34 #[.slice p l.length c, .slice q r.length d] w fun e w' => e = .returned (.bool (samS l r)) ∧ Below w.heap.size w w' := by
  by_cases hl : l.length = r.length
  · obtain ⟨v, hv⟩ : ∃ v, v = samS l r := ⟨_, rfl⟩
    rw [← hv]
    have HV := hidOg hv
    clear hv
    have HL := hidOg hl
    obtain ⟨n, hn⟩ : ∃ n, n = r.length := ⟨_, rfl⟩
    have HN : Hid (n = l.length) := by unfold Hid; omega
    have HS := hidOg hS
    have HR := hidOg hR
    have HNr := hidOg hn
    rw [show l.length = n by omega, show r.length = n by omega]
    have hn1 : n ≤ 1099511627776 := by omega
    clear hl hn hS hR l1
    go_enter Try.func34, Try.ntmps34
    go_wp2
    go_loopw [13] (fun i wr => ∃ k : Nat, k ≤ n ∧ i = .int .i64 k ∧ (∀ j, j < k → sG l j = sG r j) ∧ Below w.heap.size w wr) (fun i _ => n - (intOf i).toNat)
    case atStart => exact ⟨0, Nat.zero_le _, rfl, fun j h => by omega, Below.refl _ _⟩
    case round =>
      obtain ⟨k, hk, rfl, hall, hbr⟩ := hrel
      have HA := hidOg hall
      clear hall
      have hsz := hbr.size
      by_cases hk' : k < n
      · obtain ⟨b, off, rfl, hbB, hcs⟩ := (HS.out.below hbr (Nat.le_refl _)) (by have := HN.out; omega)
        obtain ⟨c0, c1⟩ := hcs k (by have := HN.out; omega)
        obtain ⟨b', off', rfl, hbB', hcs'⟩ := (HR.out.below hbr (Nat.le_refl _)) (by have := HNr.out; omega)
        obtain ⟨c0', c1'⟩ := hcs' k (by have := HNr.out; omega)
        clear hcs hcs'
        obtain ⟨⟨x, x2⟩, hx⟩ : ∃ x, x = sG l k := ⟨_, rfl⟩
        obtain ⟨⟨y, y2⟩, hy⟩ : ∃ y, y = sG r k := ⟨_, rfl⟩
        rw [← hx] at c0 c1
        rw [← hy] at c0' c1'
        have HX := hidOg hx
        have HY := hidOg hy
        clear hx hy
        by_cases hxy : x = y ∧ x2 = y2
        · obtain ⟨rfl, rfl⟩ := hxy
          go_wp2
          go_region
          go_wp2
          go_roundw
          case rel => exact ⟨k + 1, by omega, by go_num, fun j hj => (by by_cases e : j = k; { subst e; rw [← HX.out, ← HY.out] }; { exact HA.out j (by omega) }), below_drewN' hbr _⟩
          case measure => simp [intOf]; omega
        · have hd : (x == y && x2 == y2) = false := by simpa using hxy
          have HXY : Hid (¬ ((x, x2) = (y, y2))) := fun e => hxy (by injection e with e1 e2; exact ⟨e1, e2⟩)
          by_cases hx1 : x = y
          · have hx2 : ¬ x2 = y2 := fun e => hxy ⟨hx1, e⟩
            have hd2 : (x2 == y2) = false := by simpa using hx2
            have hd1 : (x == y) = true := by simpa using hx1
            clear hxy
            go_wp2
            go_region
            all_goals
              go_wp2
              go_ret
              exact ⟨ret_bool (by rw [HV.out, samS_at k (by rw [← HX.out, ← HY.out]; exact HXY.out)]), below_drewN' hbr _⟩
          · have hd1 : (x == y) = false := by simpa using hx1
            clear hxy
            go_wp2
            go_region
            all_goals
              go_wp2
              go_ret
              exact ⟨ret_bool (by rw [HV.out, samS_at k (by rw [← HX.out, ← HY.out]; exact HXY.out)]), below_drewN' hbr _⟩
      · obtain rfl : k = n := by omega
        go_wp2
        go_ret
        exact ⟨ret_bool (by rw [HV.out, samS_all HL.out (by rw [← HN.out]; exact HA.out)]), hbr⟩
  · have hl' : ((l.length : Int) == (r.length : Int)) = false := by simp; omega
    rw [samS_len hl]
    clear hS hR l1 hl
    go_enter Try.func34, Try.ntmps34
    go_wp2
    go_ret
    exact ⟨rfl, Below.refl _ _⟩
/-- A call that hands back a row that it owns. -/
def GivesO (l : List Int) (w : World) (e : Ending) (w' : World) : Prop := ∃ v, e = .returned v ∧ w'.ownsRow w.heap.size 3 1 v l.length (l.map (Value.int .i64)) ∧ Below w.heap.size w w'
set_option maxRecDepth 20000 in
theorem clone29 (p : Option Addr) (l : List Int) (c : Nat) (w : World) (hS : IRow .i64 w.heap.size w p l) (hn : l.length ≤ 1099511627776) :
    Calls Try.prog 29 #[.slice p l.length c] w fun e w' => GivesO l w e w' := by
  cases p with
  | none =>
    have h0 : l = [] := by
      cases l with
      | nil => rfl
      | cons x t => obtain ⟨b, off, h, _⟩ := hS (by simp); cases h
    subst h0
    clear hS hn
    have qn := fun (w : World) => Lib.run_eql_slice_nil (P := Try.prog) w 26 _ none 0 c 0 0 Try.underlying26
    go_enter Try.func29, Try.ntmps29
    go_wp2
    go_ret
    exact ⟨_, rfl, World.ownsRow_nil _ _ _ _, Below.refl _ _⟩
  | some a =>
    obtain ⟨i0, hi, hz0, hz1, hz2⟩ := info_parts Try.info3
    have ho := World.ownsRow_made (base := w.heap.size) (e := 3) (size := 1) w #[] 0 (Nat.le_refl _) (by unfold maxLen; omega) (by simp)
    have qn := fun (w : World) => Lib.run_eql_slice_nil (P := Try.prog) w 26 _ (some a) l.length c 0 0 Try.underlying26
    have hsrc : ∀ (o : Obj) j u, (cellsI .i64 l)[j]? = some u → (w.alloc o).cell? (a.add j) = some u := by
      intro o j u hj
      have hlt : j < l.length := by have := (List.getElem?_eq_some_iff.1 hj).1; simpa [cellsI] using this
      obtain ⟨b, off, e, _, hc⟩ := hS.to ((Below.refl w.heap.size w).alloc (Nat.le_refl _) o) (by omega)
      cases e
      exact cellsI_src hc j u hj
    have hlen := cellsI_len .i64 l
    have hone := cellsI_one .i64 l
    obtain ⟨n, hn'⟩ : ∃ n, n = l.length := ⟨_, rfl⟩
    have HE := hidOg hn'
    rw [← hn'] at hlen qn hn ⊢
    clear hS hn'
    go_enter Try.func29, Try.ntmps29
    go_wp2_with (first | (at_builtin; refine wpList_append_own _ rfl _ _ 26 rfl w.heap.size 3 i0 (.int .i64 0) 1 8 Try.underlying26 hi hz0 hz1 hz2 rfl (by decide) _ _ _ rfl ho a n c (cellsI .i64 l) rfl hlen (hsrc _) hone (by unfold maxLen; omega) (by omega) (by simp) ?_; intro v' w1 hown hgrow _))
    go_ret
    have hb : Below w.heap.size w w1 := ((Below.refl _ w).alloc (Nat.le_refl _) _).grown hgrow (by simp) (fun k hk => by have h' : w.heap.size = k := Option.some.inj hk; omega)
    rw [HE.out, Nat.zero_add] at hown
    exact ⟨_, rfl, hown, hb⟩
def GivesS (l : List Sp) (w : World) (e : Ending) (w' : World) : Prop := ∃ p c, e = .returned (.slice p l.length c) ∧ OwnS w.heap.size w' p l c ∧ Below w.heap.size w w'
set_option maxRecDepth 20000 in
theorem clone31 (p : Option Addr) (l : List Sp) (c : Nat) (w : World) (hS : SRow w.heap.size w p l) (hn : l.length ≤ 1099511627776) :
    Calls Try.prog 31 #[.slice p l.length c] w fun e w' => GivesS l w e w' := by
  cases p with
  | none =>
    have h0 : l = [] := by
      cases l with
      | nil => rfl
      | cons x t => obtain ⟨b, off, h, _⟩ := hS (by simp); cases h
    subst h0
    clear hS hn
    have qn := fun (w : World) => Lib.run_eql_slice_nil (P := Try.prog) w 22 _ none 0 c 0 0 Try.underlying22
    go_enter Try.func31, Try.ntmps31
    go_wp2
    go_ret
    exact ⟨none, 0, rfl, OwnS.nil _ _, Below.refl _ _⟩
  | some a =>
    obtain ⟨i0, hi, hz0, hz1, hz2⟩ := info_parts Try.info34
    have ho := World.ownsRow_made (base := w.heap.size) (e := 34) (size := 2) w #[] 0 (Nat.le_refl _) (by unfold maxLen; omega) (by simp)
    have qn := fun (w : World) => Lib.run_eql_slice_nil (P := Try.prog) w 22 _ (some a) l.length c 0 0 Try.underlying22
    have hsrc : ∀ (o : Obj) j u, (cellsS l)[j]? = some u → (w.alloc o).cell? (a.add j) = some u := by
      intro o j u hj
      have hlt : j < l.length * 2 := by have := (List.getElem?_eq_some_iff.1 hj).1; rwa [cellsS_len] at this
      obtain ⟨b, off, e, _, hc⟩ := hS.to ((Below.refl w.heap.size w).alloc (Nat.le_refl _) o) (by omega)
      cases e
      exact srow_src hc j u hj
    have hlen := cellsS_len l
    have hone := cellsS_one l
    obtain ⟨n, hn'⟩ : ∃ n, n = l.length := ⟨_, rfl⟩
    have HE := hidOg hn'
    rw [← hn'] at hlen qn hn ⊢
    clear hS hn'
    go_enter Try.func31, Try.ntmps31
    go_wp2_with (first | (at_builtin; refine wpList_append_own _ rfl _ _ 22 rfl w.heap.size 34 i0 (.agg #[.int .i64 0, .int .i64 0]) 2 16 Try.underlying22 hi hz0 hz1 hz2 rfl (by decide) _ _ _ rfl ho a n c (cellsS l) rfl hlen (hsrc _) hone (by unfold maxLen; omega) (by omega) (by simp) ?_; intro v' w1 hown hgrow _))
    go_ret
    have hb : Below w.heap.size w w1 := ((Below.refl _ w).alloc (Nat.le_refl _) _).grown hgrow (by simp) (fun k hk => by have h' : w.heap.size = k := Option.some.inj hk; omega)
    rw [HE.out, Nat.zero_add] at hown
    obtain ⟨q', c', e, _⟩ := srow_owns (l := l) (by simpa using hown)
    subst e
    exact ⟨q', c', rfl, ⟨by simpa using hown, by rw [← HE.out]; exact hn⟩, hb⟩
/-- Where a number stands first, -1: nowhere. -/
def ixN (l : List Int) (x : Int) (k : Nat) : Int := if x ∈ l.take k then ((l.idxOf x : Nat) : Int) else -1
theorem idx_at {l : List Int} {x : Int} {k : Nat} (hk : k < l.length) (h : ∀ j, j < k → iG l j ≠ x) (e : iG l k = x) : l.idxOf x = k := by
  unfold List.idxOf
  rw [List.findIdx_eq hk]
  refine ⟨by rw [← iG_eq hk, e]; simp, fun j hj => ?_⟩
  have := h j hj
  rw [iG_eq (by omega)] at this
  simpa using this
def ixA (l : List Int) (x : Int) : Int := if x ∈ l then ((l.idxOf x : Nat) : Int) else -1
set_option maxHeartbeats 1000000 in
theorem index28 (p : Option Addr) (l : List Int) (c : Nat) (x : Int) (w : World) (h : IRow .i64 w.heap.size w p l) (hl : l.length ≤ 1099511627776) :
    Calls Try.prog 28 #[.slice p l.length c, .int .i64 x] w fun e w' => e = .returned (.int .i64 (ixA l x)) ∧ w' = w := by
  have HC := hidOg h
  obtain ⟨m, hm⟩ : ∃ m, m = l.length := ⟨_, rfl⟩
  rw [← hm] at hl ⊢
  have HM := hidOg hm
  obtain ⟨A, hA⟩ : ∃ A, A = ixA l x := ⟨_, rfl⟩
  rw [← hA]
  have HA := hidOg hA
  clear h hm hA
  go_enter Try.func28, Try.ntmps28
  go_wp2
  go_loopw [5, 8] (fun _ i wr => ∃ k : Nat, k ≤ m ∧ i = .int .i64 k ∧ (∀ j, j < k → iG l j ≠ x) ∧ wr = w) (fun _ i _ => m - (intOf i).toNat)
  case atStart => exact ⟨0, Nat.zero_le _, rfl, (fun j h => by omega), rfl⟩
  case round =>
    obtain ⟨k, hk, rfl, hE, rfl⟩ := hrel
    have HE := hidOg hE
    clear hE
    by_cases hlt : k < m
    · obtain ⟨b, off, rfl, hbN, hcs⟩ := HC.out (by rw [← HM.out]; omega)
      have c0 := hcs k (by rw [← HM.out]; omega)
      obtain ⟨y, hy⟩ : ∃ y, y = iG l k := ⟨_, rfl⟩
      rw [← hy] at c0
      have HY := hidOg hy
      clear hcs hy
      by_cases hz : x = y
      · have hd : (x == y) = true := by simpa using hz
        have HZ := hidOg hz
        clear hz
        go_wp2
        go_ret
        have hk' : k < l.length := by rw [← HM.out]; exact hlt
        have e2 : iG l k = x := by rw [← HY.out, HZ.out]
        exact ⟨ret_int (by rw [HA.out]; unfold ixA; rw [if_pos (by rw [← e2]; exact iG_mem hk'), idx_at hk' HE.out e2]), rfl⟩
      · have hd : (x == y) = false := by simpa using hz
        have HZ := hidOg hz
        clear hz
        go_wp2
        go_roundw
        case rel => exact ⟨k + 1, by omega, by go_num, fun j hj => (by by_cases e : j = k; { subst e; rw [← HY.out]; exact fun e => HZ.out e.symm }; { exact HE.out j (by omega) }), trivial⟩
        case measure => simp [intOf]; omega
    · obtain rfl : k = m := by omega
      go_wp2
      go_ret
      exact ⟨ret_int (by
        rw [HA.out]; unfold ixA; rw [if_neg]
        intro hm
        obtain ⟨j, hj, e⟩ := List.getElem_of_mem hm
        exact HE.out j (by rw [HM.out]; exact hj) (by rw [iG_eq hj]; exact e)), rfl⟩
def hasI (l : List Int) (x : Int) : Bool := decide (x ∈ l)
theorem contains27 (p : Option Addr) (l : List Int) (c : Nat) (x : Int) (w : World) (h : IRow .i64 w.heap.size w p l) (hl : l.length ≤ 1099511627776) :
    Calls Try.prog 27 #[.slice p l.length c, .int .i64 x] w fun e w' => e = .returned (.bool (hasI l x)) ∧ w' = w := by
  have C := index28 p l c x w h hl
  by_cases hx : x ∈ l
  · have e : ixA l x = ((l.idxOf x : Nat) : Int) := if_pos hx
    have E : Hid (hasI l x = true) := decide_eq_true hx
    have hle : l.idxOf x ≤ l.length := List.idxOf_le_length
    rw [e] at C
    rw [E.out]
    generalize l.idxOf x = k at C hle
    have d : decide ((0 : Int) ≤ (k : Int)) = true := by simp
    clear h e hx E
    go_enter Try.func27, Try.ntmps27
    go_wp2_with (first | (go_at_call 28; refine Calls.mono C ?_; rintro e w1 ⟨rfl, hw⟩; rw [hw]; clear hw w1))
    go_ret
    exact ⟨rfl, rfl⟩
  · have e : ixA l x = -1 := if_neg hx
    have E : Hid (hasI l x = false) := decide_eq_false hx
    rw [e] at C
    rw [E.out]
    clear h e hx E
    go_enter Try.func27, Try.ntmps27
    go_wp2_with (first | (go_at_call 28; refine Calls.mono C ?_; rintro e w1 ⟨rfl, hw⟩; rw [hw]; clear hw w1))
    go_ret
    exact ⟨rfl, rfl⟩
end Go.Proofs.Ytijlkdppjmfbhaa
