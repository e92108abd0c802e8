/- slices.Equal, slices.Clone at words; Same; the law's own, small. -/
import Derived.Test.YtkbikngkhaeakaaCoE
namespace Go.Proofs.Ytkbikngkhaeakaa
open Go.RowKit
set_option maxRecDepth 20000 in
set_option maxHeartbeats 4000000 in
theorem equal35 (p : Option Addr) (l : List Int) (c : Nat) (q : Option Addr) (r : List Int) (d : Nat) (w : World) (hS : IRow .u64 w.heap.size w p l) (hR : IRow .u64 w.heap.size w q r) (l1 : l.length ≤ 1099511627776) :
    Calls Try.prog 35 #[.slice p l.length c, .slice q r.length d] w fun e w' => e = .returned (.bool (samI l r)) ∧ Below w.heap.size w w' := by
  by_cases hl : l.length = r.length
  · obtain ⟨v, hv⟩ : ∃ v, v = samI l r := ⟨_, rfl⟩
    rw [← hv]
    have HV := hidOg hv
    clear hv
    have HL := hidOg hl
    obtain ⟨n, hn⟩ : ∃ n, n = r.length := ⟨_, rfl⟩
    have HN : Hid (n = l.length) := by unfold Hid; omega
    have HS := hidOg hS
    have HR := hidOg hR
    have HNr := hidOg hn
    rw [show l.length = n by omega, show r.length = n by omega]
    have hn1 : n ≤ 1099511627776 := by omega
    clear hl hn hS hR l1
    go_enter Try.func35, Try.ntmps35
    go_wp2
    go_loopw [13] (fun i wr => ∃ k : Nat, k ≤ n ∧ i = .int .i64 k ∧ (∀ j, j < k → iG l j = iG r j) ∧ Below w.heap.size w wr) (fun i _ => n - (intOf i).toNat)
    case atStart => exact ⟨0, Nat.zero_le _, rfl, fun j h => by omega, Below.refl _ _⟩
    case round =>
      obtain ⟨k, hk, rfl, hall, hbr⟩ := hrel
      have HA := hidOg hall
      clear hall
      have hsz := hbr.size
      by_cases hk' : k < n
      · obtain ⟨b, off, rfl, hbB, hcs⟩ := (HS.out.below hbr (Nat.le_refl _)) (by have := HN.out; omega)
        have c0 := hcs k (by have := HN.out; omega)
        obtain ⟨b', off', rfl, hbB', hcs'⟩ := (HR.out.below hbr (Nat.le_refl _)) (by have := HNr.out; omega)
        have c0' := hcs' k (by have := HNr.out; omega)
        clear hcs hcs'
        obtain ⟨x, hx⟩ : ∃ x, x = iG l k := ⟨_, rfl⟩
        obtain ⟨y, hy⟩ : ∃ y, y = iG r k := ⟨_, rfl⟩
        rw [← hx] at c0
        rw [← hy] at c0'
        have HX := hidOg hx
        have HY := hidOg hy
        clear hx hy
        by_cases hxy : x = y
        · have HXY := hidOg hxy
          subst hxy
          go_wp2
          go_region
          go_wp2
          go_roundw
          case rel => exact ⟨k + 1, by omega, by go_num, fun j hj => (by by_cases e : j = k; { subst e; rw [← HX.out, ← HY.out] }; { exact HA.out j (by omega) }), below_drewN' hbr _⟩
          case measure => simp [intOf]; omega
        · have hd : (x == y) = false := by simpa using hxy
          go_wp2
          go_region
          go_wp2
          go_ret
          exact ⟨ret_bool (by rw [HV.out, samI_at k (by rw [← HX.out, ← HY.out]; exact hxy)]), below_drewN' hbr _⟩
      · obtain rfl : k = n := by omega
        go_wp2
        go_ret
        exact ⟨ret_bool (by rw [HV.out, samI_all HL.out (by rw [← HN.out]; exact HA.out)]), hbr⟩
  · have hl' : ((l.length : Int) == (r.length : Int)) = false := by simp; omega
    rw [samI_len hl]
    clear hS hR l1 hl
    go_enter Try.func35, Try.ntmps35
    go_wp2
    go_ret
    exact ⟨rfl, Below.refl _ _⟩
set_option maxRecDepth 20000 in
set_option maxHeartbeats 4000000 in
theorem equal21 (p : Option Addr) (l : List Int) (c : Nat) (q : Option Addr) (r : List Int) (d : Nat) (w : World) (hS : IRow .u64 w.heap.size w p l) (hR : IRow .u64 w.heap.size w q r) (l1 : l.length ≤ 1099511627776) :
    Calls Try.prog 21 #[.slice p l.length c, .slice q r.length d] w fun e w' => e = .returned (.bool (samI l r)) ∧ Below w.heap.size w w' := by
  by_cases hl : l.length = r.length
  · obtain ⟨v, hv⟩ : ∃ v, v = samI l r := ⟨_, rfl⟩
    rw [← hv]
    have HV := hidOg hv
    clear hv
    have HL := hidOg hl
    obtain ⟨n, hn⟩ : ∃ n, n = r.length := ⟨_, rfl⟩
    have HN : Hid (n = l.length) := by unfold Hid; omega
    have HS := hidOg hS
    have HR := hidOg hR
    have HNr := hidOg hn
    rw [show l.length = n by omega, show r.length = n by omega]
    have hn1 : n ≤ 1099511627776 := by omega
    clear hl hn hS hR l1
    go_enter Try.func21, Try.ntmps21
    go_wp2
    go_loopw [13] (fun i wr => ∃ k : Nat, k ≤ n ∧ i = .int .i64 k ∧ (∀ j, j < k → iG l j = iG r j) ∧ Below w.heap.size w wr) (fun i _ => n - (intOf i).toNat)
    case atStart => exact ⟨0, Nat.zero_le _, rfl, fun j h => by omega, Below.refl _ _⟩
    case round =>
      obtain ⟨k, hk, rfl, hall, hbr⟩ := hrel
      have HA := hidOg hall
      clear hall
      have hsz := hbr.size
      by_cases hk' : k < n
      · obtain ⟨b, off, rfl, hbB, hcs⟩ := (HS.out.below hbr (Nat.le_refl _)) (by have := HN.out; omega)
        have c0 := hcs k (by have := HN.out; omega)
        obtain ⟨b', off', rfl, hbB', hcs'⟩ := (HR.out.below hbr (Nat.le_refl _)) (by have := HNr.out; omega)
        have c0' := hcs' k (by have := HNr.out; omega)
        clear hcs hcs'
        obtain ⟨x, hx⟩ : ∃ x, x = iG l k := ⟨_, rfl⟩
        obtain ⟨y, hy⟩ : ∃ y, y = iG r k := ⟨_, rfl⟩
        rw [← hx] at c0
        rw [← hy] at c0'
        have HX := hidOg hx
        have HY := hidOg hy
        clear hx hy
        by_cases hxy : x = y
        · have HXY := hidOg hxy
          subst hxy
          go_wp2
          go_region
          go_wp2
          go_roundw
          case rel => exact ⟨k + 1, by omega, by go_num, fun j hj => (by by_cases e : j = k; { subst e; rw [← HX.out, ← HY.out] }; { exact HA.out j (by omega) }), below_drewN' hbr _⟩
          case measure => simp [intOf]; omega
        · have hd : (x == y) = false := by simpa using hxy
          go_wp2
          go_region
          go_wp2
          go_ret
          exact ⟨ret_bool (by rw [HV.out, samI_at k (by rw [← HX.out, ← HY.out]; exact hxy)]), below_drewN' hbr _⟩
      · obtain rfl : k = n := by omega
        go_wp2
        go_ret
        exact ⟨ret_bool (by rw [HV.out, samI_all HL.out (by rw [← HN.out]; exact HA.out)]), hbr⟩
  · have hl' : ((l.length : Int) == (r.length : Int)) = false := by simp; omega
    rw [samI_len hl]
    clear hS hR l1 hl
    go_enter Try.func21, Try.ntmps21
    go_wp2
    go_ret
    exact ⟨rfl, Below.refl _ _⟩
/-- A call that hands back a row that it owns. -/
def GivesO (l : List Int) (w : World) (e : Ending) (w' : World) : Prop := ∃ v, e = .returned v ∧ w'.ownsRow w.heap.size 40 1 v l.length (l.map (Value.int .u64)) ∧ Below w.heap.size w w'
set_option maxRecDepth 20000 in
theorem clone33 (p : Option Addr) (l : List Int) (c : Nat) (w : World) (hS : IRow .u64 w.heap.size w p l) (hn : l.length ≤ 1099511627776) :
    Calls Try.prog 33 #[.slice p l.length c] w fun e w' => GivesO l w e w' := by
  cases p with
  | none =>
    have h0 : l = [] := by
      cases l with
      | nil => rfl
      | cons x t => obtain ⟨b, off, h, _⟩ := hS (by simp); cases h
    subst h0
    clear hS hn
    have qn := fun (w : World) => Lib.run_eql_slice_nil (P := Try.prog) w 22 _ none 0 c 0 0 Try.underlying22
    go_enter Try.func33, Try.ntmps33
    go_wp2
    go_ret
    exact ⟨_, rfl, World.ownsRow_nil _ _ _ _, Below.refl _ _⟩
  | some a =>
    obtain ⟨i0, hi, hz0, hz1, hz2⟩ := info_parts Try.info40
    have ho := World.ownsRow_made (base := w.heap.size) (e := 40) (size := 1) w #[] 0 (Nat.le_refl _) (by unfold maxLen; omega) (by simp)
    have qn := fun (w : World) => Lib.run_eql_slice_nil (P := Try.prog) w 22 _ (some a) l.length c 0 0 Try.underlying22
    have hsrc : ∀ (o : Obj) j u, (cellsI .u64 l)[j]? = some u → (w.alloc o).cell? (a.add j) = some u := by
      intro o j u hj
      have hlt : j < l.length := by have := (List.getElem?_eq_some_iff.1 hj).1; simpa [cellsI] using this
      obtain ⟨b, off, e, _, hc⟩ := hS.to ((Below.refl w.heap.size w).alloc (Nat.le_refl _) o) (by omega)
      cases e
      exact cellsI_src hc j u hj
    have hlen := cellsI_len .u64 l
    have hone := cellsI_one .u64 l
    obtain ⟨n, hn'⟩ : ∃ n, n = l.length := ⟨_, rfl⟩
    have HE := hidOg hn'
    rw [← hn'] at hlen qn hn ⊢
    clear hS hn'
    go_enter Try.func33, Try.ntmps33
    go_wp2_with (first | (at_builtin; refine wpList_append_own _ rfl _ _ 22 rfl w.heap.size 40 i0 (.int .u64 0) 1 8 Try.underlying22 hi hz0 hz1 hz2 rfl (by decide) _ _ _ rfl ho a n c (cellsI .u64 l) rfl hlen (hsrc _) hone (by unfold maxLen; omega) (by omega) (by simp) ?_; intro v' w1 hown hgrow _))
    go_ret
    have hb : Below w.heap.size w w1 := ((Below.refl _ w).alloc (Nat.le_refl _) _).grown hgrow (by simp) (fun k hk => by have h' : w.heap.size = k := Option.some.inj hk; omega)
    rw [HE.out, Nat.zero_add] at hown
    exact ⟨_, rfl, hown, hb⟩
set_option maxRecDepth 20000 in
theorem clone39 (p : Option Addr) (l : List Int) (c : Nat) (w : World) (hS : IRow .u64 w.heap.size w p l) (hn : l.length ≤ 1099511627776) :
    Calls Try.prog 39 #[.slice p l.length c] w fun e w' => GivesO l w e w' := by
  cases p with
  | none =>
    have h0 : l = [] := by
      cases l with
      | nil => rfl
      | cons x t => obtain ⟨b, off, h, _⟩ := hS (by simp); cases h
    subst h0
    clear hS hn
    have qn := fun (w : World) => Lib.run_eql_slice_nil (P := Try.prog) w 38 _ none 0 c 0 0 Try.underlying38
    go_enter Try.func39, Try.ntmps39
    go_wp2
    go_ret
    exact ⟨_, rfl, World.ownsRow_nil _ _ _ _, Below.refl _ _⟩
  | some a =>
    obtain ⟨i0, hi, hz0, hz1, hz2⟩ := info_parts Try.info40
    have ho := World.ownsRow_made (base := w.heap.size) (e := 40) (size := 1) w #[] 0 (Nat.le_refl _) (by unfold maxLen; omega) (by simp)
    have qn := fun (w : World) => Lib.run_eql_slice_nil (P := Try.prog) w 38 _ (some a) l.length c 0 0 Try.underlying38
    have hsrc : ∀ (o : Obj) j u, (cellsI .u64 l)[j]? = some u → (w.alloc o).cell? (a.add j) = some u := by
      intro o j u hj
      have hlt : j < l.length := by have := (List.getElem?_eq_some_iff.1 hj).1; simpa [cellsI] using this
      obtain ⟨b, off, e, _, hc⟩ := hS.to ((Below.refl w.heap.size w).alloc (Nat.le_refl _) o) (by omega)
      cases e
      exact cellsI_src hc j u hj
    have hlen := cellsI_len .u64 l
    have hone := cellsI_one .u64 l
    obtain ⟨n, hn'⟩ : ∃ n, n = l.length := ⟨_, rfl⟩
    have HE := hidOg hn'
    rw [← hn'] at hlen qn hn ⊢
    clear hS hn'
    go_enter Try.func39, Try.ntmps39
    go_wp2_with (first | (at_builtin; refine wpList_append_own _ rfl _ _ 38 rfl w.heap.size 40 i0 (.int .u64 0) 1 8 Try.underlying38 hi hz0 hz1 hz2 rfl (by decide) _ _ _ rfl ho a n c (cellsI .u64 l) rfl hlen (hsrc _) hone (by unfold maxLen; omega) (by omega) (by simp) ?_; intro v' w1 hown hgrow _))
    go_ret
    have hb : Below w.heap.size w w1 := ((Below.refl _ w).alloc (Nat.le_refl _) _).grown hgrow (by simp) (fun k hk => by have h' : w.heap.size = k := Option.some.inj hk; omega)
    rw [HE.out, Nat.zero_add] at hown
    exact ⟨_, rfl, hown, hb⟩
end Go.Proofs.Ytkbikngkhaeakaa
