/- The document's answer: Same; and slices.Equal of slots and of numbers. -/
import Derived.Test.YtaglhajlgnjhcaaDoorReA
namespace Go.Proofs.YtaglhajlgnjhcaaDoor
open Go.RowKit

/-- The rows are the same as far as place n. -/
def eqS (l r : List (Int × Bool)) (n : Nat) : Bool := (List.range n).all fun k => decide (sG l k = sG r k) && decide (sA l k = sA r k)
def eqI (l r : List Int) (n : Nat) : Bool := (List.range n).all fun k => decide (iG l k = iG r k)
theorem eqS_iff (l r : List (Int × Bool)) (n : Nat) : eqS l r n = true ↔ ∀ k, k < n → sG l k = sG r k ∧ sA l k = sA r k := by
  unfold eqS; simp
theorem eqI_iff (l r : List Int) (n : Nat) : eqI l r n = true ↔ ∀ k, k < n → iG l k = iG r k := by
  unfold eqI; simp
theorem eqS_false {l r : List (Int × Bool)} {n : Nat} (k : Nat) (hk : k < n) (h : ¬ (sG l k = sG r k ∧ sA l k = sA r k)) : eqS l r n = false := by
  rw [Bool.eq_false_iff]; intro h'; exact h ((eqS_iff l r n).1 h' k hk)
theorem eqI_false {l r : List Int} {n : Nat} (k : Nat) (hk : k < n) (h : ¬ iG l k = iG r k) : eqI l r n = false := by
  rw [Bool.eq_false_iff]; intro h'; exact h ((eqI_iff l r n).1 h' k hk)
def samS (l r : List (Int × Bool)) : Bool := decide (l.length = r.length) && eqS l r l.length
def samI (l r : List Int) : Bool := decide (l.length = r.length) && eqI l r l.length
def sameB (m : Int) (l : List (Int × Bool)) (f : List Int) (m' : Int) (l' : List (Int × Bool)) (f' : List Int) : Bool := decide (m = m') && (samS l l' && samI f f')
theorem samS_refl (l : List (Int × Bool)) : samS l l = true := by unfold samS; rw [(eqS_iff l l l.length).2 (fun _ _ => ⟨rfl, rfl⟩)]; simp
theorem samI_refl (l : List Int) : samI l l = true := by unfold samI; rw [(eqI_iff l l l.length).2 (fun _ _ => rfl)]; simp
theorem sameB_refl (m : Int) (l : List (Int × Bool)) (f : List Int) : sameB m l f m l f = true := by unfold sameB; rw [samS_refl, samI_refl]; simp

set_option maxRecDepth 20000 in
set_option maxHeartbeats 4000000 in
theorem equal38 (p : Option Addr) (l : List Int) (c : Nat) (q : Option Addr) (r : List Int) (d : Nat) (w : World) (hS : IRow .i64 w.heap.size w p l) (hR : IRow .i64 w.heap.size w q r) (l1 : l.length ≤ 8796093022208) :
    Calls Tryd.prog 38 #[.slice p l.length c, .slice q r.length d] w fun e w' => e = .returned (.bool (samI l r)) ∧ Below w.heap.size w w' := by
  by_cases hl : l.length = r.length
  · obtain ⟨v, hv⟩ : ∃ v, v = samI l r := ⟨_, rfl⟩
    rw [← hv]
    have HV : Hid (v = eqI l r l.length) := by unfold Hid; rw [hv]; unfold samI; rw [decide_eq_true hl]; rfl
    clear hv
    have hl' : (l.length : Int) = (r.length : Int) := by omega
    have HL : Hid (l.length = r.length) := hl
    obtain ⟨n, hn⟩ : ∃ n, n = r.length := ⟨_, rfl⟩
    have HN : Hid (n = l.length) := by unfold Hid; omega
    have HS : Hid (IRow .i64 w.heap.size w p l) := hS
    have HR : Hid (IRow .i64 w.heap.size w q r) := hR
    have HNr : Hid (n = r.length) := hn
    rw [show l.length = n by omega, show r.length = n by omega]
    have hn1 : n ≤ 8796093022208 := by omega
    clear hl hl' hn hS hR l1 HL
    go_enter Tryd.func38, Tryd.ntmps38
    go_wp2
    go_loopw [13] (fun i wr => ∃ k : Nat, k ≤ n ∧ i = .int .i64 k ∧ (∀ j, j < k → iG l j = iG r j) ∧ Below w.heap.size w wr) (fun i _ => n - (intOf i).toNat)
    case atStart => exact ⟨0, Nat.zero_le _, rfl, fun j h => by omega, Below.refl _ _⟩
    case round =>
      obtain ⟨k, hk, rfl, hall, hbr⟩ := hrel
      have HA : Hid (∀ j, j < k → iG l j = iG r j) := hall
      clear hall
      have hsz := hbr.size
      by_cases hk' : k < n
      · obtain ⟨b, off, rfl, hbB, hcs⟩ := (HS.out.below hbr (Nat.le_refl _)) (by have := HN.out; omega)
        have c0 := hcs k (by have := HN.out; omega)
        obtain ⟨b', off', rfl, hbB', hcs'⟩ := (HR.out.below hbr (Nat.le_refl _)) (by have := HNr.out; omega)
        have c0' := hcs' k (by have := HNr.out; omega)
        clear hcs hcs'
        obtain ⟨x, hx⟩ : ∃ x, x = iG l k := ⟨_, rfl⟩
        obtain ⟨y, hy⟩ : ∃ y, y = iG r k := ⟨_, rfl⟩
        rw [← hx] at c0
        rw [← hy] at c0'
        have HX : Hid (x = iG l k) := hx
        have HY : Hid (y = iG r k) := hy
        clear hx hy
        by_cases hxy : x = y
        · have HXY : Hid (x = y) := hxy
          subst hxy
          go_wp2
          go_region
          go_wp2
          go_roundw
          case rel => exact ⟨k + 1, by omega, by go_num, fun j hj => (by by_cases e : j = k; { subst e; rw [← HX.out, ← HY.out] }; { exact HA.out j (by omega) }), below_drewN' hbr _⟩
          case measure => simp [intOf]; omega
        · have hd : (x == y) = false := by simpa using hxy
          go_wp2
          go_region
          go_wp2
          go_ret
          exact ⟨ret_bool (by rw [HV.out, eqI_false k (by have := HN.out; omega) (by rw [← HX.out, ← HY.out]; exact hxy)]), below_drewN' hbr _⟩
      · obtain rfl : k = n := by omega
        go_wp2
        go_ret
        exact ⟨ret_bool (by rw [HV.out, (eqI_iff _ _ _).2 (by rw [← HN.out]; exact HA.out)]), hbr⟩
  · have e : samI l r = false := by unfold samI; rw [decide_eq_false hl]; rfl
    rw [e]
    have hl' : ¬ ((l.length : Int) = (r.length : Int)) := by omega
    clear e hl
    go_enter Tryd.func38, Tryd.ntmps38
    go_wp2
    go_ret
    exact ⟨rfl, Below.refl _ _⟩

set_option maxRecDepth 20000 in
set_option maxHeartbeats 4000000 in
theorem equal37 (p : Option Addr) (l : List (Int × Bool)) (c : Nat) (q : Option Addr) (r : List (Int × Bool)) (d : Nat) (w : World) (hS : SRow w.heap.size w p l) (hR : SRow w.heap.size w q r) (l1 : l.length ≤ 8796093022208) :
    Calls Tryd.prog 37 #[.slice p l.length c, .slice q r.length d] w fun e w' => e = .returned (.bool (samS l r)) ∧ Below w.heap.size w w' := by
  by_cases hl : l.length = r.length
  · obtain ⟨v, hv⟩ : ∃ v, v = samS l r := ⟨_, rfl⟩
    rw [← hv]
    have HV : Hid (v = eqS l r l.length) := by unfold Hid; rw [hv]; unfold samS; rw [decide_eq_true hl]; rfl
    clear hv
    have hl' : (l.length : Int) = (r.length : Int) := by omega
    have HL : Hid (l.length = r.length) := hl
    obtain ⟨n, hn⟩ : ∃ n, n = r.length := ⟨_, rfl⟩
    have HN : Hid (n = l.length) := by unfold Hid; omega
    have HS : Hid (SRow w.heap.size w p l) := hS
    have HR : Hid (SRow w.heap.size w q r) := hR
    have HNr : Hid (n = r.length) := hn
    rw [show l.length = n by omega, show r.length = n by omega]
    have hn1 : n ≤ 8796093022208 := by omega
    clear hl hl' hn hS hR l1 HL
    go_enter Tryd.func37, Tryd.ntmps37
    go_wp2
    go_loopw [13] (fun i wr => ∃ k : Nat, k ≤ n ∧ i = .int .i64 k ∧ (∀ j, j < k → sG l j = sG r j ∧ sA l j = sA r j) ∧ Below w.heap.size w wr) (fun i _ => n - (intOf i).toNat)
    case atStart => exact ⟨0, Nat.zero_le _, rfl, fun j h => by omega, Below.refl _ _⟩
    case round =>
      obtain ⟨k, hk, rfl, hall, hbr⟩ := hrel
      have HA : Hid (∀ j, j < k → sG l j = sG r j ∧ sA l j = sA r j) := hall
      clear hall
      have hsz := hbr.size
      by_cases hk' : k < n
      · obtain ⟨b, off, rfl, hbB, hcs⟩ := (HS.out.below hbr (Nat.le_refl _)) (by have := HN.out; omega)
        obtain ⟨c0, c1⟩ := hcs k (by have := HN.out; omega)
        obtain ⟨b', off', rfl, hbB', hcs'⟩ := (HR.out.below hbr (Nat.le_refl _)) (by have := HNr.out; omega)
        obtain ⟨c0', c1'⟩ := hcs' k (by have := HNr.out; omega)
        clear hcs hcs'
        obtain ⟨x, hx⟩ : ∃ x, x = sG l k := ⟨_, rfl⟩
        obtain ⟨y, hy⟩ : ∃ y, y = sG r k := ⟨_, rfl⟩
        obtain ⟨s, hs⟩ : ∃ s, s = sA l k := ⟨_, rfl⟩
        obtain ⟨t, ht⟩ : ∃ t, t = sA r k := ⟨_, rfl⟩
        rw [← hx] at c0
        rw [← hs] at c1
        rw [← hy] at c0'
        rw [← ht] at c1'
        have HX : Hid (x = sG l k) := hx
        have HY : Hid (y = sG r k) := hy
        have H1 : Hid (s = sA l k) := hs
        have H2 : Hid (t = sA r k) := ht
        clear hx hy hs ht
        have hc : (x = y ∧ s = t) ∨ ¬ x = y ∨ (x = y ∧ s = false ∧ t = true) ∨ (x = y ∧ s = true ∧ t = false) := by
          cases s <;> cases t <;> simp <;> omega
        rcases hc with ⟨rfl, rfl⟩ | hxy | ⟨rfl, rfl, rfl⟩ | ⟨rfl, rfl, rfl⟩
        · go_wp2
          go_region
          go_wp2
          go_roundw
          case rel => exact ⟨k + 1, by omega, by go_num, fun j hj => (by by_cases e : j = k; { subst e; rw [← HX.out, ← HY.out, ← H1.out, ← H2.out]; exact ⟨rfl, rfl⟩ }; { exact HA.out j (by omega) }), below_drewN' hbr _⟩
          case measure => simp [intOf]; omega
        · have hd : (x == y) = false := by simpa using hxy
          go_wp2
          go_region
          go_wp2
          go_ret
          exact ⟨ret_bool (by rw [HV.out, eqS_false k (by have := HN.out; omega) (by rw [← HX.out, ← HY.out]; exact fun h => hxy h.1)]), below_drewN' hbr _⟩
        all_goals
          go_wp2
          go_region
          go_wp2
          go_ret
          exact ⟨ret_bool (by rw [HV.out, eqS_false k (by have := HN.out; omega) (by rw [← H1.out, ← H2.out]; exact fun h => (by have := h.2; cases this))]), below_drewN' hbr _⟩
      · obtain rfl : k = n := by omega
        go_wp2
        go_ret
        exact ⟨ret_bool (by rw [HV.out, (eqS_iff _ _ _).2 (by rw [← HN.out]; exact HA.out)]), hbr⟩
  · have e : samS l r = false := by unfold samS; rw [decide_eq_false hl]; rfl
    rw [e]
    have hl' : ¬ ((l.length : Int) = (r.length : Int)) := by omega
    clear e hl
    go_enter Tryd.func37, Tryd.ntmps37
    go_wp2
    go_ret
    exact ⟨rfl, Below.refl _ _⟩
end Go.Proofs.YtaglhajlgnjhcaaDoor
