/- AllocSees: slices.Equal of ids, the document's Entity, Room and Is. -/
import Derived.Test.YtaglhajlgnjhcaaDoorReD
import Derived.Test.YtaglhajlgnjhcaaDoorOwB
namespace Go.Proofs.YtaglhajlgnjhcaaDoor
open Go.RowKit

set_option maxRecDepth 20000 in
set_option maxHeartbeats 4000000 in
theorem equal19 (p : Option Addr) (l : List Int) (c : Nat) (q : Option Addr) (r : List Int) (d : Nat) (w : World) (hS : IRow .u64 w.heap.size w p l) (hR : IRow .u64 w.heap.size w q r) (l1 : l.length ≤ 8796093022208) :
    Calls Tryd.prog 19 #[.slice p l.length c, .slice q r.length d] w fun e w' => e = .returned (.bool (samI l r)) ∧ Below w.heap.size w w' := by
  by_cases hl : l.length = r.length
  · obtain ⟨v, hv⟩ : ∃ v, v = samI l r := ⟨_, rfl⟩
    rw [← hv]
    have HV : Hid (v = eqI l r l.length) := by unfold Hid; rw [hv]; unfold samI; rw [decide_eq_true hl]; rfl
    clear hv
    have hl' : (l.length : Int) = (r.length : Int) := by omega
    have HL : Hid (l.length = r.length) := hl
    obtain ⟨n, hn⟩ : ∃ n, n = r.length := ⟨_, rfl⟩
    have HN : Hid (n = l.length) := by unfold Hid; omega
    have HS : Hid (IRow .u64 w.heap.size w p l) := hS
    have HR : Hid (IRow .u64 w.heap.size w q r) := hR
    have HNr : Hid (n = r.length) := hn
    rw [show l.length = n by omega, show r.length = n by omega]
    have hn1 : n ≤ 8796093022208 := by omega
    clear hl hl' hn hS hR l1 HL
    go_enter Tryd.func19, Tryd.ntmps19
    go_wp2
    go_loopw [13] (fun i wr => ∃ k : Nat, k ≤ n ∧ i = .int .i64 k ∧ (∀ j, j < k → iG l j = iG r j) ∧ Below w.heap.size w wr) (fun i _ => n - (intOf i).toNat)
    case atStart => exact ⟨0, Nat.zero_le _, rfl, fun j h => by omega, Below.refl _ _⟩
    case round =>
      obtain ⟨k, hk, rfl, hall, hbr⟩ := hrel
      have HA : Hid (∀ j, j < k → iG l j = iG r j) := hall
      clear hall
      have hsz := hbr.size
      by_cases hk' : k < n
      · obtain ⟨b, off, rfl, hbB, hcs⟩ := (HS.out.below hbr (Nat.le_refl _)) (by have := HN.out; omega)
        have c0 := hcs k (by have := HN.out; omega)
        obtain ⟨b', off', rfl, hbB', hcs'⟩ := (HR.out.below hbr (Nat.le_refl _)) (by have := HNr.out; omega)
        have c0' := hcs' k (by have := HNr.out; omega)
        clear hcs hcs'
        obtain ⟨x, hx⟩ : ∃ x, x = iG l k := ⟨_, rfl⟩
        obtain ⟨y, hy⟩ : ∃ y, y = iG r k := ⟨_, rfl⟩
        rw [← hx] at c0
        rw [← hy] at c0'
        have HX : Hid (x = iG l k) := hx
        have HY : Hid (y = iG r k) := hy
        clear hx hy
        by_cases hxy : x = y
        · have HXY : Hid (x = y) := hxy
          subst hxy
          go_wp2
          go_region
          go_wp2
          go_roundw
          case rel => exact ⟨k + 1, by omega, by go_num, fun j hj => (by by_cases e : j = k; { subst e; rw [← HX.out, ← HY.out] }; { exact HA.out j (by omega) }), below_drewN' hbr _⟩
          case measure => simp [intOf]; omega
        · have hd : (x == y) = false := by simpa using hxy
          go_wp2
          go_region
          go_wp2
          go_ret
          exact ⟨ret_bool (by rw [HV.out, eqI_false k (by have := HN.out; omega) (by rw [← HX.out, ← HY.out]; exact hxy)]), below_drewN' hbr _⟩
      · obtain rfl : k = n := by omega
        go_wp2
        go_ret
        exact ⟨ret_bool (by rw [HV.out, (eqI_iff _ _ _).2 (by rw [← HN.out]; exact HA.out)]), hbr⟩
  · have e : samI l r = false := by unfold samI; rw [decide_eq_false hl]; rfl
    rw [e]
    have hl' : ¬ ((l.length : Int) = (r.length : Int)) := by omega
    clear e hl
    go_enter Tryd.func19, Tryd.ntmps19
    go_wp2
    go_ret
    exact ⟨rfl, Below.refl _ _⟩

theorem entity41 (i g : Int) (w : World) (h0 : 0 ≤ i) (h1 : i < 4294967296) (h2 : 0 ≤ g) (h3 : g < 4294967296) :
    Calls Tryd.prog 41 #[.int .i64 i, .int .i64 g] w fun e w' => e = .returned (.int .u64 (i + g * 4294967296)) ∧ w' = w := by
  go_enter Tryd.func41, Tryd.ntmps41
  go_wp2
  go_ret
  exact ⟨rfl, rfl⟩
theorem ent_eq {i g : Int} (h0 : 1 ≤ i) (h1 : i ≤ 1048578) (h2 : 0 ≤ g) (h3 : g ≤ 7) : entV i g = i + g * 4294967296 := by
  rw [(ent_parts h0 h1 h2 h3).1]; omega

def isAt (l : List (Int × Bool)) (x : Int) (k : Nat) : Bool := sA l k && decide ((k : Int) + 1 + sG l k * 4294967296 = x)
def isB (l : List (Int × Bool)) (x : Int) : Bool := (List.range l.length).any (isAt l x)
theorem isB_true {l : List (Int × Bool)} {x : Int} (k : Nat) (hk : k < l.length) (h : isAt l x k = true) : isB l x = true := by
  unfold isB; rw [List.any_eq_true]; exact ⟨k, by simpa using hk, h⟩
theorem isB_false {l : List (Int × Bool)} {x : Int} (h : ∀ k, k < l.length → isAt l x k = false) : isB l x = false := by
  rw [Bool.eq_false_iff]; intro h'; unfold isB at h'; rw [List.any_eq_true] at h'
  obtain ⟨k, hk, e⟩ := h'
  rw [h k (by simpa using hk)] at e; cases e

set_option maxRecDepth 20000 in
set_option maxHeartbeats 2000000 in
theorem is23 (m : Int) (p : Option Addr) (l : List (Int × Bool)) (c : Nat) (q : Option Addr) (n d : Nat) (x : Int) (w : World) (hS : SRow w.heap.size w p l) (hn : l.length ≤ 1048578) (hg : ∀ k, k < l.length → 0 ≤ sG l k ∧ sG l k ≤ 7) :
    Calls Tryd.prog 23 #[.agg #[.int .i64 m, .slice p l.length c, .slice q n d], .int .u64 x] w fun e w' => e = .returned (.bool (isB l x)) ∧ Below w.heap.size w w' := by
  obtain ⟨v, hv⟩ : ∃ v, v = isB l x := ⟨_, rfl⟩
  rw [← hv]
  have HV : Hid (v = isB l x) := hv
  have HG : Hid (∀ k, k < l.length → 0 ≤ sG l k ∧ sG l k ≤ 7) := hg
  clear hv hg
  go_enter Tryd.func23, Tryd.ntmps23
  go_wp2
  go_loopw [10] (fun i wr => ∃ k : Nat, k ≤ l.length ∧ i = .int .i64 k ∧ (∀ j, j < k → isAt l x j = false) ∧ Below w.heap.size w wr) (fun i _ => l.length - (intOf i).toNat)
  case atStart => exact ⟨0, Nat.zero_le _, rfl, fun j h => by omega, (Below.refl _ _).alloc (Nat.le_refl _) _⟩
  case round =>
    obtain ⟨k, hk, rfl, hall, hbr⟩ := hrel
    have HA : Hid (∀ j, j < k → isAt l x j = false) := hall
    clear hall
    have hsz := hbr.size
    by_cases hk' : k < l.length
    · obtain ⟨b, off, rfl, hbB, hcs⟩ := (hS.below hbr (Nat.le_refl _)) (by omega)
      obtain ⟨c0, c1⟩ := hcs k hk'
      clear hcs
      obtain ⟨g0, g1⟩ := HG.out k hk'
      obtain ⟨g, hgg⟩ : ∃ g, g = sG l k := ⟨_, rfl⟩
      rw [← hgg] at c0 g0 g1
      have HGG : Hid (g = sG l k) := hgg
      clear hgg
      have CE := fun (W : World) => entity41 ((k : Int) + 1) g W (by omega) (by omega) g0 (by omega)
      cases hv : sA l k
      · rw [hv] at c1
        have HS : Hid (sA l k = false) := hv
        clear hv
        go_wp2
        go_roundw
        case rel => exact ⟨k + 1, by omega, by go_num, fun j hj => (by by_cases e : j = k; { subst e; unfold isAt; rw [HS.out]; rfl }; { exact HA.out j (by omega) }), hbr.alloc (by omega) _⟩
        case measure => simp [intOf]; omega
      · rw [hv] at c1
        have HS : Hid (sA l k = true) := hv
        clear hv
        by_cases hx : (k : Int) + 1 + g * 4294967296 = x
        · have HX : Hid ((k : Int) + 1 + g * 4294967296 = x) := hx
          subst hx
          go_wp2_with (first | (go_at_call 41; refine Calls.mono (CE _) ?_; rintro e w1 ⟨rfl, rfl⟩))
          go_ret
          exact ⟨ret_bool (by rw [HV.out, isB_true k hk' (by unfold isAt; rw [HS.out, ← HGG.out]; simp)]), hbr.alloc (by omega) _⟩
        · have hd : ((k : Int) + 1 + g * 4294967296 == x) = false := by simpa using hx
          go_wp2_with (first | (go_at_call 41; refine Calls.mono (CE _) ?_; rintro e w1 ⟨rfl, rfl⟩))
          go_roundw
          case rel => exact ⟨k + 1, by omega, by go_num, fun j hj => (by by_cases e : j = k; { subst e; unfold isAt; rw [HS.out, ← HGG.out, decide_eq_false hx]; rfl }; { exact HA.out j (by omega) }), hbr.alloc (by omega) _⟩
          case measure => simp [intOf]; omega
    · obtain rfl : k = l.length := by omega
      go_wp2
      go_ret
      exact ⟨ret_bool (by rw [HV.out, isB_false HA.out]), hbr⟩
end Go.Proofs.YtaglhajlgnjhcaaDoor
