/- cmp.Compare, isWidth, mayBe, Check, Right, slices.Equal, Same, slices.Clone, own, Compare and the document's. -/
import Derived.Test.YtofobpijkceldaaDoorMod
namespace Go.Proofs.YtofobpijkceldaaDoor
open Go.RowKit

theorem nan39 (x : Int) (w : World) : Calls Tryd.prog 39 #[.int .i64 x] w fun e w' => e = .returned (.bool false) ∧ w' = w := by
  go_enter Tryd.func39, Tryd.ntmps39
  go_wp2
  go_ret
  exact ⟨rfl, rfl⟩
theorem nan40 (x : Int) (w : World) : Calls Tryd.prog 40 #[.int .u64 x] w fun e w' => e = .returned (.bool false) ∧ w' = w := by
  go_enter Tryd.func40, Tryd.ntmps40
  go_wp2
  go_ret
  exact ⟨rfl, rfl⟩
theorem cmp33 (x y : Int) (w : World) : Calls Tryd.prog 33 #[.int .u64 x, .int .u64 y] w fun e w' => e = .returned (.int .i64 (if x < y then -1 else if y < x then 1 else 0)) ∧ w' = w := by
  by_cases h : x < y
  · rw [if_pos h]
    go_enter Tryd.func33, Tryd.ntmps33
    go_wp2_with (first | (go_at_call 40; refine (nan40 _ _).mono ?_; rintro e w1 ⟨rfl, rfl⟩))
    go_ret
    exact ⟨rfl, rfl⟩
  · rw [if_neg h]
    by_cases h' : y < x
    · rw [if_pos h']
      go_enter Tryd.func33, Tryd.ntmps33
      go_wp2_with (first | (go_at_call 40; refine (nan40 _ _).mono ?_; rintro e w1 ⟨rfl, rfl⟩))
      go_ret
      exact ⟨rfl, rfl⟩
    · rw [if_neg h']
      go_enter Tryd.func33, Tryd.ntmps33
      go_wp2_with (first | (go_at_call 40; refine (nan40 _ _).mono ?_; rintro e w1 ⟨rfl, rfl⟩))
      go_ret
      exact ⟨rfl, rfl⟩
theorem cmp32 (x y : Int) (w : World) : Calls Tryd.prog 32 #[.int .i64 x, .int .i64 y] w fun e w' => e = .returned (.int .i64 (if x < y then -1 else if y < x then 1 else 0)) ∧ w' = w := by
  by_cases h : x < y
  · rw [if_pos h]
    go_enter Tryd.func32, Tryd.ntmps32
    go_wp2_with (first | (go_at_call 39; refine (nan39 _ _).mono ?_; rintro e w1 ⟨rfl, rfl⟩))
    go_ret
    exact ⟨rfl, rfl⟩
  · rw [if_neg h]
    by_cases h' : y < x
    · rw [if_pos h']
      go_enter Tryd.func32, Tryd.ntmps32
      go_wp2_with (first | (go_at_call 39; refine (nan39 _ _).mono ?_; rintro e w1 ⟨rfl, rfl⟩))
      go_ret
      exact ⟨rfl, rfl⟩
    · rw [if_neg h']
      go_enter Tryd.func32, Tryd.ntmps32
      go_wp2_with (first | (go_at_call 39; refine (nan39 _ _).mono ?_; rintro e w1 ⟨rfl, rfl⟩))
      go_ret
      exact ⟨rfl, rfl⟩

def isW (n : Int) : Bool := decide (0 ≤ n) && decide (n ≤ 4)
theorem isW_t {n : Int} (h : isW n = true) : 0 ≤ n ∧ n ≤ 4 := by simpa [isW] using h
theorem isW_f {n : Int} (h : isW n = false) : n < 0 ∨ 4 < n := by simp [isW] at h; omega
theorem isWidth34 (n : Int) (w : World) : Calls Tryd.prog 34 #[.int .i64 n] w fun e w' => e = .returned (.bool (isW n)) ∧ w' = w := by
  by_cases h : 0 ≤ n
  · by_cases h' : n ≤ 4
    · have e : isW n = true := by simp [isW, h, h']
      rw [e]
      go_enter Tryd.func34, Tryd.ntmps34
      go_wp2
      go_ret
      exact ⟨rfl, rfl⟩
    · have e : isW n = false := by simp [isW, h']
      rw [e]
      go_enter Tryd.func34, Tryd.ntmps34
      go_wp2
      go_ret
      exact ⟨rfl, rfl⟩
  · have e : isW n = false := by simp [isW, h]
    rw [e]
    go_enter Tryd.func34, Tryd.ntmps34
    go_wp2
    go_ret
    exact ⟨rfl, rfl⟩
theorem mayBe31 (p : Option Addr) (n c : Nat) (w : World) : Calls Tryd.prog 31 #[.slice p n c] w fun e w' => e = .returned (.bool (isW n)) ∧ w' = w := by
  have CC := fun (W : World) => isWidth34 (n : Int) W
  go_enter Tryd.func31, Tryd.ntmps31
  go_wp2_with (first | (go_at_call 34; refine Calls.mono (CC _) ?_; rintro e w1 ⟨rfl, rfl⟩))
  go_ret
  exact ⟨rfl, rfl⟩
def chkE (n : Int) : Int := if isW n then 0 else 140
theorem check12 (p : Option Addr) (n c : Nat) (w : World) : Calls Tryd.prog 12 #[.slice p n c] w fun e w' => e = .returned (.int .i64 (chkE n)) ∧ w' = w := by
  have CC := fun (W : World) => mayBe31 p n c W
  cases hm : isW (n : Int)
  all_goals
    first | have E : Hid (chkE n = 140) := by unfold Hid chkE; rw [hm]; rfl | have E : Hid (chkE n = 0) := by unfold Hid chkE; rw [hm]; rfl
    rw [hm] at CC
    clear hm
    go_enter Tryd.func12, Tryd.ntmps12
    go_wp2_with (first | (go_at_call 31; refine Calls.mono (CC _) ?_; rintro e w1 ⟨rfl, rfl⟩))
    go_ret
    exact ⟨ret_int E.out.symm, rfl⟩
theorem right11 (p : Option Addr) (n c : Nat) (w : World) : Calls Tryd.prog 11 #[.slice p n c] w fun e w' => e = .returned (.bool (isW n)) ∧ w' = w := by
  by_cases h : (n : Int) ≤ 4
  · have e : isW n = true := by simp [isW]; omega
    rw [e]
    go_enter Tryd.func11, Tryd.ntmps11
    go_wp2
    go_ret
    exact ⟨ret_bool (by simp), rfl⟩
  · have e : isW n = false := by simp [isW]; omega
    rw [e]
    go_enter Tryd.func11, Tryd.ntmps11
    go_wp2
    go_ret
    exact ⟨ret_bool (by simp), rfl⟩

set_option maxRecDepth 20000 in
set_option maxHeartbeats 4000000 in
theorem equal17 (p : Option Addr) (l : List Int) (c : Nat) (q : Option Addr) (r : List Int) (d : Nat) (w : World) (hS : IRow .u64 w.heap.size w p l) (hR : IRow .u64 w.heap.size w q r) (l1 : l.length ≤ 8796093022208) :
    Calls Tryd.prog 17 #[.slice p l.length c, .slice q r.length d] w fun e w' => e = .returned (.bool (samI l r)) ∧ Below w.heap.size w w' := by
  by_cases hl : l.length = r.length
  · obtain ⟨v, hv⟩ : ∃ v, v = samI l r := ⟨_, rfl⟩
    rw [← hv]
    have HV := hidOg hv
    clear hv
    have HL := hidOg hl
    obtain ⟨n, hn⟩ : ∃ n, n = r.length := ⟨_, rfl⟩
    have HN : Hid (n = l.length) := by unfold Hid; omega
    have HS := hidOg hS
    have HR := hidOg hR
    have HNr := hidOg hn
    rw [show l.length = n by omega, show r.length = n by omega]
    have hn1 : n ≤ 8796093022208 := by omega
    clear hl hn hS hR l1
    go_enter Tryd.func17, Tryd.ntmps17
    go_wp2
    go_loopw [13] (fun i wr => ∃ k : Nat, k ≤ n ∧ i = .int .i64 k ∧ (∀ j, j < k → iG l j = iG r j) ∧ Below w.heap.size w wr) (fun i _ => n - (intOf i).toNat)
    case atStart => exact ⟨0, Nat.zero_le _, rfl, fun j h => by omega, Below.refl _ _⟩
    case round =>
      obtain ⟨k, hk, rfl, hall, hbr⟩ := hrel
      have HA := hidOg hall
      clear hall
      have hsz := hbr.size
      by_cases hk' : k < n
      · obtain ⟨b, off, rfl, hbB, hcs⟩ := (HS.out.below hbr (Nat.le_refl _)) (by have := HN.out; omega)
        have c0 := hcs k (by have := HN.out; omega)
        obtain ⟨b', off', rfl, hbB', hcs'⟩ := (HR.out.below hbr (Nat.le_refl _)) (by have := HNr.out; omega)
        have c0' := hcs' k (by have := HNr.out; omega)
        clear hcs hcs'
        obtain ⟨x, hx⟩ : ∃ x, x = iG l k := ⟨_, rfl⟩
        obtain ⟨y, hy⟩ : ∃ y, y = iG r k := ⟨_, rfl⟩
        rw [← hx] at c0
        rw [← hy] at c0'
        have HX := hidOg hx
        have HY := hidOg hy
        clear hx hy
        by_cases hxy : x = y
        · have HXY := hidOg hxy
          subst hxy
          go_wp2
          go_region
          go_wp2
          go_roundw
          case rel => exact ⟨k + 1, by omega, by go_num, fun j hj => (by by_cases e : j = k; { subst e; rw [← HX.out, ← HY.out] }; { exact HA.out j (by omega) }), below_drewN' hbr _⟩
          case measure => simp [intOf]; omega
        · have hd : (x == y) = false := by simpa using hxy
          go_wp2
          go_region
          go_wp2
          go_ret
          exact ⟨ret_bool (by rw [HV.out, samI_at k (by rw [← HX.out, ← HY.out]; exact hxy)]), below_drewN' hbr _⟩
      · obtain rfl : k = n := by omega
        go_wp2
        go_ret
        exact ⟨ret_bool (by rw [HV.out, samI_all HL.out (by rw [← HN.out]; exact HA.out)]), hbr⟩
  · have hl' : ((l.length : Int) == (r.length : Int)) = false := by simp; omega
    rw [samI_len hl]
    clear hS hR l1 hl
    go_enter Tryd.func17, Tryd.ntmps17
    go_wp2
    go_ret
    exact ⟨rfl, Below.refl _ _⟩
theorem same15 (p : Option Addr) (l : List Int) (c : Nat) (q : Option Addr) (r : List Int) (d : Nat) (w : World) (hS : IRow .u64 w.heap.size w p l) (hR : IRow .u64 w.heap.size w q r) (l1 : l.length ≤ 8796093022208) :
    Calls Tryd.prog 15 #[.slice p l.length c, .slice q r.length d] w fun e w' => e = .returned (.bool (samI l r)) ∧ Below w.heap.size w w' := by
  have CC := equal17 p l c q r d w hS hR l1
  clear hS hR l1
  go_enter Tryd.func15, Tryd.ntmps15
  go_wp2_with (first | (go_at_call 17; refine Calls.mono CC ?_; rintro e w1 ⟨rfl, hb⟩))
  go_ret
  exact ⟨rfl, hb⟩
/-- A call that hands back a row that it owns. -/
def GivesO (l : List Int) (w : World) (e : Ending) (w' : World) : Prop := ∃ v, e = .returned v ∧ w'.ownsRow w.heap.size 33 1 v l.length (l.map (Value.int .u64)) ∧ Below w.heap.size w w'
set_option maxRecDepth 20000 in
theorem clone30 (p : Option Addr) (l : List Int) (c : Nat) (w : World) (hS : IRow .u64 w.heap.size w p l) (hn : l.length ≤ 1099511627776) :
    Calls Tryd.prog 30 #[.slice p l.length c] w fun e w' => GivesO l w e w' := by
  cases p with
  | none =>
    have h0 : l = [] := by
      cases l with
      | nil => rfl
      | cons x t => obtain ⟨b, off, h, _⟩ := hS (by simp); cases h
    subst h0
    clear hS hn
    have qn := fun (w : World) => Lib.run_eql_slice_nil (P := Tryd.prog) w 26 _ none 0 c 0 0 Tryd.underlying26
    go_enter Tryd.func30, Tryd.ntmps30
    go_wp2
    go_ret
    exact ⟨_, rfl, World.ownsRow_nil _ _ _ _, Below.refl _ _⟩
  | some a =>
    obtain ⟨i0, hi, hz0, hz1, hz2⟩ := info_parts Tryd.info33
    have ho := World.ownsRow_made (base := w.heap.size) (e := 33) (size := 1) w #[] 0 (Nat.le_refl _) (by unfold maxLen; omega) (by simp)
    have qn := fun (w : World) => Lib.run_eql_slice_nil (P := Tryd.prog) w 26 _ (some a) l.length c 0 0 Tryd.underlying26
    have hsrc : ∀ (o : Obj) j u, (cellsI .u64 l)[j]? = some u → (w.alloc o).cell? (a.add j) = some u := by
      intro o j u hj
      have hlt : j < l.length := by have := (List.getElem?_eq_some_iff.1 hj).1; simpa [cellsI] using this
      obtain ⟨b, off, e, _, hc⟩ := hS.to ((Below.refl w.heap.size w).alloc (Nat.le_refl _) o) (by omega)
      cases e
      exact cellsI_src hc j u hj
    have hlen := cellsI_len .u64 l
    have hone := cellsI_one .u64 l
    obtain ⟨n, hn'⟩ : ∃ n, n = l.length := ⟨_, rfl⟩
    have HE := hidOg hn'
    rw [← hn'] at hlen qn hn ⊢
    clear hS hn'
    go_enter Tryd.func30, Tryd.ntmps30
    go_wp2_with (first | (at_builtin; refine wpList_append_own _ rfl _ _ 26 rfl w.heap.size 33 i0 (.int .u64 0) 1 8 Tryd.underlying26 hi hz0 hz1 hz2 rfl (by decide) _ _ _ rfl ho a n c (cellsI .u64 l) rfl hlen (hsrc _) hone (by unfold maxLen; omega) (by omega) (by simp) ?_; intro v' w1 hown hgrow _))
    go_ret
    have hb : Below w.heap.size w w1 := ((Below.refl _ w).alloc (Nat.le_refl _) _).grown hgrow (by simp) (fun k hk => by have h' : w.heap.size = k := Option.some.inj hk; omega)
    rw [HE.out, Nat.zero_add] at hown
    exact ⟨_, rfl, hown, hb⟩
set_option maxRecDepth 20000 in
theorem own10 (p : Option Addr) (l : List Int) (c : Nat) (w : World) (h : InR w p l c) :
    Calls Tryd.prog 10 #[.slice p l.length c] w fun e w' => GivesO (l.take 8) w e w' := by
  obtain ⟨n, hn⟩ : ∃ n, n = (l.take 8).length := ⟨_, rfl⟩
  have hl := h.r
  have hn' : (if (8 : Int) < (l.length : Int) then (8 : Int) else (l.length : Int)) = (n : Int) := by rw [hn]; simp only [List.length_take]; split <;> omega
  have hn2 : min (l.length : Int) 8 = (n : Int) := by rw [hn]; simp only [List.length_take]; omega
  have n0 : (0 : Int) ≤ (n : Int) := by omega
  have n1 : (n : Int) ≤ (c : Int) := by omega
  have CC := clone30 p (l.take 8) c w (h.i.take 8) (by simp; omega)
  rw [← hn] at CC
  obtain ⟨m, hm⟩ : ∃ m, m = l.take 8 := ⟨_, rfl⟩
  rw [← hm] at CC ⊢
  clear h hl hn hm
  go_enter Tryd.func10, Tryd.ntmps10
  go_wp2_with (first | (go_at_call 30; refine Calls.mono CC ?_; rintro e w1 ⟨v, rfl, hr, hb⟩))
  go_ret
  exact ⟨v, rfl, hr, hb⟩
end Go.Proofs.YtofobpijkceldaaDoor
