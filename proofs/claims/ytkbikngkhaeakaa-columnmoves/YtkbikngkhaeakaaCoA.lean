/- isWidth, mayBe, hasRow, hasRoom, fit. -/
import Derived.Test.YtkbikngkhaeakaaMem
import Derived.Test.YtkbikngkhaeakaaColM
namespace Go.Proofs.Ytkbikngkhaeakaa
open Go.RowKit

def isW (n : Int) : Bool := decide (0 ≤ n) && decide (n ≤ 4)
theorem isW_t {n : Int} (h : isW n = true) : 0 ≤ n ∧ n ≤ 4 := by simpa [isW] using h
theorem isW_f {n : Int} (h : isW n = false) : n < 0 ∨ 4 < n := by simp [isW] at h; omega
theorem isWidth36 (n : Int) (w : World) : Calls Try.prog 36 #[.int .i64 n] w fun e w' => e = .returned (.bool (isW n)) ∧ w' = w := by
  by_cases h : 0 ≤ n
  · by_cases h' : n ≤ 4
    · have e : isW n = true := by simp [isW, h, h']
      rw [e]
      go_enter Try.func36, Try.ntmps36
      go_wp2
      go_ret
      exact ⟨rfl, rfl⟩
    · have e : isW n = false := by simp [isW, h']
      rw [e]
      go_enter Try.func36, Try.ntmps36
      go_wp2
      go_ret
      exact ⟨rfl, rfl⟩
  · have e : isW n = false := by simp [isW, h]
    rw [e]
    go_enter Try.func36, Try.ntmps36
    go_wp2
    go_ret
    exact ⟨rfl, rfl⟩

/-- A column: its width, its rows, where its words lie, the words, their room. -/
abbrev Col := Int × Int × Option Addr × List Int × Nat
def vC (c : Col) : Value := .agg #[.int .i64 c.1, .int .i64 c.2.1, .slice c.2.2.1 c.2.2.2.1.length c.2.2.2.2]
def oC (c : Col) : Obj := .cells #[.int .i64 c.1, .int .i64 c.2.1, .slice c.2.2.1 c.2.2.2.1.length c.2.2.2.2] 24
/-- May a column be? -/
def mayB (wd rs : Int) (n : Nat) : Bool := decide (0 ≤ wd) && decide (wd ≤ 4) && decide (0 ≤ rs) && decide (rs ≤ 1048578) && decide ((n : Int) = wd * rs)
theorem mayB_t {wd rs : Int} {n : Nat} (h : mayB wd rs n = true) : 0 ≤ wd ∧ wd ≤ 4 ∧ 0 ≤ rs ∧ rs ≤ 1048578 ∧ (n : Int) = wd * rs := by
  simp only [mayB, Bool.and_eq_true, decide_eq_true_eq] at h
  exact ⟨h.1.1.1.1, h.1.1.1.2, h.1.1.2, h.1.2, h.2⟩
theorem mayB_of {wd rs : Int} {n : Nat} (h : 0 ≤ wd ∧ wd ≤ 4 ∧ 0 ≤ rs ∧ rs ≤ 1048578 ∧ (n : Int) = wd * rs) : mayB wd rs n = true := by
  simp only [mayB, Bool.and_eq_true, decide_eq_true_eq]
  exact ⟨⟨⟨⟨h.1, h.2.1⟩, h.2.2.1⟩, h.2.2.2.1⟩, h.2.2.2.2⟩
theorem mayB_not {wd rs : Int} {n : Nat} (h : ¬ (0 ≤ wd ∧ wd ≤ 4 ∧ 0 ≤ rs ∧ rs ≤ 1048578 ∧ (n : Int) = wd * rs)) : mayB wd rs n = false := by
  cases e : mayB wd rs n
  · rfl
  · exact absurd (mayB_t e) h
theorem mul_bd {wd rs : Int} (h0 : 0 ≤ wd) (h1 : wd ≤ 4) (h2 : 0 ≤ rs) (h3 : rs ≤ 1048578) : 0 ≤ wd * rs ∧ wd * rs ≤ 4194312 := by
  rcases (show wd = 0 ∨ wd = 1 ∨ wd = 2 ∨ wd = 3 ∨ wd = 4 by omega) with rfl | rfl | rfl | rfl | rfl <;> omega
def cG (C : List Col) (k : Nat) : Col := C.getD k (0, 0, none, [], 0)
/-- Columns in a block. -/
def CRow (w : World) (b off : Nat) (C : List Col) : Prop := ∀ k, k < C.length → w.cell? ⟨b, off + k * 3, none⟩ = some (.int .i64 (cG C k).1) ∧ w.cell? ⟨b, off + k * 3 + 1, none⟩ = some (.int .i64 (cG C k).2.1) ∧ w.cell? ⟨b, off + k * 3 + 2, none⟩ = some (.slice (cG C k).2.2.1 (cG C k).2.2.2.1.length (cG C k).2.2.2.2)
def mC (c : Col) : Bool := mayB c.1 c.2.1 c.2.2.2.1.length
def allB (C : List Col) : Bool := decide (∀ k, k < C.length → mC (cG C k) = true)
theorem wrapm {x y z : Int} (hz : z = x * y) (h : -9223372036854775808 ≤ z ∧ z ≤ 9223372036854775807) : IntKind.i64.wrap (x * y) = z ∧ wrap64 (x * y) = z := by
  rw [← hz]; exact ⟨by rw [IntKind.wrap_i64]; omega, by unfold wrap64; omega⟩
set_option maxRecDepth 20000 in
set_option maxHeartbeats 4000000 in
theorem mayBe34 (b off : Nat) (C : List Col) (cap : Nat) (w : World) (hb : b < w.heap.size) (hC : CRow w b off C) (hn : C.length ≤ 1000) (hm : ∀ k, k < C.length → (cG C k).2.2.2.1.length ≤ maxLen) :
    Calls Try.prog 34 #[.slice (some ⟨b, off, none⟩) C.length cap] w fun e w' => e = .returned (.bool (allB C)) ∧ Below w.heap.size w w' := by
  obtain ⟨r, hr⟩ : ∃ r, r = allB C := ⟨_, rfl⟩
  obtain ⟨n, hn'⟩ : ∃ n, n = C.length := ⟨_, rfl⟩
  have HN := hidOg hn'
  have HR := hidOg hr
  have HC := hidOg hC
  have HM := hidOg hm
  rw [← hr, ← hn']
  rw [← hn'] at hn
  clear hC hm hr hn'
  have FALL : Hid (∀ k, k < n → mC (cG C k) = false → r = false) := fun k hk e => by
    rw [HR.out]; unfold allB; rw [decide_eq_false]
    intro h; have := h k (by rw [← HN.out]; exact hk); rw [e] at this; cases this
  go_enter Try.func34, Try.ntmps34
  go_wp2
  go_step3
  go_wp2
  go_step3
  go_wp2
  go_loopw [3, 8] (fun g i wr => ∃ k : Nat, k ≤ n ∧ i = .int .i64 k ∧ g = .int .i64 k ∧ (∀ j, j < k → mC (cG C j) = true) ∧ Below w.heap.size w wr) (fun _ i _ => n - (intOf i).toNat)
  case atStart => exact ⟨0, Nat.zero_le _, rfl, rfl, fun j h => by omega, Below.refl _ _⟩
  case round =>
    obtain ⟨k, hk, rfl, rfl, hall, hB⟩ := hrel
    have HA := hidOg hall
    have HB := hidOg hB
    clear hall hB
    by_cases hlt : k < n
    · obtain ⟨k0, k1, k2⟩ := HC.out k (by rw [← HN.out]; exact hlt)
      have k0' := (HB.out.cell (p := ⟨b, off + k * 3, none⟩) hb).trans k0
      have k1' := (HB.out.cell (p := ⟨b, off + k * 3 + 1, none⟩) hb).trans k1
      have k2' := (HB.out.cell (p := ⟨b, off + k * 3 + 2, none⟩) hb).trans k2
      have HF := hidOg (FALL.out k hlt)
      have hl := HM.out k (by rw [← HN.out]; exact hlt)
      have HBA := hidOg (fun (o : Obj) => HB.out.trans ((bal wr o).mono HB.out.size))
      have HX : Hid (mC (cG C k) = mayB (cG C k).1 (cG C k).2.1 (cG C k).2.2.2.1.length) := rfl
      obtain ⟨wd, hwd⟩ : ∃ wd, wd = (cG C k).1 := ⟨_, rfl⟩
      obtain ⟨rs, hrs⟩ : ∃ rs, rs = (cG C k).2.1 := ⟨_, rfl⟩
      obtain ⟨m, hm⟩ : ∃ m, m = (cG C k).2.2.2.1.length := ⟨_, rfl⟩
      rw [← hwd] at k0' HX
      rw [← hrs] at k1' HX
      rw [← hm] at k2' HX hl
      unfold maxLen at hl
      clear hwd hrs hm k0 k1 k2
      have CI := fun (W : World) => isWidth36 wd W
      have FIN : Hid (∀ W : World, mC (cG C k) = false → Below w.heap.size w W → (Ending.returned (.bool ((k : Int) == (n : Int))) = Ending.returned (.bool r) ∧ Below w.heap.size w W)) := fun W e hb => by
        have : r = false := HF.out e
        subst this
        exact ⟨ret_bool (by simp; omega), hb⟩
      clear HF
      cases hw : isW wd
      · have HE : Hid (mC (cG C k) = false) := by unfold Hid; rw [HX.out]; exact mayB_not fun h => by have := isW_f hw; omega
        rw [hw] at CI
        clear hw
        go_wp2_with (first | (go_at_call 36; refine Calls.mono (CI _) ?_; rintro e w1 ⟨rfl, hw1⟩; rw [hw1]; clear hw1 w1))
        rw [Exit.noGoto_ret]
        go_ret
        exact FIN.out _ HE.out (HBA.out _)
      · obtain ⟨w0, w4⟩ := isW_t hw
        rw [hw] at CI
        clear hw
        by_cases h0 : rs < 0
        · have HE : Hid (mC (cG C k) = false) := by unfold Hid; rw [HX.out]; exact mayB_not fun h => by omega
          clear w0 w4
          go_wp2_with (first | (go_at_call 36; refine Calls.mono (CI _) ?_; rintro e w1 ⟨rfl, hw1⟩; rw [hw1]; clear hw1 w1))
          rw [Exit.noGoto_ret]
          go_ret
          exact FIN.out _ HE.out (HBA.out _)
        · by_cases h1 : 1048578 < rs
          · have HE : Hid (mC (cG C k) = false) := by unfold Hid; rw [HX.out]; exact mayB_not fun h => by omega
            clear w0 w4
            go_wp2_with (first | (go_at_call 36; refine Calls.mono (CI _) ?_; rintro e w1 ⟨rfl, hw1⟩; rw [hw1]; clear hw1 w1))
            rw [Exit.noGoto_ret]
            go_ret
            exact FIN.out _ HE.out (HBA.out _)
          · have hb := mul_bd w0 w4 (by omega : 0 ≤ rs) (by omega)
            obtain ⟨z, hz⟩ : ∃ z, z = wd * rs := ⟨_, rfl⟩
            obtain ⟨q1, q2⟩ := wrapm hz (by rw [← hz] at hb; omega)
            have HZ := hidOg hz
            have W0 := hidOg w0
            have W4 := hidOg w4
            have R0 := hidOg (show 0 ≤ rs by omega)
            clear hb hz w0 w4
            by_cases h2 : (m : Int) = z
            · have HE : Hid (mC (cG C k) = true) := by unfold Hid; rw [HX.out]; exact mayB_of ⟨W0.out, W4.out, R0.out, by omega, by rw [h2, HZ.out]⟩
              have hd : ((m : Int) != z) = false := by simp [h2]
              clear h2
              go_wp2_with (first | (go_at_call 36; refine Calls.mono (CI _) ?_; rintro e w1 ⟨rfl, hw1⟩; rw [hw1]; clear hw1 w1))
              go_roundw
              case rel =>
                refine ⟨k + 1, by omega, by go_num, by go_num, fun j hj => ?_, HBA.out _⟩
                by_cases e : j = k
                · rw [e]; exact HE.out
                · exact HA.out j (by omega)
              case measure => simp [intOf]; omega
            · have HE : Hid (mC (cG C k) = false) := by unfold Hid; rw [HX.out]; exact mayB_not fun h => h2 (by rw [HZ.out]; exact h.2.2.2.2)
              have hd : ((m : Int) != z) = true := by simp [h2]
              clear h2
              go_wp2_with (first | (go_at_call 36; refine Calls.mono (CI _) ?_; rintro e w1 ⟨rfl, hw1⟩; rw [hw1]; clear hw1 w1))
              rw [Exit.noGoto_ret]
              go_ret
              exact FIN.out _ HE.out (HBA.out _)
    · obtain rfl : k = n := by omega
      go_wp2
      rw [Exit.noGoto_ret]
      go_ret
      have e : r = true := by
        rw [HR.out]; unfold allB; rw [decide_eq_true]
        intro j hj; exact HA.out j (by rw [HN.out]; exact hj)
      subst e
      exact ⟨ret_bool (by simp), HB.out⟩
/-- One column, or two. -/
theorem crow1 {w : World} {b : Nat} {c : Col} (h : w.heap[b]? = some (.cells #[.int .i64 c.1, .int .i64 c.2.1, .slice c.2.2.1 c.2.2.2.1.length c.2.2.2.2] 24 (0, 0))) : CRow w b 0 [c] := by
  intro k hk
  obtain rfl : k = 0 := by simpa using hk
  exact ⟨by simp [World.cell?, h, cG], by simp [World.cell?, h, cG], by simp [World.cell?, h, cG]⟩
theorem crow2 {w : World} {b : Nat} {c d : Col} (h : w.heap[b]? = some (.cells #[.int .i64 c.1, .int .i64 c.2.1, .slice c.2.2.1 c.2.2.2.1.length c.2.2.2.2, .int .i64 d.1, .int .i64 d.2.1, .slice d.2.2.1 d.2.2.2.1.length d.2.2.2.2] 24 (0, 0))) : CRow w b 0 [c, d] := by
  intro k hk
  rcases (show k = 0 ∨ k = 1 by simp at hk; omega) with rfl | rfl
  · exact ⟨by simp [World.cell?, h, cG], by simp [World.cell?, h, cG], by simp [World.cell?, h, cG]⟩
  · exact ⟨by simp [World.cell?, h, cG], by simp [World.cell?, h, cG], by simp [World.cell?, h, cG]⟩
theorem allB1 (c : Col) : allB [c] = mC c := by
  unfold allB
  cases h : mC c
  · rw [decide_eq_false]; intro h'; have := h' 0 (by simp); rw [show cG [c] 0 = c from rfl, h] at this; cases this
  · rw [decide_eq_true]; intro k hk; obtain rfl : k = 0 := by simpa using hk
    exact h
theorem allB2 (c d : Col) : allB [c, d] = (mC c && mC d) := by
  unfold allB
  rw [Bool.eq_iff_iff, decide_eq_true_iff, Bool.and_eq_true]
  exact ⟨fun h => ⟨h 0 (by simp), h 1 (by simp)⟩, fun ⟨h1, h2⟩ k hk => by
    rcases (show k = 0 ∨ k = 1 by simp at hk; omega) with rfl | rfl
    · exact h1
    · exact h2⟩
theorem mayBe1 (b : Nat) (c : Col) (w : World) (h : w.heap[b]? = some (.cells #[.int .i64 c.1, .int .i64 c.2.1, .slice c.2.2.1 c.2.2.2.1.length c.2.2.2.2] 24 (0, 0))) (hl : c.2.2.2.1.length ≤ maxLen) :
    Calls Try.prog 34 #[.slice (some ⟨b, 0, none⟩) 1 1] w fun e w' => e = .returned (.bool (mC c)) ∧ Below w.heap.size w w' := by
  have h1 := mayBe34 b 0 [c] 1 w (Array.getElem?_eq_some_iff.1 h).1 (crow1 h) (by simp) (fun k hk => by
    obtain rfl : k = 0 := by simpa using hk
    exact hl)
  rw [allB1] at h1; exact h1
theorem mayBe2 (b : Nat) (c d : Col) (w : World) (h : w.heap[b]? = some (.cells #[.int .i64 c.1, .int .i64 c.2.1, .slice c.2.2.1 c.2.2.2.1.length c.2.2.2.2, .int .i64 d.1, .int .i64 d.2.1, .slice d.2.2.1 d.2.2.2.1.length d.2.2.2.2] 24 (0, 0))) (hl : c.2.2.2.1.length ≤ maxLen) (hl' : d.2.2.2.1.length ≤ maxLen) :
    Calls Try.prog 34 #[.slice (some ⟨b, 0, none⟩) 2 2] w fun e w' => e = .returned (.bool (mC c && mC d)) ∧ Below w.heap.size w w' := by
  have h1 := mayBe34 b 0 [c, d] 2 w (Array.getElem?_eq_some_iff.1 h).1 (crow2 h) (by simp) (fun k hk => by
    rcases (show k = 0 ∨ k = 1 by simp at hk; omega) with rfl | rfl
    · exact hl
    · exact hl')
  rw [allB2] at h1; exact h1

/-- Has a column the row? -/
def hasB (rs row : Int) : Bool := decide (0 ≤ row) && decide (row < rs)
theorem hasB_t {rs row : Int} (h : hasB rs row = true) : 0 ≤ row ∧ row < rs := by simpa [hasB] using h
theorem hasB_f {rs row : Int} (h : hasB rs row = false) : row < 0 ∨ rs ≤ row := by simp [hasB] at h; omega
theorem hasRow42 (wd rs : Int) (p : Option Addr) (n c : Nat) (row : Int) (w : World) : Calls Try.prog 42 #[.agg #[.int .i64 wd, .int .i64 rs, .slice p n c], .int .i64 row] w fun e w' => e = .returned (.bool (hasB rs row)) ∧ w' = w.alloc (.cells #[.int .i64 wd, .int .i64 rs, .slice p n c] 24) := by
  by_cases h : 0 ≤ row
  · by_cases h' : row < rs
    · have e : hasB rs row = true := by simp [hasB, h, h']
      rw [e]
      go_enter Try.func42, Try.ntmps42
      go_wp2
      go_ret
      exact ⟨rfl, rfl⟩
    · have e : hasB rs row = false := by simp [hasB, h']
      rw [e]
      go_enter Try.func42, Try.ntmps42
      go_wp2
      go_ret
      exact ⟨rfl, rfl⟩
  · have e : hasB rs row = false := by simp [hasB, h]
    rw [e]
    go_enter Try.func42, Try.ntmps42
    go_wp2
    go_ret
    exact ⟨rfl, rfl⟩
def roomB (rs : Int) (more : Nat) : Bool := decide ((more : Int) ≤ 1048578 - rs)
theorem hasRoom51 (wd rs : Int) (p : Option Addr) (n c : Nat) (more : Nat) (w : World) (h0 : 0 ≤ rs) (h1 : rs ≤ 1048578) : Calls Try.prog 51 #[.agg #[.int .i64 wd, .int .i64 rs, .slice p n c], .int .i64 (more : Int)] w fun e w' => e = .returned (.bool (roomB rs more)) ∧ w' = w.alloc (.cells #[.int .i64 wd, .int .i64 rs, .slice p n c] 24) := by
  obtain ⟨r, hr⟩ : ∃ r, r = roomB rs more := ⟨_, rfl⟩
  rw [← hr]
  have HR : Hid (r = decide ((more : Int) ≤ 1048578 - rs)) := hr
  clear hr
  go_enter Try.func51, Try.ntmps51
  go_wp2
  go_ret
  exact ⟨ret_bool HR.out.symm, rfl⟩
/-- Are all so wide? -/
def fitB (wd : Int) (R : List RR) : Bool := decide (∀ k, k < R.length → ((rL R k).length : Int) = wd)
set_option maxRecDepth 20000 in
set_option maxHeartbeats 4000000 in
theorem fit48 (wd rs : Int) (p : Option Addr) (n c : Nat) (q : Option Addr) (R : List RR) (d : Nat) (w : World) (hR : VRow w.heap.size w q R) (hr : R.length ≤ maxLen) :
    Calls Try.prog 48 #[.agg #[.int .i64 wd, .int .i64 rs, .slice p n c], .slice q R.length d] w fun e w' => e = .returned (.bool (fitB wd R)) ∧ w' = w.alloc (.cells #[.int .i64 wd, .int .i64 rs, .slice p n c] 24) := by
  obtain ⟨r, hrr⟩ : ∃ r, r = fitB wd R := ⟨_, rfl⟩
  obtain ⟨N, hN⟩ : ∃ N, N = R.length := ⟨_, rfl⟩
  have HV := hidOg hrr
  have HN := hidOg hN
  rw [← hrr, ← hN]
  rw [← hN] at hr
  unfold maxLen at hr
  have HC : Hid (∀ k, k < N → ∃ b off, q = some ⟨b, off, none⟩ ∧ b < w.heap.size ∧ (w.alloc (.cells #[.int .i64 wd, .int .i64 rs, .slice p n c] 24)).cell? ⟨b, off + k, none⟩ = some (.slice (rP R k) (rL R k).length (rC R k))) := fun k hk => by
    obtain ⟨b, off, e, hb, hc⟩ := (hR.to (bal w (.cells #[.int .i64 wd, .int .i64 rs, .slice p n c] 24))) (by rw [← hN]; omega)
    obtain ⟨b', off', e', hb', _⟩ := hR (by rw [← hN]; omega)
    rw [e] at e'; cases e'
    exact ⟨b, off, e, hb', (hc k (by rw [← hN]; exact hk)).1⟩
  clear hR hrr hN
  go_enter Try.func48, Try.ntmps48
  go_wp2
  go_loop [9] (fun i => ∃ k : Nat, k ≤ N ∧ i = .int .i64 k ∧ (∀ j, j < k → ((rL R j).length : Int) = wd)) (fun i => N - (intOf i).toNat)
  case atStart => exact ⟨0, Nat.zero_le _, rfl, fun j h => by omega⟩
  case round =>
    obtain ⟨k, hk, rfl, hall⟩ := hrel
    have HA := hidOg hall
    clear hall
    by_cases hlt : k < N
    · obtain ⟨b, off, rfl, hb, c0⟩ := HC.out k hlt
      obtain ⟨m, hm⟩ : ∃ m, m = (rL R k).length := ⟨_, rfl⟩
      rw [← hm] at c0
      have HM := hidOg hm
      clear hm
      by_cases h : (m : Int) = wd
      · have HE := hidOg h
        have hd : ((m : Int) != wd) = false := by simp [h]
        clear h
        go_wp2
        go_round
        case rel =>
          refine ⟨k + 1, by omega, by go_num, fun j hj => ?_⟩
          by_cases e : j = k
          · rw [e, ← HM.out]; exact HE.out
          · exact HA.out j (by omega)
        case measure => simp [intOf]; omega
      · have hd : ((m : Int) != wd) = true := by simp [h]
        have e : r = false := by
          rw [HV.out]; unfold fitB; rw [decide_eq_false]
          intro h'; exact h (by rw [HM.out]; exact h' k (by rw [← HN.out]; exact hlt))
        subst e
        clear h
        go_wp2
        go_ret
        exact ⟨rfl, rfl⟩
    · obtain rfl : k = N := by omega
      have e : r = true := by
        rw [HV.out]; unfold fitB; rw [decide_eq_true]
        intro j hj; exact HA.out j (by rw [HN.out]; exact hj)
      subst e
      go_wp2
      go_ret
      exact ⟨rfl, rfl⟩
end Go.Proofs.Ytkbikngkhaeakaa
