/- record: places, who is found, the same, what is cut. -/
import Derived.Test.YtijlkdppjmfbhaaSp
namespace Go.Proofs.Ytijlkdppjmfbhaa
open Go.RowKit

def plB (s : Sp) : Bool := decide (1 ≤ s.1) && (decide (s.1 ≤ 1048576) && (decide (0 ≤ s.2) && decide (s.2 ≤ 1048578)))
set_option maxHeartbeats 1000000 in
theorem isPlace45 (t r : Int) (w : World) : Calls Try.prog 45 #[.agg #[.int .i64 t, .int .i64 r]] w fun e w' => e = .returned (.bool (plB (t, r))) ∧ Below w.heap.size w w' := by
  have HB : Hid (Below w.heap.size w (w.alloc (.cells #[.int .i64 t, .int .i64 r] 34))) := bal _ _
  by_cases h1 : 1 ≤ t
  · by_cases h2 : t ≤ 1048576
    · by_cases h3 : 0 ≤ r
      · by_cases h4 : r ≤ 1048578
        · have E : Hid (plB (t, r) = true) := by unfold Hid plB; simp; omega
          go_enter Try.func45, Try.ntmps45
          go_wp2
          go_ret
          exact ⟨ret_bool E.out.symm, HB.out⟩
        · have E : Hid (plB (t, r) = false) := by unfold Hid plB; simp; omega
          have d4 : decide (r ≤ 1048578) = false := by simpa using h4
          go_enter Try.func45, Try.ntmps45
          go_wp2
          go_ret
          exact ⟨ret_bool E.out.symm, HB.out⟩
      · have E : Hid (plB (t, r) = false) := by unfold Hid plB; simp; omega
        have d3 : decide (0 ≤ r) = false := by simpa using h3
        go_enter Try.func45, Try.ntmps45
        go_wp2
        go_ret
        exact ⟨ret_bool E.out.symm, HB.out⟩
    · have E : Hid (plB (t, r) = false) := by unfold Hid plB; simp; omega
      have d2 : decide (t ≤ 1048576) = false := by simpa using h2
      go_enter Try.func45, Try.ntmps45
      go_wp2
      go_ret
      exact ⟨ret_bool E.out.symm, HB.out⟩
  · have E : Hid (plB (t, r) = false) := by unfold Hid plB; simp; omega
    have d1 : decide (1 ≤ t) = false := by simpa using h1
    go_enter Try.func45, Try.ntmps45
    go_wp2
    go_ret
    exact ⟨ret_bool E.out.symm, HB.out⟩
/-- Where an index stands, and the error. -/
def fiB (l : List Sp) (i : Int) : Bool := decide (1 ≤ i) && (decide (i ≤ l.length) && !decide (sG l (i.toNat - 1) = (0, 0)))
def fiA (l : List Sp) (i : Int) : Sp × Int := if fiB l i then (sG l (i.toNat - 1), 0) else ((0, 0), 4)
set_option maxHeartbeats 1000000 in
theorem find37 (p : Option Addr) (l : List Sp) (c : Nat) (i : Int) (w : World) (h : SRow w.heap.size w p l) (hl : l.length ≤ 1099511627776) :
    Calls Try.prog 37 #[.agg #[.slice p l.length c], .int .i64 i] w fun e w' => e = .returned (.tuple #[vS (fiA l i).1, .int .i64 (fiA l i).2]) ∧ Below w.heap.size w w' := by
  have HB : ∀ a b, Below w.heap.size w ((w.alloc (.cells #[.slice p l.length c] 24)).alloc (.cells #[.int .i64 a, .int .i64 b] 34)) := fun a b => ((bal w _).trans ((bal _ _).mono (bal _ _).size))
  by_cases h1 : 1 ≤ i
  · by_cases h2 : i ≤ l.length
    · obtain ⟨k, rfl⟩ : ∃ k : Nat, i = (k : Int) + 1 := ⟨(i - 1).toNat, by omega⟩
      have hkl : k < l.length := by omega
      obtain ⟨b, off, rfl, hbN, hcs⟩ := h (by omega)
      obtain ⟨c0, c1⟩ := hcs k hkl
      have hk1 : (((k : Int) + 1).toNat - 1) = k := by omega
      have HF : Hid (fiA l ((k : Int) + 1) = if sG l k = (0, 0) then ((0, 0), 4) else (sG l k, 0)) := by
        unfold Hid fiA fiB; rw [hk1, decide_eq_true h1, decide_eq_true h2]
        by_cases e : sG l k = (0, 0)
        · rw [decide_eq_true e, if_pos e]; rfl
        · rw [decide_eq_false e, if_neg e]; rfl
      obtain ⟨⟨a, d⟩, hs⟩ : ∃ s, s = sG l k := ⟨_, rfl⟩
      rw [← hs] at c0 c1 HF
      have d1 : decide ((k : Int) + 1 < 1) = false := by simp; omega
      have d2 : decide ((l.length : Int) < (k : Int) + 1) = false := by simp; omega
      rw [HF.out]
      clear HF hs hcs h hk1
      by_cases ha : a = 0
      · by_cases hd : d = 0
        · subst ha hd
          have E : Hid ((if ((0, 0) : Sp) = (0, 0) then (((0, 0) : Sp), (4 : Int)) else ((0, 0), 0)) = ((0, 0), 4)) := if_pos rfl
          rw [E.out]
          go_enter Try.func37, Try.ntmps37
          go_wp2
          exact bodyPost_ret (v := .tuple #[vS (0, 0), .int .i64 4]) (by simp [results, Try.results37, go_sem]) rfl ⟨rfl, HB _ _⟩
        · subst ha
          have E : Hid ((if ((0, d) : Sp) = (0, 0) then (((0, 0) : Sp), (4 : Int)) else ((0, d), 0)) = ((0, d), 0)) := if_neg (by simpa using hd)
          rw [E.out]
          have he : (d == 0) = false := by simpa using hd
          go_enter Try.func37, Try.ntmps37
          go_wp2
          exact bodyPost_ret (v := .tuple #[vS (0, d), .int .i64 0]) (by simp [results, Try.results37, go_sem]) rfl ⟨rfl, HB _ _⟩
      · have E : Hid ((if ((a, d) : Sp) = (0, 0) then (((0, 0) : Sp), (4 : Int)) else ((a, d), 0)) = ((a, d), 0)) := if_neg (fun e => ha (by injection e))
        rw [E.out]
        have he : (a == 0) = false := by simpa using ha
        go_enter Try.func37, Try.ntmps37
        go_wp2
        exact bodyPost_ret (v := .tuple #[vS (a, d), .int .i64 0]) (by simp [results, Try.results37, go_sem]) rfl ⟨rfl, HB _ _⟩
    · have E : Hid (fiA l i = ((0, 0), 4)) := by
        unfold Hid fiA fiB; rw [decide_eq_false h2, decide_eq_true h1]; rfl
      have d1 : decide (i < 1) = false := by simp; omega
      have d2 : decide ((l.length : Int) < i) = true := by simp; omega
      rw [E.out]
      go_enter Try.func37, Try.ntmps37
      go_wp2
      exact bodyPost_ret (v := .tuple #[vS (0, 0), .int .i64 4]) (by simp [results, Try.results37, go_sem]) rfl ⟨rfl, HB _ _⟩
  · have E : Hid (fiA l i = ((0, 0), 4)) := by
      unfold Hid fiA fiB; rw [decide_eq_false h1]; rfl
    have d1 : decide (i < 1) = true := by simp; omega
    rw [E.out]
    go_enter Try.func37, Try.ntmps37
    go_wp2
    exact bodyPost_ret (v := .tuple #[vS (0, 0), .int .i64 4]) (by simp [results, Try.results37, go_sem]) rfl ⟨rfl, HB _ _⟩
/-- The end of spots: behind the last one that is not nowhere. -/
def cutN (l : List Sp) : Nat → Nat
  | 0 => 0
  | k + 1 => if sG l k = (0, 0) then cutN l k else k + 1
theorem cutN_le (l : List Sp) (k : Nat) : cutN l k ≤ k := by
  induction k with
  | zero => simp [cutN]
  | succ k ih => unfold cutN; split <;> omega
def cutL (l : List Sp) : List Sp := l.take (cutN l l.length)
set_option maxHeartbeats 1000000 in
theorem cut58 (p : Option Addr) (l : List Sp) (c : Nat) (w : World) (h : SRow w.heap.size w p l) (hl : l.length ≤ 1099511627776) (hc : l.length ≤ c) :
    Calls Try.prog 58 #[.slice p l.length c] w fun e w' => e = .returned (.slice p (cutN l l.length) (cutN l l.length)) ∧ w' = w := by
  have HC := hidOg h
  obtain ⟨m, hm⟩ : ∃ m, m = l.length := ⟨_, rfl⟩
  rw [← hm] at hl hc ⊢
  have HM := hidOg hm
  clear h hm
  go_enter Try.func58, Try.ntmps58
  go_wp2
  go_loopw [3] (fun i wr => ∃ k : Nat, k ≤ m ∧ i = .int .i64 k ∧ cutN l m = cutN l k ∧ wr = w) (fun i _ => (intOf i).toNat)
  case atStart => exact ⟨m, Nat.le_refl _, rfl, rfl, rfl⟩
  case round =>
    obtain ⟨k, hk, rfl, hE, rfl⟩ := hrel
    have HE := hidOg hE
    clear hE
    match k, hk, HE with
    | 0, hk, HE =>
      have d0 : decide ((0 : Int) < 0) = false := by decide
      go_wp2
      go_ret
      exact ⟨by rw [HE.out]; rfl, rfl⟩
    | k + 1, hk, HE =>
      obtain ⟨b, off, rfl, hbN, hcs⟩ := HC.out (by rw [← HM.out]; omega)
      obtain ⟨c0, c1⟩ := hcs k (by rw [← HM.out]; omega)
      have HZ : Hid (cutN l (k + 1) = if sG l k = (0, 0) then cutN l k else k + 1) := rfl
      obtain ⟨⟨a, d⟩, hs⟩ : ∃ s, s = sG l k := ⟨_, rfl⟩
      rw [← hs] at c0 c1 HZ
      clear hcs hs
      by_cases hz : a = 0 ∧ d = 0
      · obtain ⟨rfl, rfl⟩ := hz
        have hy : cutN l m = cutN l k := HE.out.trans (HZ.out.trans (if_pos rfl))
        have HY := hidOg hy
        clear hy
        go_wp2
        go_roundw
        case rel => exact ⟨k, by omega, by go_num, HY.out, trivial⟩
        case measure => simp [intOf]
      · have hy : cutN l m = k + 1 := HE.out.trans (HZ.out.trans (if_neg (fun e => hz (by injection e with e1 e2; exact ⟨e1, e2⟩))))
        have HY := hidOg hy
        clear hy
        have d2 : (a == 0 && d == 0) = false := by simpa using hz
        go_wp2
        all_goals
          go_ret
          exact ⟨by rw [HY.out]; rfl, rfl⟩
end Go.Proofs.Ytijlkdppjmfbhaa
