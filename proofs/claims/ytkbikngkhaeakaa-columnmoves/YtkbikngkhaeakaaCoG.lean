/- The closures of Get, Swap. -/
import Derived.Test.YtkbikngkhaeakaaCoF
namespace Go.Proofs.Ytkbikngkhaeakaa
open Go.RowKit

/-- A call that hands back a value of its own, and an error. -/
def AnsV (v : List Int) (er : Int) (w : World) (e : Ending) (w' : World) : Prop := ∃ q c, e = .returned (.tuple #[.slice q v.length c, .int .i64 er]) ∧ OwnR w.heap.size w' q v c ∧ Below w.heap.size w w'
/-- A column as it is answered: its width, rows, words. -/
abbrev CA := Int × Int × List Int
def zC : CA := (0, 0, [])
def AnsC (a : CA × Int) (w : World) (e : Ending) (w' : World) : Prop := ∃ q c, e = .returned (.tuple #[.agg #[.int .i64 a.1.1, .int .i64 a.1.2.1, .slice q a.1.2.2.length c], .int .i64 a.2]) ∧ OwnR w.heap.size w' q a.1.2.2 c ∧ Below w.heap.size w w'
def getV (W R : Nat) (l : List Int) (row : Int) : List Int := if hasB (R : Int) row then wdK l (W : Int) row (row + 1) else []
def getE (R : Nat) (row : Int) : Int := if hasB (R : Int) row then 0 else 2
def swpA (W R : Nat) (l : List Int) (row : Int) : CA × Int := if hasB (R : Int) row then (((W : Int), ((R - 1 : Nat) : Int), (swO (chK W R l) row.toNat).flatten), 0) else (zC, 2)

/-- The boxes of a closure's column and row. -/
structure B2 (w : World) (Bc Br : Nat) (W R : Nat) (p : Option Addr) (l : List Int) (c : Nat) (row : Int) : Prop where
  c : w.heap[Bc]? = some (.cells #[.int .i64 (W : Int), .int .i64 (R : Int), .slice p l.length c] 24 (0, 0))
  r : w.cell? ⟨Br, 0, none⟩ = some (.int .i64 row)
theorem B2.k {w X : World} {Bc Br : Nat} {W R : Nat} {p : Option Addr} {l : List Int} {c : Nat} {row : Int} (h : B2 w Bc Br W R p l c row) (hb : Below w.heap.size w X) : X.cell? ⟨Bc, 0, none⟩ = some (.int .i64 (W : Int)) ∧ X.cell? ⟨Bc, 1, none⟩ = some (.int .i64 (R : Int)) ∧ X.cell? ⟨Bc, 2, none⟩ = some (.slice p l.length c) ∧ X.cell? ⟨Br, 0, none⟩ = some (.int .i64 row) := by
  have h1 := (Array.getElem?_eq_some_iff.1 h.c).1
  have h2 := World.block_lt_of_cell? _ _ h.r
  obtain ⟨a, b, d, _⟩ := heap3_cell ((hb.block Bc h1).trans h.c)
  exact ⟨a, b, d, (hb.cell (p := ⟨Br, 0, none⟩) h2).trans h.r⟩
set_option maxRecDepth 20000 in
set_option maxHeartbeats 2000000 in
theorem get41 (Bc Br W R : Nat) (p : Option Addr) (l : List Int) (c : Nat) (row : Int) (w : World) (hC : CV w W R p l c) (hB : B2 w Bc Br W R p l c row) :
    Calls Try.prog 41 #[.pointer (some ⟨Bc, 0, none⟩), .pointer (some ⟨Br, 0, none⟩)] w fun e w' => AnsV (getV W R l row) (getE R row) w e w' := by
  have hrm := hC.rm
  have CH := fun (X : World) => hasRow42 (W : Int) (R : Int) p l.length c row X
  obtain ⟨a0, a1, a2, a3⟩ := hB.k (Below.refl _ w)
  obtain ⟨b0, b1, b2, b3⟩ := hB.k (bal w (.cells #[.int .i64 (W : Int), .int .i64 (R : Int), .slice p l.length c] 24))
  cases hh : hasB (R : Int) row
  · have E1 : getV W R l row = [] := by unfold getV; rw [hh]; rfl
    have E2 : getE R row = 2 := by unfold getE; rw [hh]; rfl
    rw [E1, E2]
    rw [hh] at CH
    clear hC hB hh E1 E2
    go_enter Try.func41, Try.ntmps41
    go_wp2_with (first | (go_at_call 42; refine Calls.mono (CH _) ?_; rintro e w1 ⟨rfl, hw⟩; rw [hw]; clear hw w1))
    go_ret2
    exact ⟨none, 0, rfl, OwnR.nil _ _, bal _ _⟩
  · obtain ⟨h0, h1⟩ := hasB_t hh
    have E1 : getV W R l row = wdK l (W : Int) row (row + 1) := by unfold getV; rw [hh]; rfl
    have E2 : getE R row = 0 := by unfold getE; rw [hh]; rfl
    rw [E1, E2]
    rw [hh] at CH
    have O1 : OkCut (W : Int) l.length row (row + 1) := by
      have := hC.ok (f := row.toNat) (e := row.toNat + 1) (by omega) (by omega)
      rw [show ((row.toNat : Nat) : Int) = row from by omega, show ((row.toNat + 1 : Nat) : Int) = row + 1 from by omega] at this
      exact this
    have hl1 := wdK_len O1
    have hlen := hC.len
    have CC : Hid (∀ X, Be w.heap.size w X → Calls Try.prog 43 #[.agg #[.int .i64 (W : Int), .int .i64 (R : Int), .slice p l.length c], .int .i64 row, .int .i64 (row + 1)] X fun en w' => en = .returned (.slice (cpK p W row (row + 1)) (cnK W row (row + 1)) (cnK W row (row + 1))) ∧ w' = X.alloc (.cells #[.int .i64 (W : Int), .int .i64 (R : Int), .slice p l.length c] 24)) := fun X hb =>
      cutK _ _ p l c _ _ X (hC.to hb.b).r hC.cm O1
    have CJ : Hid (∀ X, Be w.heap.size w X → Calls Try.prog 38 #[.slice (cpK p W row (row + 1)) (cnK W row (row + 1)) (cnK W row (row + 1)), .slice none 0 0] X fun e w' => GivesR (wdK l (W : Int) row (row + 1)) X e w') := fun X hb => by
      have h1 := joined38 (cpK p W row (row + 1)) (wdK l (W : Int) row (row + 1)) (cnK W row (row + 1)) none [] 0 X ((hC.to hb.b).r.i.cutK _ _ _) VRow.nil (by simp) (by
        simp only [catF, catN, List.append_nil, List.length_nil]
        unfold wdK; simp; omega)
      rw [hl1] at h1
      simpa only [catF, catN, List.append_nil, List.length_nil] using h1
    obtain ⟨m, hm⟩ : ∃ m, m = wdK l (W : Int) row (row + 1) := ⟨_, rfl⟩
    rw [← hm] at CJ
    rw [← hm]
    obtain ⟨n0, hn0⟩ : ∃ n0, n0 = l.length := ⟨_, rfl⟩
    rw [← hn0] at CC CH a2 b2
    have hr4 : row ≤ 1048578 := by omega
    have HO1 : Hid (Be w.heap.size w (w.alloc (.cells #[.int .i64 (W : Int), .int .i64 (R : Int), .slice p n0 c] 24))) := (Be.refl (Nat.le_refl _)).al _
    rw [← hn0] at b0 b1 b3
    clear hC hB hh E1 E2 hl1 hm hn0 O1 hlen
    go_enter Try.func41, Try.ntmps41
    go_wp2_with (first | (go_at_call 42; refine Calls.mono (CH _) ?_; rintro e w1 ⟨rfl, hw⟩; rw [hw]; clear hw w1) | (go_at_call 43; refine Calls.mono (CC.out _ HO1.out) ?_; rintro e w1 ⟨rfl, hw⟩; rw [hw]; clear hw w1) | (go_at_call 38; refine Calls.mono (CJ.out _ (HO1.out.al _)) ?_; rintro e w1 ⟨q', c', rfl, ho, hb⟩))
    go_ret2
    exact ⟨q', c', rfl, ho.weak (HO1.out.al _).s, ((HO1.out.al _).to hb).b⟩
set_option maxRecDepth 20000 in
set_option maxHeartbeats 2000000 in
theorem swap45 (Bc Br W R : Nat) (p : Option Addr) (l : List Int) (c : Nat) (row : Int) (w : World) (hC : CV w W R p l c) (hB : B2 w Bc Br W R p l c row) :
    Calls Try.prog 45 #[.pointer (some ⟨Bc, 0, none⟩), .pointer (some ⟨Br, 0, none⟩)] w fun e w' => AnsC (swpA W R l row) w e w' := by
  have hrm := hC.rm
  have CH := fun (X : World) => hasRow42 (W : Int) (R : Int) p l.length c row X
  have KE : Hid (Be w.heap.size w (w.alloc oZ)) := (Be.refl (Nat.le_refl _)).al _
  obtain ⟨a0, a1, a2, a3⟩ := hB.k KE.out.b
  have KF : Hid (Be w.heap.size w ((w.alloc oZ).alloc (.cells #[.int .i64 (W : Int), .int .i64 (R : Int), .slice p l.length c] 24))) := KE.out.al _
  obtain ⟨b0, b1, b2, b3⟩ := hB.k KF.out.b
  have zE : ((w.alloc oZ).alloc (.cells #[.int .i64 (W : Int), .int .i64 (R : Int), .slice p l.length c] 24)).heap[w.heap.size]? = some oZ := (Below.heap_alloc _ _ _ (by simp)).trans (heap_alloc_new _ _)
  cases hh : hasB (R : Int) row
  · have E1 : swpA W R l row = (zC, 2) := by unfold swpA; rw [hh]; rfl
    rw [E1]
    rw [hh] at CH
    clear hC hB hh E1 zE
    go_enter Try.func45, Try.ntmps45
    go_wp2_with (first | (go_at_call 42; refine Calls.mono (CH _) ?_; rintro e w1 ⟨rfl, hw⟩; rw [hw]; clear hw w1))
    exact bodyPost_ret (v := .tuple #[.agg #[.int .i64 0, .int .i64 0, .slice none 0 0], .int .i64 2]) (by simp [results, Try.results45, go_sem]) rfl ⟨none, 0, rfl, OwnR.nil _ _, KF.out.b⟩
  · obtain ⟨h0, h1⟩ := hasB_t hh
    have E1 : swpA W R l row = (((W : Int), ((R - 1 : Nat) : Int), (swO (chK W R l) row.toNat).flatten), 0) := by unfold swpA; rw [hh]; rfl
    rw [E1]
    rw [hh] at CH
    have CS : Hid (∀ X, Be w.heap.size w X → Calls Try.prog 46 #[.agg #[.int .i64 (W : Int), .int .i64 (R : Int), .slice p l.length c], .int .i64 row] X fun e w' => GivesC (W : Int) ((R - 1 : Nat) : Int) (swO (chK W R l) row.toNat).flatten X e w') := fun X hb => by
      have := swapped46 W R row.toNat p l c X (hC.to hb.b) (by omega)
      rw [show ((row.toNat : Nat) : Int) = row from by omega] at this
      exact this
    obtain ⟨m, hm⟩ : ∃ m, m = (swO (chK W R l) row.toNat).flatten := ⟨_, rfl⟩
    obtain ⟨L, hL⟩ : ∃ L, L = R - 1 := ⟨_, rfl⟩
    rw [← hm, ← hL] at CS
    rw [← hm, ← hL]
    clear hC hB hh E1 hm hL
    go_enter Try.func45, Try.ntmps45
    go_wp2_with (first | (go_at_call 42; refine Calls.mono (CH _) ?_; rintro e w1 ⟨rfl, hw⟩; rw [hw]; clear hw w1) | (go_at_call 46; refine Calls.mono (CS.out _ KF.out) ?_; rintro e w1 ⟨q', c', rfl, ho, hb⟩; obtain ⟨y0, y1, y2, yf⟩ := heap3_cell ((hb.block w.heap.size (by simp; omega)).trans zE); have HO := hidOg ho; have HX : Hid (Be w.heap.size w w1) := KF.out.to hb; clear ho hb))
    refine bodyPost_ret (v := .tuple #[.agg #[.int .i64 (W : Int), .int .i64 (L : Int), .slice q' m.length c'], .int .i64 0]) (by simp [results, Try.results45, go_sem, y0, y1, y2]) rfl ⟨q', c', rfl, ?_, set3 HX.out.b (Nat.le_refl _) _ _ _⟩
    exact (HO.out.set3 (B := w.heap.size) (by simp; omega) _ _ _).weak (by simp; omega)
end Go.Proofs.Ytkbikngkhaeakaa
