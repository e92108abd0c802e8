/- same: the closure, slices.EqualFunc, same. -/
import Derived.Test.YtjnhalomkmdcgaaLuO
namespace Go.Proofs.Ytjnhalomkmdcgaa
open Go.RowKit

/-- Are two entries the same, but for their states? -/
def saE (x y : En) : Bool := decide (x.2.2 = y.2.2) && samI x.2.1 y.2.1
theorem clo50 (s n s' n' : Int) (q q' : Option Addr) (t t' : List Int) (d d' : Nat) (w : World) (h : TRow w.heap.size w q t d) (h' : TRow w.heap.size w q' t' d') (hl : t.length ≤ 1000) :
    Calls Try.prog 50 #[.agg #[.int .i64 s, .slice q t.length d, .int .i64 n], .agg #[.int .i64 s', .slice q' t'.length d', .int .i64 n']] w fun e w' => e = .returned (.bool (saE (s, t, n) (s', t', n'))) ∧ Below w.heap.size w w' := by
  have bA : ∀ a b : Obj, Below w.heap.size w ((w.alloc a).alloc b) := fun a b => ((Below.refl _ _).alloc (Nat.le_refl _) _).alloc (by simp) _
  have CE := fun (W : World) (hb : Below w.heap.size w W) => equal18 q t d q' t' d' W (h.i.to hb) (h'.i.to hb) (by omega)
  have HB := hidOg bA
  obtain ⟨l, hl0⟩ : ∃ l, l = t.length := ⟨_, rfl⟩
  obtain ⟨l', hl1⟩ : ∃ l', l' = t'.length := ⟨_, rfl⟩
  rw [← hl0, ← hl1] at CE ⊢
  clear h h' hl hl0 hl1 bA
  by_cases hn : n = n'
  · have E : Hid (saE (s, t, n) (s', t', n') = samI t t') := by unfold Hid saE; simp [hn]
    have hn' : (n == n') = true := by simpa using hn
    obtain ⟨r, hr⟩ : ∃ r, r = samI t t' := ⟨_, rfl⟩
    rw [← hr] at CE E
    clear hn hr
    go_enter Try.func50, Try.ntmps50
    go_wp2_with (first | (go_at_call 51; refine Calls.mono (CE _ (HB.out _ _)) ?_; rintro e w1 ⟨rfl, hb⟩))
    go_ret
    exact ⟨ret_bool E.out.symm, (HB.out _ _).trans (hb.mono (HB.out _ _).size)⟩
  · have E : Hid (saE (s, t, n) (s', t', n') = false) := by unfold Hid saE; simp [hn]
    have hn' : (n == n') = false := by simpa using hn
    clear hn CE
    go_enter Try.func50, Try.ntmps50
    go_wp2
    go_ret
    exact ⟨ret_bool E.out.symm, HB.out _ _⟩
/-- Do two rows of entries say the same? -/
def saL (A C : List En) : Bool := decide (A.length = C.length) && (List.range A.length).all fun k => saE (gE A k) (gE C k)
theorem saL_refl (A : List En) : saL A A = true := by
  unfold saL
  simp only [decide_true, Bool.true_and, List.all_eq_true]
  intro k _
  unfold saE; simp [samI]
theorem saL_len {A C : List En} (h : A.length ≠ C.length) : saL A C = false := by unfold saL; simp [h]
theorem saL_at {A C : List En} (k : Nat) (hk : k < A.length) (h : saE (gE A k) (gE C k) = false) : saL A C = false := by
  unfold saL
  rw [Bool.and_eq_false_iff]
  right
  rw [Bool.eq_false_iff]
  intro h'
  have := List.all_eq_true.1 h' k (by simpa using hk)
  rw [h] at this; cases this
theorem saL_all {A C : List En} (hl : A.length = C.length) (h : ∀ k, k < A.length → saE (gE A k) (gE C k) = true) : saL A C = true := by
  unfold saL
  rw [decide_eq_true hl, Bool.true_and, List.all_eq_true]
  intro k hk
  exact h k (by simpa using hk)
set_option maxRecDepth 20000 in
set_option maxHeartbeats 2000000 in
theorem equalFunc49 (p : Option Addr) (A : List En) (c : Nat) (q : Option Addr) (C : List En) (d : Nat) (w : World) (hA : ERow w.heap.size w p A) (hC : ERow w.heap.size w q C) (hl : LB A) (hn : A.length ≤ 1000) :
    Calls Try.prog 49 #[.slice p A.length c, .slice q C.length d, .func (.func 50) #[] #[]] w fun e w' => e = .returned (.bool (saL A C)) ∧ Below w.heap.size w w' := by
  by_cases hlen : A.length = C.length
  · obtain ⟨v, hv⟩ : ∃ v, v = saL A C := ⟨_, rfl⟩
    rw [← hv]
    have HV := hidOg hv
    have HLn := hidOg hlen
    obtain ⟨m, hm⟩ : ∃ m, m = A.length := ⟨_, rfl⟩
    have HM := hidOg hm
    have HAr := hidOg hA
    have HCr := hidOg hC
    have HLB := hidOg hl
    rw [← hlen, ← hm]
    rw [← hm] at hn
    clear hv hlen hm hA hC hl
    go_enter Try.func49, Try.ntmps49
    go_wp2
    go_loopw [17] (fun i wr => ∃ k : Nat, k ≤ m ∧ i = .int .i64 k ∧ (∀ j, j < k → saE (gE A j) (gE C j) = true) ∧ Below w.heap.size w wr) (fun i _ => m - (intOf i).toNat)
    case atStart => exact ⟨0, Nat.zero_le _, rfl, fun j h => by omega, Below.refl _ _⟩
    case round =>
      obtain ⟨k, hk, rfl, hall, hB⟩ := hrel
      have HA := hidOg hall
      have HB := hidOg hB
      clear hall hB
      by_cases hlt : k < m
      · obtain ⟨b, off, rfl, hbN, hcs⟩ := HAr.out (by have := HM.out; omega)
        obtain ⟨b', off', rfl, hbN', hcs'⟩ := HCr.out (by have := HM.out; have := HLn.out; omega)
        obtain ⟨k0, ⟨qx, cx, k1, hTx⟩, k2⟩ := hcs k (by have := HM.out; omega)
        obtain ⟨j0, ⟨qy, cy, j1, hTy⟩, j2⟩ := hcs' k (by have := HM.out; have := HLn.out; omega)
        have k0' := (HB.out.cell (p := ⟨b, off + k * 3, none⟩) hbN).trans k0
        have k1' := (HB.out.cell (p := ⟨b, off + k * 3 + 1, none⟩) hbN).trans k1
        have k2' := (HB.out.cell (p := ⟨b, off + k * 3 + 2, none⟩) hbN).trans k2
        have bal : ∀ o : Obj, Below w.heap.size w (wr.alloc o) := fun o => HB.out.trans (((Below.refl _ wr).alloc (Nat.le_refl _) o).mono HB.out.size)
        have bal2 : ∀ o o' : Obj, Below w.heap.size w ((wr.alloc o).alloc o') := fun o o' => (bal o).trans (((Below.refl _ (wr.alloc o)).alloc (Nat.le_refl _) o').mono (bal o).size)
        have j0' := fun o => ((bal o).cell (p := ⟨b', off' + k * 3, none⟩) hbN').trans j0
        have j1' := fun o => ((bal o).cell (p := ⟨b', off' + k * 3 + 1, none⟩) hbN').trans j1
        have j2' := fun o => ((bal o).cell (p := ⟨b', off' + k * 3 + 2, none⟩) hbN').trans j2
        have CC := fun (W : World) (hb : Below w.heap.size w W) => clo50 (gE A k).1 (gE A k).2.2 (gE C k).1 (gE C k).2.2 qx qy (gE A k).2.1 (gE C k).2.1 cx cy W ((hTx.below hb (Nat.le_refl _)).mono hb.size) ((hTy.below hb (Nat.le_refl _)).mono hb.size) (HLB.out k (by have := HM.out; omega))
        have HB2 := hidOg bal2
        obtain ⟨r, hr⟩ : ∃ r, r = saE ((gE A k).1, (gE A k).2.1, (gE A k).2.2) ((gE C k).1, (gE C k).2.1, (gE C k).2.2) := ⟨_, rfl⟩
        rw [← hr] at CC
        have HR : Hid (r = saE (gE A k) (gE C k)) := hr
        obtain ⟨la, hla⟩ : ∃ la, la = (gE A k).2.1.length := ⟨_, rfl⟩
        obtain ⟨lc, hlc⟩ : ∃ lc, lc = (gE C k).2.1.length := ⟨_, rfl⟩
        rw [← hla] at CC k1'
        rw [← hlc] at CC j1'
        clear hr hla hlc hcs hcs' k0 k1 k2 j0 j1 j2 hTx hTy bal bal2
        cases r
        · go_wp2_with (first | (go_at_call 50; refine Calls.mono (CC _ (HB2.out _ _)) ?_; rintro e w1 ⟨rfl, hb⟩))
          go_ret
          exact ⟨ret_bool (by rw [HV.out, saL_at k (by have := HM.out; omega) HR.out.symm]), (HB2.out _ _).trans (hb.mono (HB2.out _ _).size)⟩
        · go_wp2_with (first | (go_at_call 50; refine Calls.mono (CC _ (HB2.out _ _)) ?_; rintro e w1 ⟨rfl, hb⟩))
          go_roundw
          case rel =>
            refine ⟨k + 1, by omega, by go_num, fun j hj => ?_, (HB2.out _ _).trans (hb.mono (HB2.out _ _).size)⟩
            by_cases e : j = k
            · rw [e]; exact HR.out.symm
            · exact HA.out j (by omega)
          case measure => simp [intOf]; omega
      · obtain rfl : k = m := by omega
        go_wp2
        go_ret
        exact ⟨ret_bool (by rw [HV.out, saL_all HLn.out (by rw [← HM.out]; exact HA.out)]), HB.out⟩
  · have hl' : ((A.length : Int) == (C.length : Int)) = false := by simp; omega
    rw [saL_len hlen]
    clear hA hC hl hlen
    go_enter Try.func49, Try.ntmps49
    go_wp2
    go_ret
    exact ⟨rfl, Below.refl _ _⟩
end Go.Proofs.Ytjnhalomkmdcgaa
