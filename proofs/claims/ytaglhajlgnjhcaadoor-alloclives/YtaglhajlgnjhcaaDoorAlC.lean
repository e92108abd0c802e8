/- 'every' over the slots, with what mayBe asks of each. -/
import Derived.Test.YtaglhajlgnjhcaaDoorAlB
namespace Go.Proofs.YtaglhajlgnjhcaaDoor
open Go.RowKit

theorem usN_succ (l : List (Int × Bool)) (k : Nat) : (usN l (k + 1) : Int) = usN l k + askN (sG l k) (sA l k) := by
  show ((usN l k + if usB (sG l k) (sA l k) then 1 else 0 : Nat) : Int) = _
  unfold askN; split <;> simp

set_option maxHeartbeats 1000000 in
theorem every58 (p : Option Addr) (l : List (Int × Bool)) (cap B : Nat) (w : World) (hF : Fr w) (hB : 0 < B) (hS : SRow B w p l) (hc : w.cell? ⟨B, 0, none⟩ = some (.int .i64 0)) (hf : w.frozen? ⟨B, 0, none⟩ = false) (hlt : B < w.heap.size) (hn : l.length < 1152921504606846976) :
    Calls Tryd.prog 58 #[.slice p l.length cap, .func (.func 59) #[] #[.pointer (some ⟨B, 0, none⟩)]] w fun e w' => e = .returned (.bool (okS l)) ∧ (okS l = true → w'.cell? ⟨B, 0, none⟩ = some (.int .i64 (usN l l.length))) ∧ Below B w w' := by
  obtain ⟨r, hr⟩ : ∃ r, r = okS l := ⟨_, rfl⟩
  rw [← hr]
  have HR : Hid (r = okS l) := hr
  clear hr
  go_enter Tryd.func58, Tryd.ntmps58
  go_wp2
  go_loopw [9] (fun i wr => ∃ k : Nat, k ≤ l.length ∧ i = .int .i64 k ∧ (∀ j, j < k → slotOk (j : Int) (sG l j) (sA l j) = true) ∧ wr.cell? ⟨B, 0, none⟩ = some (.int .i64 (usN l k)) ∧ wr.frozen? ⟨B, 0, none⟩ = false ∧ Below B w wr) (fun i _ => l.length - (intOf i).toNat)
  case atStart => exact ⟨0, Nat.zero_le _, rfl, fun j h => by omega, hc, hf, Below.refl _ _⟩
  case round =>
    obtain ⟨k, hk, rfl, hall, hcr, hfr, hbr⟩ := hrel
    have HA : Hid (∀ j, j < k → slotOk (j : Int) (sG l j) (sA l j) = true) := hall
    clear hall
    have hu := usN_le l k
    have hFr := hF.below hbr hB
    have hsz := hbr.size
    by_cases hk' : k < l.length
    · obtain ⟨b, off, rfl, hbB, hcs⟩ := (hS.below hbr (Nat.le_refl _)) (by omega)
      obtain ⟨c0, c1⟩ := hcs k hk'
      clear hcs
      have CA := fun (o : Obj) => ask_any (k : Int) (sG l k) (sA l k) B (usN l k : Int) (wr.alloc o) (hFr.alloc o) hB ((World.cell?_alloc_past o B 0 (by omega)).trans hcr) ((World.frozen?_alloc_past o B 0 (by omega)).trans hfr) (by simp; omega) (by omega) (by omega)
      clear hFr
      rw [← usN_succ] at CA
      cases ho : slotOk (k : Int) (sG l k) (sA l k)
      · rw [ho] at CA
        have HO : Hid (slotOk (k : Int) (sG l k) (sA l k) = false) := ho
        clear ho
        go_wp2_with (first | (go_at_call 59; refine Calls.mono (CA _) ?_; rintro e w1 ⟨rfl, k1, k2, k3⟩))
        go_ret
        have e := okS_false k hk' HO.out
        exact ⟨ret_bool (by rw [HR.out, e]), fun h => (by rw [HR.out, e] at h; cases h), hbr.trans (((Below.refl _ _).alloc (by omega) _).trans k3)⟩
      · rw [ho] at CA
        have HO : Hid (slotOk (k : Int) (sG l k) (sA l k) = true) := ho
        clear ho
        go_wp2_with (first | (go_at_call 59; refine Calls.mono (CA _) ?_; rintro e w1 ⟨rfl, k1, k2, k3⟩))
        go_roundw
        case rel => exact ⟨k + 1, by omega, by go_num, fun j hj => by by_cases e : j = k; { subst e; exact HO.out }; { exact HA.out j (by omega) }, k1, k2, hbr.trans (((Below.refl _ _).alloc (by omega) _).trans k3)⟩
        case measure => simp [intOf]; omega
    · obtain rfl : k = l.length := by omega
      go_wp2
      go_ret
      exact ⟨ret_bool (by rw [HR.out]; exact (okS_true HA.out).symm), fun _ => hcr, hbr⟩
end Go.Proofs.YtaglhajlgnjhcaaDoor
