/- same. -/
import Derived.Test.YtjnhalomkmdcgaaLwA
import Derived.Test.YtjnhalomkmdcgaaWk
namespace Go.Proofs.Ytjnhalomkmdcgaa
open Go.RowKit

theorem alO_len (L : List En) : (alO L).length ≤ L.length := by
  unfold alO
  split
  · rw [alL_len]; exact used_le L
  · simp
theorem alO_lb {L : List En} (h : LB L) : LB (alO L) := fun k hk => by
  have hm := gE_mem hk
  unfold alO at hm ⊢
  cases hr : riB L
  · rw [hr] at hm; simp at hm
  · rw [hr] at hm
    rw [if_pos rfl] at hm
    rw [if_pos rfl]
    obtain ⟨j, hj, e⟩ := mem_gE ((alL_mem L _).1 hm).1
    rw [e]; exact h j hj
set_option maxRecDepth 20000 in
set_option maxHeartbeats 2000000 in
theorem same26 (p : Option Addr) (A : List En) (c : Nat) (q : Option Addr) (C : List En) (d : Nat) (w : World) (hA : ERow w.heap.size w p A) (hC : ERow w.heap.size w q C) (nA : A.length ≤ 512) (nC : C.length ≤ 512) (lA : LB A) (lC : LB C) :
    Calls Try.prog 26 #[.agg #[.slice p A.length c], .agg #[.slice q C.length d]] w fun e w' => e = .returned (.bool (saL (alO A) (alO C))) ∧ Below w.heap.size w w' := by
  have CA := fun (W : World) (hb : Below w.heap.size w W) => all11 p A c W (hA.to hb) nA lA
  have CC := fun (W : World) (hb : Below w.heap.size w W) => all11 q C d W (hC.to hb) nC lC
  have CQ := fun (p1 : Option Addr) (c1 : Nat) (p2 : Option Addr) (c2 : Nat) (W : World) (h1 : ERow W.heap.size W p1 (alO A)) (h2 : ERow W.heap.size W p2 (alO C)) => equalFunc49 p1 (alO A) c1 p2 (alO C) c2 W h1 h2 (alO_lb lA) (by have := alO_len A; omega)
  obtain ⟨wA, hwA⟩ : ∃ wA, wA = (w.alloc (.cells #[.slice p A.length c] 24)).alloc (.cells #[.slice q C.length d] 24) := ⟨_, rfl⟩
  have bA : Below w.heap.size w wA := by rw [hwA]; exact ((Below.refl _ _).alloc (Nat.le_refl _) _).alloc (by simp) _
  have x0 : Boxed wA w.heap.size 24 (.slice p A.length c) := by rw [hwA]; exact (Boxed.new w 24 _).alloc _
  have x1 : Boxed wA (w.heap.size + 1) 24 (.slice q C.length d) := by
    have := Boxed.new (w.alloc (.cells #[.slice p A.length c] 24)) 24 (.slice q C.length d); rw [World.size_alloc] at this; rw [hwA]; exact this
  obtain ⟨RA, hRA⟩ : ∃ RA, RA = alO A := ⟨_, rfl⟩
  obtain ⟨RC, hRC⟩ : ∃ RC, RC = alO C := ⟨_, rfl⟩
  rw [← hRA, ← hRC] at CQ ⊢
  rw [← hRA] at CA
  rw [← hRC] at CC
  obtain ⟨sa, hsa⟩ : ∃ sa, sa = saL RA RC := ⟨_, rfl⟩
  rw [← hsa] at CQ ⊢
  obtain ⟨m, hm⟩ : ∃ m, m = A.length := ⟨_, rfl⟩
  obtain ⟨n, hn⟩ : ∃ n, n = C.length := ⟨_, rfl⟩
  rw [← hm] at CA x0 hwA ⊢
  rw [← hn] at CC x1 hwA ⊢
  have HK : Hid (∀ W, Below wA.drew.heap.size wA.drew W → Below w.heap.size w W ∧ W.cell? ⟨w.heap.size, 0, none⟩ = some (.slice p m c) ∧ W.cell? ⟨w.heap.size + 1, 0, none⟩ = some (.slice q n d)) := fun W hb => by
    have h1 : Below wA.heap.size wA W := (below_drew _ _).trans hb
    exact ⟨bA.trans (h1.mono bA.size), Boxed.cell (Boxed.stays x0 h1), Boxed.cell (Boxed.stays x1 h1)⟩
  have HB0 : Hid (Below wA.drew.heap.size wA.drew wA.drew) := Below.refl _ _
  clear hA hC lA lC hRA hRC hsa hm hn nA nC bA
  go_enter Try.func26, Try.ntmps26
  go_wp2
  rw [← hwA]
  have y0 := Boxed.cell x0
  have y1 := Boxed.cell x1
  clear x0 x1 hwA
  go_region_held3 (fun w' => w'.cell? ⟨w.heap.size, 0, none⟩ = some (.slice p m c) ∧ w'.cell? ⟨w.heap.size + 1, 0, none⟩ = some (.slice q n d)) (first | with_reducible exact ⟨k0, k1⟩ | go_keep) (first
    | (go_at_call_has 11 p; first
        | (refine Calls.mono (CA _ (HK.out _ HBC.out).1) ?_; rintro e w2 ⟨p1, c1, rfl, h1, h2⟩; have HAz := hidOg h1.row; have HCz := hidOg (HC1.out.to h2); have HBz := hidOg (HBC.out.trans (h2.mono HBC.out.size)); obtain ⟨_, k0, k1⟩ := HK.out _ HBz.out; clear h1 h2)
        | (refine Calls.mono (CA _ (HK.out _ HB0.out).1) ?_; rintro e w1 ⟨p1, c1, rfl, h1, h2⟩; have HA1 := hidOg h1.row; have HBA := hidOg (HB0.out.trans (h2.mono HB0.out.size)); obtain ⟨_, k0, k1⟩ := HK.out _ HBA.out; clear h1 h2))
    | (go_at_call_has 11 q; first
        | (refine Calls.mono (CC _ (HK.out _ HBA.out).1) ?_; rintro e w2 ⟨p2, c2, rfl, h1, h2⟩; have HCz := hidOg h1.row; have HAz := hidOg (HA1.out.to h2); have HBz := hidOg (HBA.out.trans (h2.mono HBA.out.size)); obtain ⟨_, k0, k1⟩ := HK.out _ HBz.out; clear h1 h2)
        | (refine Calls.mono (CC _ (HK.out _ HB0.out).1) ?_; rintro e w1 ⟨p2, c2, rfl, h1, h2⟩; have HC1 := hidOg h1.row; have HBC := hidOg (HB0.out.trans (h2.mono HB0.out.size)); obtain ⟨_, k0, k1⟩ := HK.out _ HBC.out; clear h1 h2))
    | (go_at_call 49; refine Calls.mono (CQ _ _ _ _ _ HAz.out HCz.out) ?_; rintro e w3 ⟨rfl, hb3⟩; have HB3 := hidOg (HBz.out.trans (hb3.mono HBz.out.size)); obtain ⟨_, k0, k1⟩ := HK.out _ HB3.out; clear hb3))
  all_goals
    go_wp2
    go_ret
    exact ⟨rfl, (HK.out _ HB3.out).1⟩
end Go.Proofs.Ytjnhalomkmdcgaa
