/- mayBe: whether an allocator may be. -/
import Derived.Test.YtaglhajlgnjhcaaDoorAlE
namespace Go.Proofs.YtaglhajlgnjhcaaDoor
open Go.RowKit

def szB (m : Int) (n : Nat) : Bool := mostB m && (decide (2 ≤ n) && decide ((n : Int) ≤ m + 2))
def mayB (m : Int) (l : List (Int × Bool)) (f : List Int) : Bool := szB m l.length && (okS l && (decide (f.length = usN l l.length) && okF l f))

set_option maxRecDepth 20000 in
set_option maxHeartbeats 1000000 in
theorem mayBe_any (m : Int) (l : List (Int × Bool)) (f : List Int) (p : Option Addr) (c : Nat) (q : Option Addr) (d : Nat) (w : World) (hF : Fr w) (hS : SRow w.heap.size w p l) (hI : IRow .i64 w.heap.size w q f) (hn : l.length ≤ 140737488355328) (hfn : f.length < 1152921504606846976) :
    Calls Tryd.prog 34 #[.agg #[.int .i64 m, .slice p l.length c, .slice q f.length d]] w fun e w' => e = .returned (.bool (mayB m l f)) ∧ Below w.heap.size w w' := by
  obtain ⟨r, hr⟩ : ∃ r, r = mayB m l f := ⟨_, rfl⟩
  rw [← hr]
  have HR : Hid (r = mayB m l f) := hr
  clear hr
  have CM := fun (w : World) => isMost_any m w
  cases hm : mostB m
  · rw [hm] at CM
    have HM : Hid (mostB m = false) := hm
    clear hm
    go_enter Tryd.func34, Tryd.ntmps34
    go_wp2_with (first | (go_at_call 39; refine Calls.mono (CM _) ?_; rintro e w1 ⟨rfl, rfl⟩))
    go_ret
    exact ⟨ret_bool (by rw [HR.out]; unfold mayB szB; rw [HM.out]; rfl), (Below.refl _ _).alloc (Nat.le_refl _) _⟩
  · rw [hm] at CM
    have HM : Hid (mostB m = true) := hm
    have hm' : 1 ≤ m ∧ m ≤ 1048576 := by simpa [mostB] using hm
    obtain ⟨m1, m2⟩ := hm'
    clear hm
    by_cases h1 : l.length < 2
    · go_enter Tryd.func34, Tryd.ntmps34
      go_wp2_with (first | (go_at_call 39; refine Calls.mono (CM _) ?_; rintro e w1 ⟨rfl, rfl⟩))
      go_ret
      exact ⟨ret_bool (by rw [HR.out]; unfold mayB szB; rw [HM.out, decide_eq_false (show ¬ 2 ≤ l.length by omega)]; rfl), (Below.refl _ _).alloc (Nat.le_refl _) _⟩
    · by_cases h2 : m + 2 < (l.length : Int)
      · go_enter Tryd.func34, Tryd.ntmps34
        go_wp2_with (first | (go_at_call 39; refine Calls.mono (CM _) ?_; rintro e w1 ⟨rfl, rfl⟩))
        go_ret
        exact ⟨ret_bool (by rw [HR.out]; unfold mayB szB; rw [HM.out, decide_eq_false (show ¬ (l.length : Int) ≤ m + 2 by omega)]; simp), (Below.refl _ _).alloc (Nat.le_refl _) _⟩
      · have HZ : Hid (szB m l.length = true) := by unfold Hid szB; rw [HM.out, decide_eq_true (show 2 ≤ l.length by omega), decide_eq_true (show (l.length : Int) ≤ m + 2 by omega)]; rfl
        have hl := hF.lt
        have CE := fun (a b : Obj) (h0 : ((w.alloc a).alloc b).cell? ⟨w.heap.size + 1, 0, none⟩ = some (.int .i64 0)) (h1 : ((w.alloc a).alloc b).frozen? ⟨w.heap.size + 1, 0, none⟩ = false) =>
          every58 p l c (w.heap.size + 1) ((w.alloc a).alloc b) ((hF.alloc a).alloc b) (by omega) ((hS.below ((((Below.refl w.heap.size w).alloc (Nat.le_refl _) a).alloc (by simp) b)) (Nat.le_refl _)).mono (by omega)) h0 h1 (by simp) (by omega)
        cases ho : okS l
        · rw [ho] at CE
          have HO : Hid (okS l = false) := ho
          clear ho
          go_enter Tryd.func34, Tryd.ntmps34
          go_wp2_with (first | (go_at_call 39; refine Calls.mono (CM _) ?_; rintro e w1 ⟨rfl, rfl⟩) | (go_at_call 58; refine Calls.mono (CE _ _ (by simp) (by simp)) ?_; rintro e w2 ⟨rfl, k1, k2⟩; obtain ⟨kc, kf⟩ := bcellN k2))
          go_ret
          exact ⟨ret_bool (by rw [HR.out]; unfold mayB; rw [HZ.out, HO.out]; rfl), (((Below.refl _ _).alloc (Nat.le_refl _) _).alloc (by simp) _).trans (k2.mono (by omega))⟩
        · rw [ho] at CE
          have HO : Hid (okS l = true) := ho
          clear ho
          by_cases hu : f.length = usN l l.length
          · have CO := fun (w1 : World) (hb : Below w.heap.size w w1) => freeOnce_any m l f p c q d w1 ((hS.below hb (Nat.le_refl _)).mono hb.size) ((hI.below hb (Nat.le_refl _)).mono hb.size) (by omega) hfn
            have HU : Hid (f.length = usN l l.length) := hu
            rw [← hu] at CE
            clear hu
            go_enter Tryd.func34, Tryd.ntmps34
            go_wp2_with (first | (go_at_call 39; refine Calls.mono (CM _) ?_; rintro e w1 ⟨rfl, rfl⟩) | (go_at_call 58; refine Calls.mono (CE _ _ (by simp) (by simp)) ?_; rintro e w2 ⟨rfl, k1, k2⟩; obtain ⟨kc, kf⟩ := bcellN k2; have k1' := k1 trivial; have hb : Below w.heap.size w w2 := (((Below.refl _ _).alloc (Nat.le_refl _) _).alloc (by simp) _).trans (k2.mono (by omega))) | (go_at_call 60; refine Calls.mono (CO _ hb) ?_; rintro e w3 ⟨rfl, hb3⟩))
            go_ret
            exact ⟨ret_bool (by rw [HR.out]; unfold mayB; rw [HZ.out, HO.out, decide_eq_true HU.out]; rfl), hb.trans (hb3.mono hb.size)⟩
          · have HU : Hid (decide (f.length = usN l l.length) = false) := decide_eq_false hu
            have hu' : ¬ ((f.length : Int) = (usN l l.length : Int)) := by omega
            clear hu
            go_enter Tryd.func34, Tryd.ntmps34
            go_wp2_with (first | (go_at_call 39; refine Calls.mono (CM _) ?_; rintro e w1 ⟨rfl, rfl⟩) | (go_at_call 58; refine Calls.mono (CE _ _ (by simp) (by simp)) ?_; rintro e w2 ⟨rfl, k1, k2⟩; obtain ⟨kc, kf⟩ := bcellN k2; have k1' := k1 trivial; have hb : Below w.heap.size w w2 := (((Below.refl _ _).alloc (Nat.le_refl _) _).alloc (by simp) _).trans (k2.mono (by omega))))
            go_ret
            exact ⟨ret_bool (by rw [HR.out]; unfold mayB; rw [HZ.out, HO.out, HU.out]; rfl), hb⟩
end Go.Proofs.YtaglhajlgnjhcaaDoor
