/- small, wakes. -/
import Derived.Test.YtooaghcjlomcpaaTyJ
namespace Go.Proofs.Ytooaghcjlomcpaa
open Go.RowKit

def sml : List Int := [4611686018427387906, 9223372045444710407, 9223372049739677703]
def mix : List Int := [9223372049739677703, 4611686018427387906, 9223372045444710407, 4611686018427387906]
theorem small_any (w : World) :
    Calls Try.prog 44 #[] w fun e w' => e = .returned (.slice (some ⟨w.heap.size, 0, none⟩) 3 3) ∧ w' = w.alloc (.cells #[.int .u64 4611686018427387906, .int .u64 9223372045444710407, .int .u64 9223372049739677703] 33) := by
  have M1 := fun (W : World) => made_com 2 W (by decide) (by decide)
  have M2 := fun (W : World) => made_pai 2 7 W (by decide) (by decide) (by decide) (by decide)
  have M3 := fun (W : World) => made_pai 3 7 W (by decide) (by decide) (by decide) (by decide)
  go_enter Try.func44, Try.ntmps44
  go_wp2_with (first | (go_at_call_has 45 (4611686018427387904 : Int); refine Calls.mono (M1 _) ?_; rintro e w1 ⟨rfl, rfl⟩) | (go_at_call 45; refine Calls.mono (M2 _) ?_; clear M2; rintro e w1 ⟨rfl, rfl⟩) | (go_at_call 45; refine Calls.mono (M3 _) ?_; rintro e w1 ⟨rfl, rfl⟩))
  go_ret
  exact ⟨rfl, rfl⟩

theorem sml_row {w : World} : Row (w.alloc (.cells #[.int .u64 4611686018427387906, .int .u64 9223372045444710407, .int .u64 9223372049739677703] 33)) (some ⟨w.heap.size, 0, none⟩) sml 3 :=
  ⟨irow_heap (l := sml) .u64 (heap_alloc_new w _), by decide, by decide, .inr ⟨_, _, rfl⟩⟩
theorem mix_row {w : World} : Row (w.alloc (.cells #[.int .u64 9223372049739677703, .int .u64 4611686018427387906, .int .u64 9223372045444710407, .int .u64 4611686018427387906] 33)) (some ⟨w.heap.size, 0, none⟩) mix 4 :=
  ⟨irow_heap (l := mix) .u64 (heap_alloc_new w _), by decide, by decide, .inr ⟨_, _, rfl⟩⟩
theorem sml_u : U64 sml := by intro x hx; simp [sml] at hx; omega
theorem mix_u : U64 mix := by intro x hx; simp [mix] at hx; omega
theorem ofR_mix : ofR mix = sml := by decide +kernel
theorem ofE_mix : ofE mix = 0 := by decide +kernel
theorem wouL_sml : (wouL sml 9223372045444710407).length = 2 := by decide +kernel
theorem wouE_sml : wouE sml 9223372045444710407 = 0 := by decide +kernel
theorem wouE_c3 : wouE sml 4611686018427387907 = 4 := by decide +kernel
theorem wouL_c3 : (wouL sml 4611686018427387907).length = 0 := by decide +kernel
theorem hasB_sml : hasB sml 9223372045444710407 = true := by decide +kernel
theorem tarL_sml : tarL sml 2 = [7] := by decide +kernel
theorem tol_sml : (tolL sml (takesB 9223372036854775815)).length = 2 := by decide +kernel

theorem w_of (w : World) : Calls Try.prog 13 #[.slice (some ⟨w.heap.size, 0, none⟩) 4 4] (w.alloc (.cells #[.int .u64 9223372049739677703, .int .u64 4611686018427387906, .int .u64 9223372045444710407, .int .u64 4611686018427387906] 33)) fun e w' =>
    ∃ p c, e = .returned (.tuple #[.slice p 3 c, .int .i64 0]) ∧ Row w' p sml c ∧ Below w.heap.size w w' := by
  refine Calls.mono (of_any (some ⟨w.heap.size, 0, none⟩) mix 4 _ mix_row mix_u) ?_
  rintro e w' ⟨p, c, he, hr, hb⟩
  rw [ofR_mix] at hr
  rw [ofR_mix, ofE_mix] at he
  have h0 : Below w.heap.size w (w.alloc (.cells #[.int .u64 9223372049739677703, .int .u64 4611686018427387906, .int .u64 9223372045444710407, .int .u64 4611686018427387906] 33)) := (Below.refl _ _).alloc (Nat.le_refl _) _
  exact ⟨p, c, he, hr.row, h0.trans (hb.mono h0.size)⟩
theorem w_without (p : Option Addr) (c : Nat) (w : World) (h : Row w p sml c) : Calls Try.prog 34 #[.slice p 3 c, .int .u64 9223372045444710407] w fun e w' => ∃ p' c', e = .returned (.tuple #[.slice p' 2 c', .int .i64 0]) ∧ Below w.heap.size w w' := by
  refine Calls.mono (without_any p sml c 9223372045444710407 w h sml_u) ?_
  rintro e w' ⟨p', c', he, _, hb⟩
  rw [wouL_sml, wouE_sml] at he
  exact ⟨p', c', he, hb⟩
theorem w_none (p : Option Addr) (c : Nat) (w : World) (h : Row w p sml c) : Calls Try.prog 34 #[.slice p 3 c, .int .u64 4611686018427387907] w fun e w' => ∃ p' c', e = .returned (.tuple #[.slice p' 0 c', .int .i64 4]) ∧ Below w.heap.size w w' := by
  refine Calls.mono (without_any p sml c 4611686018427387907 w h sml_u) ?_
  rintro e w' ⟨p', c', he, _, hb⟩
  rw [wouL_c3, wouE_c3] at he
  exact ⟨p', c', he, hb⟩
theorem w_equal (p : Option Addr) (c : Nat) (q : Option Addr) (d : Nat) (w : World) (h : Row w p sml c) (g : Row w q sml d) : Calls Try.prog 18 #[.slice p 3 c, .slice q 3 d] w fun e w' => e = .returned (.bool true) ∧ Below w.heap.size w w' := by
  have H := equal18 p sml c q sml d w h.i g.i (by decide)
  rw [samI_refl] at H
  exact H
theorem w_has (p : Option Addr) (c : Nat) (w : World) (h : Row w p sml c) : Calls Try.prog 24 #[.slice p 3 c, .int .u64 9223372045444710407] w fun e w' => e = .returned (.bool true) ∧ Below w.heap.size w w' := by
  have H := Has_any p sml c 9223372045444710407 w h sml_u
  rw [hasB_sml] at H
  exact H
theorem w_targets (p : Option Addr) (c : Nat) (w : World) (h : Row w p sml c) : Calls Try.prog 30 #[.slice p 3 c, .int .i64 2] w fun e w' => ∃ p' c', e = .returned (.slice p' 1 c') ∧ IRow .i64 w'.heap.size w' p' [7] ∧ Below w.heap.size w w' := by
  refine Calls.mono (targets_any p sml c 2 w h sml_u) ?_
  rintro e w' ⟨p', c', he, hi, hb⟩
  rw [tarL_sml] at he hi
  exact ⟨p', c', he, hi, hb⟩
theorem w_equal29 (p : Option Addr) (c : Nat) (w : World) (h : IRow .i64 w.heap.size w p [7]) : Calls Try.prog 29 #[.slice p 1 c, .slice (some ⟨w.heap.size, 0, none⟩) 1 1] (w.alloc (.cells #[.int .i64 7] 3)) fun e w' => e = .returned (.bool true) ∧ Below w.heap.size w w' := by
  have h0 : Below w.heap.size w (w.alloc (.cells #[.int .i64 7] 3)) := (Below.refl _ _).alloc (Nat.le_refl _) _
  have H := equal29 p [7] c (some ⟨w.heap.size, 0, none⟩) [7] 1 (w.alloc (.cells #[.int .i64 7] 3)) (h.to h0) (irow_heap (l := [7]) .i64 (heap_alloc_new w _)) (by decide)
  rw [samI_refl] at H
  refine Calls.mono H ?_
  rintro e w' ⟨rfl, hb⟩
  exact ⟨rfl, h0.trans (hb.mono h0.size)⟩
theorem w_taken (p : Option Addr) (c : Nat) (w : World) (h : Row w p sml c) : Calls Try.prog 26 #[.slice p 3 c, .int .u64 9223372036854775815] w fun e w' => ∃ p' c', e = .returned (.slice p' 2 c') ∧ Below w.heap.size w w' := by
  refine Calls.mono (taken_any p sml c 9223372036854775815 w h sml_u (by decide) (by decide)) ?_
  rintro e w' ⟨p', c', he, _, hb⟩
  rw [tol_sml] at he
  exact ⟨p', c', he, hb⟩

theorem row_at {w : World} {B c : Nat} {l : List Int} (h : Row w (some ⟨B, 0, none⟩) l c) (k : Nat) (hk : k < l.length) : w.cell? ⟨B, k, none⟩ = some (.int .u64 (iG l k)) := by
  obtain ⟨b, off, e, _, hc⟩ := h.i (by omega)
  cases e
  simpa using hc k hk

set_option maxRecDepth 20000 in
set_option maxHeartbeats 4000000 in
theorem wakes_any (w : World) : Calls Try.prog 9 #[] w fun e w' => e = .returned (.bool true) ∧ Below w.heap.size w w' := by
  have CS := small_any w
  have M3 := fun (W : World) => made_com 3 W (by decide) (by decide)
  have M7 := fun (W : World) => made_pai 0 7 W (by decide) (by decide) (by decide) (by decide)
  obtain ⟨w1, hw1⟩ : ∃ w1, w1 = w.alloc (.cells #[.int .u64 4611686018427387906, .int .u64 9223372045444710407, .int .u64 9223372049739677703] 33) := ⟨_, rfl⟩
  have hr1 : Row w1 (some ⟨w.heap.size, 0, none⟩) sml 3 := by rw [hw1]; exact sml_row
  have hb1 : Below w.heap.size w w1 := by rw [hw1]; exact (Below.refl _ _).alloc (Nat.le_refl _) _
  rw [← hw1] at CS
  have HR1 := hidOg hr1
  have HB1 := hidOg hb1
  have c0 : w1.cell? ⟨w.heap.size, 0, none⟩ = some (.int .u64 4611686018427387906) := row_at hr1 0 (by decide)
  have c1 : w1.cell? ⟨w.heap.size, 1, none⟩ = some (.int .u64 9223372045444710407) := row_at hr1 1 (by decide)
  have c2 : w1.cell? ⟨w.heap.size, 2, none⟩ = some (.int .u64 9223372049739677703) := row_at hr1 2 (by decide)
  have HK : Hid (∀ w' : World, Below w1.heap.size w1 w' → w'.cell? ⟨w.heap.size, 0, none⟩ = some (.int .u64 4611686018427387906) ∧ w'.cell? ⟨w.heap.size, 1, none⟩ = some (.int .u64 9223372045444710407) ∧ w'.cell? ⟨w.heap.size, 2, none⟩ = some (.int .u64 9223372049739677703)) := fun w' hb => ⟨row_at (hr1.to hb) 0 (by decide), row_at (hr1.to hb) 1 (by decide), row_at (hr1.to hb) 2 (by decide)⟩
  have CO : Calls Try.prog 13 #[.slice (some ⟨w1.heap.size, 0, none⟩) 4 4] (w1.alloc (.cells #[.int .u64 9223372049739677703, .int .u64 4611686018427387906, .int .u64 9223372045444710407, .int .u64 4611686018427387906] 33)).drew fun e w' =>
    ∃ p c, e = .returned (.tuple #[.slice p 3 c, .int .i64 0]) ∧ Row w' p sml c ∧ Below w1.heap.size w1 w' := by
    refine Calls.mono (w_of w1.drew) ?_
    rintro e w' ⟨p, c, rfl, hr, hb⟩
    exact ⟨p, c, rfl, hr, ⟨hb.os, hb.tape, hb.output, hb.size, hb.block⟩⟩
  clear hr1 hb1 hw1
  go_enter Try.func9, Try.ntmps9
  go_wp2_with (first | (go_at_call 44; refine Calls.mono CS ?_; clear CS; rintro e w1 ⟨rfl, rfl⟩))
  go_region_held3 (fun w' => w'.cell? ⟨w.heap.size, 0, none⟩ = some (.int .u64 4611686018427387906) ∧ w'.cell? ⟨w.heap.size, 1, none⟩ = some (.int .u64 9223372045444710407) ∧ w'.cell? ⟨w.heap.size, 2, none⟩ = some (.int .u64 9223372049739677703)) (first | go_keep) (first | (go_at_call 13; refine Calls.mono CO ?_; clear CO; rintro e w2 ⟨p2, d2, rfl, hr2, hb2⟩; obtain ⟨k0, k1, k2⟩ := HK.out w2 hb2))
  have HR2 := hidOg hr2
  have HB2 := hidOg hb2
  have CW := w_without p2 d2 w2 hr2
  have CN := fun (w3 : World) (hb : Below w2.heap.size w2 w3) => w_none p2 d2 w3 (hr2.to hb)
  have CE := fun (w3 : World) (hb : Below w2.heap.size w2 w3) => w_equal p2 d2 (some ⟨w.heap.size, 0, none⟩) 3 w3 (hr2.to hb) ((HR1.out.to hb2).to hb)
  have CH := fun (w3 : World) (hb : Below w2.heap.size w2 w3) => w_has p2 d2 w3 (hr2.to hb)
  have CT := fun (w3 : World) (hb : Below w2.heap.size w2 w3) => w_targets p2 d2 w3 (hr2.to hb)
  have CA := fun (w3 : World) (hb : Below w2.heap.size w2 w3) => w_taken p2 d2 w3 (hr2.to hb)
  have HC := fun (w3 : World) (hb : Below w2.heap.size w2 w3) => (HK.out w3 (hb2.trans (hb.mono hb2.size))).2.1
  clear hr2 hb2
  go_wp2_with (first
    | (go_at_call 34; refine Calls.mono CW ?_; clear CW; rintro e w3 ⟨p3, d3, rfl, hb3⟩)
    | (go_at_call_has 45 (4611686018427387904 : Int); refine Calls.mono (M3 _) ?_; rintro e w' ⟨rfl, rfl⟩)
    | (go_at_call 34; refine Calls.mono (CN _ hb3) ?_; clear CN; rintro e w4 ⟨p4, d4, rfl, hb4⟩; have h4 := hb3.trans (hb4.mono hb3.size); clear hb4)
    | (go_at_call 18; refine Calls.mono (CE _ h4) ?_; clear CE; rintro e w5 ⟨rfl, hb5⟩; have h5 := h4.trans (hb5.mono h4.size); clear hb5; have e5 := HC _ h5)
    | (go_at_call 24; refine Calls.mono (CH _ h5) ?_; clear CH; rintro e w6 ⟨rfl, hb6⟩; have h6 := h5.trans (hb6.mono h5.size); clear hb6)
    | (go_at_call 30; refine Calls.mono (CT _ h6) ?_; clear CT; rintro e w7 ⟨p7, d7, rfl, hi7, hb7⟩; have h7 := h6.trans (hb7.mono h6.size); clear hb7; have CQ := w_equal29 p7 d7 w7 hi7)
    | (go_at_call 29; refine Calls.mono CQ ?_; clear CQ; rintro e w8 ⟨rfl, hb8⟩; have h8 := h7.trans (hb8.mono h7.size); clear hb8)
    | (go_at_call 45; refine Calls.mono (M7 _) ?_; rintro e w' ⟨rfl, rfl⟩)
    | (go_at_call 26; refine Calls.mono (CA _ h8) ?_; clear CA; rintro e w9 ⟨p9, d9, rfl, hb9⟩))
  go_ret
  have g1 := HB1.out.trans (HB2.out.mono HB1.out.size)
  have g2 := g1.trans (h8.mono g1.size)
  exact ⟨rfl, g2.trans (hb9.mono g2.size)⟩
end Go.Proofs.Ytooaghcjlomcpaa
