/- The walk of IdentTakes: it returns true, whatever the two ids, where the table of powers of ten is laid. -/
import Derived.Test.YtpamgcmjhfojeaaDoorIdL
namespace Go.Proofs.YtpamgcmjhfojeaaDoor
open Go.RowKit

theorem pai_bd (r t : Int) : 0 ≤ paiV r t ∧ paiV r t < 18446744073709551616 := made_bd 3 r t
theorem paiB_of (r t : Int) (h : 0 ≤ r ∧ r ≤ 1048578) (g : 0 ≤ t ∧ t ≤ 1048578) : paiB r t = true := by simp [paiB, inR]; omega
theorem paiV_of {r t : Int} (h : paiB r t = true) : paiV r t = mk 2 r t := by unfold paiV; rw [h]; rfl
theorem paiE_of {r t : Int} (h : paiB r t = true) : paiE r t = 0 := by unfold paiE; rw [h]; rfl
theorem kind_paiV {r t : Int} (h : paiB r t = true) (z : r = 0 ∨ t = 0) : kindOf (paiV r t) = 4 := by rw [paiV_of h, kind_pai r t h, if_pos z]
theorem fA_paiV {r t : Int} (h : paiB r t = true) : fA (paiV r t) = r := by
  rw [paiV_of h]; unfold paiB at h; rw [Bool.and_eq_true] at h; have := inR_le h.1; have := inR_le h.2
  exact fA_mk 2 r t (by omega) (by omega) (by omega) (by omega)
theorem fB_paiV {r t : Int} (h : paiB r t = true) : fB (paiV r t) = t := by
  rw [paiV_of h]; unfold paiB at h; rw [Bool.and_eq_true] at h; have := inR_le h.1; have := inR_le h.2
  exact fB_mk 2 r t (by omega) (by omega) (by omega) (by omega)

theorem t_pat' {r t : Int} (h : paiB r t = true) (z : r = 0 ∨ t = 0) (x : Int) : takesB (paiV r t) x = (kindOf x == 3 && (cov1 r (fA x) && cov1 t (fB x))) := by
  unfold takesB coversB
  rw [kind_paiV h z, fA_paiV h, fB_paiV h]; rfl
theorem t_all (x : Int) : takesB (paiV 0 0) x = (kindOf x == 3) := by
  rw [t_pat' (by decide) (Or.inl rfl)]; simp [cov1]
theorem t_self {x : Int} (h0 : kindOf x ≠ 0) (h4 : kindOf x ≠ 4) : takesB x x = true := by
  unfold takesB; rw [if_neg h0, if_neg h4]; simp
theorem t_pat {p x : Int} (h : kindOf p = 4) (t : takesB p x = true) : kindOf x = 3 := by
  unfold takesB at t; rw [h] at t; simp at t; exact t.1
theorem t_a {x : Int} (k : kindOf x = 3) : takesB (paiV (p1 x) 0) x = true ∧ paiE (p1 x) 0 = 0 ∧ takesB (paiV 0 (p2 x)) x = true ∧ paiE 0 (p2 x) = 0 := by
  obtain ⟨a, b, c, d, _⟩ := pai_is k
  have c' := inR_le c
  have d' := inR_le d
  have e1 := paiB_of (p1 x) 0 (by omega) (by omega)
  have e2 := paiB_of 0 (p2 x) (by omega) (by omega)
  refine ⟨?_, paiE_of e1, ?_, paiE_of e2⟩
  · rw [t_pat' e1 (Or.inr rfl), k, a]; simp [cov1]
  · rw [t_pat' e2 (Or.inl rfl), k, b]; simp [cov1]
theorem e00 : paiE 0 0 = 0 := by decide

set_option maxHeartbeats 1000000 in
theorem tw_other_f (p x : Int) (h0 : 0 ≤ p) (h1 : p < 18446744073709551616) (h2 : 0 ≤ x) (h3 : x < 18446744073709551616) (w : World) (ht : Tab w) (k : kindOf x = 0) (ta : takesB (paiV 0 0) x = false) (tp : takesB p x = false) :
    Calls Tryd.prog 6 #[.int .u64 p, .int .u64 x] w fun e w' => e = .returned (.bool true) ∧ Below w.heap.size w w' := by
  have H0 : Hid (0 ≤ p) := h0
  have H1 : Hid (p < 18446744073709551616) := h1
  have H2 : Hid (0 ≤ x) := h2
  have H3 : Hid (x < 18446744073709551616) := h3
  have E0 := e00
  have hB := Below.refl w.heap.size w
  clear h0 h1 h2 h3
  go_enter Tryd.func6, Tryd.ntmps6
  go_wp2_with (first
    | (go_at_call 8; refine (wakes_any _ ht).mono ?_; rintro e w1 ⟨rfl, hb⟩; replace hB := bstep hB hb; clear hb)
    | (go_at_call_has 18 x; refine (kind_any x _ H2.out H3.out).mono ?_; rintro e w1 ⟨rfl, hb⟩; replace hB := bstep hB hb; clear hb)
    | (go_at_call_has 18 p; refine (kind_any p _ H0.out H1.out).mono ?_; rintro e w1 ⟨rfl, hb⟩; replace hB := bstep hB hb; clear hb)
    | (go_at_call 11; refine (pair_any _ _ _).mono ?_; rintro e w1 ⟨rfl, hb⟩; replace hB := bstep hB hb; clear hb)
    | (go_at_call 14; refine (parts_any x _ H2.out H3.out).mono ?_; rintro e w1 ⟨rfl, hb⟩; replace hB := bstep hB hb; clear hb)
    | (go_at_call_has 20 (paiV 0 0); refine (takes_any (paiV 0 0) x _ (pai_bd _ _).1 (pai_bd _ _).2 H2.out H3.out).mono ?_; rintro e w1 ⟨rfl, hb⟩; replace hB := bstep hB hb; clear hb)
    | (go_at_call_has 20 (paiV (p1 x) 0); refine (takes_any (paiV (p1 x) 0) x _ (pai_bd _ _).1 (pai_bd _ _).2 H2.out H3.out).mono ?_; rintro e w1 ⟨rfl, hb⟩; replace hB := bstep hB hb; clear hb)
    | (go_at_call_has 20 (paiV 0 (p2 x)); refine (takes_any (paiV 0 (p2 x)) x _ (pai_bd _ _).1 (pai_bd _ _).2 H2.out H3.out).mono ?_; rintro e w1 ⟨rfl, hb⟩; replace hB := bstep hB hb; clear hb)
    | (go_at_call_has 20 (Value.int .u64 p); refine (takes_any p x _ H0.out H1.out H2.out H3.out).mono ?_; rintro e w1 ⟨rfl, hb⟩; replace hB := bstep hB hb; clear hb)
    | (go_at_call 20; refine (takes_any x x _ H2.out H3.out H2.out H3.out).mono ?_; rintro e w1 ⟨rfl, hb⟩; replace hB := bstep hB hb; clear hb))
  go_ret
  exact ⟨rfl, hB⟩
set_option maxHeartbeats 1000000 in
theorem tw_0_t (p x : Int) (h0 : 0 ≤ p) (h1 : p < 18446744073709551616) (h2 : 0 ≤ x) (h3 : x < 18446744073709551616) (w : World) (ht : Tab w) (k : kindOf x = 0) (ta : takesB (paiV 0 0) x = false) (tp : takesB p x = true) (kp : (kindOf p == 4) = false) :
    Calls Tryd.prog 6 #[.int .u64 p, .int .u64 x] w fun e w' => e = .returned (.bool true) ∧ Below w.heap.size w w' := by
  have H0 : Hid (0 ≤ p) := h0
  have H1 : Hid (p < 18446744073709551616) := h1
  have H2 : Hid (0 ≤ x) := h2
  have H3 : Hid (x < 18446744073709551616) := h3
  have E0 := e00
  have hB := Below.refl w.heap.size w
  clear h0 h1 h2 h3
  go_enter Tryd.func6, Tryd.ntmps6
  go_wp2_with (first
    | (go_at_call 8; refine (wakes_any _ ht).mono ?_; rintro e w1 ⟨rfl, hb⟩; replace hB := bstep hB hb; clear hb)
    | (go_at_call_has 18 x; refine (kind_any x _ H2.out H3.out).mono ?_; rintro e w1 ⟨rfl, hb⟩; replace hB := bstep hB hb; clear hb)
    | (go_at_call_has 18 p; refine (kind_any p _ H0.out H1.out).mono ?_; rintro e w1 ⟨rfl, hb⟩; replace hB := bstep hB hb; clear hb)
    | (go_at_call 11; refine (pair_any _ _ _).mono ?_; rintro e w1 ⟨rfl, hb⟩; replace hB := bstep hB hb; clear hb)
    | (go_at_call 14; refine (parts_any x _ H2.out H3.out).mono ?_; rintro e w1 ⟨rfl, hb⟩; replace hB := bstep hB hb; clear hb)
    | (go_at_call_has 20 (paiV 0 0); refine (takes_any (paiV 0 0) x _ (pai_bd _ _).1 (pai_bd _ _).2 H2.out H3.out).mono ?_; rintro e w1 ⟨rfl, hb⟩; replace hB := bstep hB hb; clear hb)
    | (go_at_call_has 20 (paiV (p1 x) 0); refine (takes_any (paiV (p1 x) 0) x _ (pai_bd _ _).1 (pai_bd _ _).2 H2.out H3.out).mono ?_; rintro e w1 ⟨rfl, hb⟩; replace hB := bstep hB hb; clear hb)
    | (go_at_call_has 20 (paiV 0 (p2 x)); refine (takes_any (paiV 0 (p2 x)) x _ (pai_bd _ _).1 (pai_bd _ _).2 H2.out H3.out).mono ?_; rintro e w1 ⟨rfl, hb⟩; replace hB := bstep hB hb; clear hb)
    | (go_at_call_has 20 (Value.int .u64 p); refine (takes_any p x _ H0.out H1.out H2.out H3.out).mono ?_; rintro e w1 ⟨rfl, hb⟩; replace hB := bstep hB hb; clear hb)
    | (go_at_call 20; refine (takes_any x x _ H2.out H3.out H2.out H3.out).mono ?_; rintro e w1 ⟨rfl, hb⟩; replace hB := bstep hB hb; clear hb))
  go_ret
  exact ⟨rfl, hB⟩
set_option maxHeartbeats 1000000 in
theorem tw_4_f (p x : Int) (h0 : 0 ≤ p) (h1 : p < 18446744073709551616) (h2 : 0 ≤ x) (h3 : x < 18446744073709551616) (w : World) (ht : Tab w) (k : kindOf x = 4) (ta : takesB (paiV 0 0) x = false) (tp : takesB p x = false) :
    Calls Tryd.prog 6 #[.int .u64 p, .int .u64 x] w fun e w' => e = .returned (.bool true) ∧ Below w.heap.size w w' := by
  have H0 : Hid (0 ≤ p) := h0
  have H1 : Hid (p < 18446744073709551616) := h1
  have H2 : Hid (0 ≤ x) := h2
  have H3 : Hid (x < 18446744073709551616) := h3
  have E0 := e00
  have hB := Below.refl w.heap.size w
  clear h0 h1 h2 h3
  go_enter Tryd.func6, Tryd.ntmps6
  go_wp2_with (first
    | (go_at_call 8; refine (wakes_any _ ht).mono ?_; rintro e w1 ⟨rfl, hb⟩; replace hB := bstep hB hb; clear hb)
    | (go_at_call_has 18 x; refine (kind_any x _ H2.out H3.out).mono ?_; rintro e w1 ⟨rfl, hb⟩; replace hB := bstep hB hb; clear hb)
    | (go_at_call_has 18 p; refine (kind_any p _ H0.out H1.out).mono ?_; rintro e w1 ⟨rfl, hb⟩; replace hB := bstep hB hb; clear hb)
    | (go_at_call 11; refine (pair_any _ _ _).mono ?_; rintro e w1 ⟨rfl, hb⟩; replace hB := bstep hB hb; clear hb)
    | (go_at_call 14; refine (parts_any x _ H2.out H3.out).mono ?_; rintro e w1 ⟨rfl, hb⟩; replace hB := bstep hB hb; clear hb)
    | (go_at_call_has 20 (paiV 0 0); refine (takes_any (paiV 0 0) x _ (pai_bd _ _).1 (pai_bd _ _).2 H2.out H3.out).mono ?_; rintro e w1 ⟨rfl, hb⟩; replace hB := bstep hB hb; clear hb)
    | (go_at_call_has 20 (paiV (p1 x) 0); refine (takes_any (paiV (p1 x) 0) x _ (pai_bd _ _).1 (pai_bd _ _).2 H2.out H3.out).mono ?_; rintro e w1 ⟨rfl, hb⟩; replace hB := bstep hB hb; clear hb)
    | (go_at_call_has 20 (paiV 0 (p2 x)); refine (takes_any (paiV 0 (p2 x)) x _ (pai_bd _ _).1 (pai_bd _ _).2 H2.out H3.out).mono ?_; rintro e w1 ⟨rfl, hb⟩; replace hB := bstep hB hb; clear hb)
    | (go_at_call_has 20 (Value.int .u64 p); refine (takes_any p x _ H0.out H1.out H2.out H3.out).mono ?_; rintro e w1 ⟨rfl, hb⟩; replace hB := bstep hB hb; clear hb)
    | (go_at_call 20; refine (takes_any x x _ H2.out H3.out H2.out H3.out).mono ?_; rintro e w1 ⟨rfl, hb⟩; replace hB := bstep hB hb; clear hb))
  go_ret
  exact ⟨rfl, hB⟩
set_option maxHeartbeats 1000000 in
theorem tw_4_t (p x : Int) (h0 : 0 ≤ p) (h1 : p < 18446744073709551616) (h2 : 0 ≤ x) (h3 : x < 18446744073709551616) (w : World) (ht : Tab w) (k : kindOf x = 4) (ta : takesB (paiV 0 0) x = false) (tp : takesB p x = true) (kp : (kindOf p == 4) = false) :
    Calls Tryd.prog 6 #[.int .u64 p, .int .u64 x] w fun e w' => e = .returned (.bool true) ∧ Below w.heap.size w w' := by
  have H0 : Hid (0 ≤ p) := h0
  have H1 : Hid (p < 18446744073709551616) := h1
  have H2 : Hid (0 ≤ x) := h2
  have H3 : Hid (x < 18446744073709551616) := h3
  have E0 := e00
  have hB := Below.refl w.heap.size w
  clear h0 h1 h2 h3
  go_enter Tryd.func6, Tryd.ntmps6
  go_wp2_with (first
    | (go_at_call 8; refine (wakes_any _ ht).mono ?_; rintro e w1 ⟨rfl, hb⟩; replace hB := bstep hB hb; clear hb)
    | (go_at_call_has 18 x; refine (kind_any x _ H2.out H3.out).mono ?_; rintro e w1 ⟨rfl, hb⟩; replace hB := bstep hB hb; clear hb)
    | (go_at_call_has 18 p; refine (kind_any p _ H0.out H1.out).mono ?_; rintro e w1 ⟨rfl, hb⟩; replace hB := bstep hB hb; clear hb)
    | (go_at_call 11; refine (pair_any _ _ _).mono ?_; rintro e w1 ⟨rfl, hb⟩; replace hB := bstep hB hb; clear hb)
    | (go_at_call 14; refine (parts_any x _ H2.out H3.out).mono ?_; rintro e w1 ⟨rfl, hb⟩; replace hB := bstep hB hb; clear hb)
    | (go_at_call_has 20 (paiV 0 0); refine (takes_any (paiV 0 0) x _ (pai_bd _ _).1 (pai_bd _ _).2 H2.out H3.out).mono ?_; rintro e w1 ⟨rfl, hb⟩; replace hB := bstep hB hb; clear hb)
    | (go_at_call_has 20 (paiV (p1 x) 0); refine (takes_any (paiV (p1 x) 0) x _ (pai_bd _ _).1 (pai_bd _ _).2 H2.out H3.out).mono ?_; rintro e w1 ⟨rfl, hb⟩; replace hB := bstep hB hb; clear hb)
    | (go_at_call_has 20 (paiV 0 (p2 x)); refine (takes_any (paiV 0 (p2 x)) x _ (pai_bd _ _).1 (pai_bd _ _).2 H2.out H3.out).mono ?_; rintro e w1 ⟨rfl, hb⟩; replace hB := bstep hB hb; clear hb)
    | (go_at_call_has 20 (Value.int .u64 p); refine (takes_any p x _ H0.out H1.out H2.out H3.out).mono ?_; rintro e w1 ⟨rfl, hb⟩; replace hB := bstep hB hb; clear hb)
    | (go_at_call 20; refine (takes_any x x _ H2.out H3.out H2.out H3.out).mono ?_; rintro e w1 ⟨rfl, hb⟩; replace hB := bstep hB hb; clear hb))
  go_ret
  exact ⟨rfl, hB⟩
set_option maxHeartbeats 1000000 in
theorem tw_1_f (p x : Int) (h0 : 0 ≤ p) (h1 : p < 18446744073709551616) (h2 : 0 ≤ x) (h3 : x < 18446744073709551616) (w : World) (ht : Tab w) (k : kindOf x = 1) (ta : takesB (paiV 0 0) x = false) (ts : takesB x x = true) (tp : takesB p x = false) :
    Calls Tryd.prog 6 #[.int .u64 p, .int .u64 x] w fun e w' => e = .returned (.bool true) ∧ Below w.heap.size w w' := by
  have H0 : Hid (0 ≤ p) := h0
  have H1 : Hid (p < 18446744073709551616) := h1
  have H2 : Hid (0 ≤ x) := h2
  have H3 : Hid (x < 18446744073709551616) := h3
  have E0 := e00
  have hB := Below.refl w.heap.size w
  clear h0 h1 h2 h3
  go_enter Tryd.func6, Tryd.ntmps6
  go_wp2_with (first
    | (go_at_call 8; refine (wakes_any _ ht).mono ?_; rintro e w1 ⟨rfl, hb⟩; replace hB := bstep hB hb; clear hb)
    | (go_at_call_has 18 x; refine (kind_any x _ H2.out H3.out).mono ?_; rintro e w1 ⟨rfl, hb⟩; replace hB := bstep hB hb; clear hb)
    | (go_at_call_has 18 p; refine (kind_any p _ H0.out H1.out).mono ?_; rintro e w1 ⟨rfl, hb⟩; replace hB := bstep hB hb; clear hb)
    | (go_at_call 11; refine (pair_any _ _ _).mono ?_; rintro e w1 ⟨rfl, hb⟩; replace hB := bstep hB hb; clear hb)
    | (go_at_call 14; refine (parts_any x _ H2.out H3.out).mono ?_; rintro e w1 ⟨rfl, hb⟩; replace hB := bstep hB hb; clear hb)
    | (go_at_call_has 20 (paiV 0 0); refine (takes_any (paiV 0 0) x _ (pai_bd _ _).1 (pai_bd _ _).2 H2.out H3.out).mono ?_; rintro e w1 ⟨rfl, hb⟩; replace hB := bstep hB hb; clear hb)
    | (go_at_call_has 20 (paiV (p1 x) 0); refine (takes_any (paiV (p1 x) 0) x _ (pai_bd _ _).1 (pai_bd _ _).2 H2.out H3.out).mono ?_; rintro e w1 ⟨rfl, hb⟩; replace hB := bstep hB hb; clear hb)
    | (go_at_call_has 20 (paiV 0 (p2 x)); refine (takes_any (paiV 0 (p2 x)) x _ (pai_bd _ _).1 (pai_bd _ _).2 H2.out H3.out).mono ?_; rintro e w1 ⟨rfl, hb⟩; replace hB := bstep hB hb; clear hb)
    | (go_at_call_has 20 (Value.int .u64 p); refine (takes_any p x _ H0.out H1.out H2.out H3.out).mono ?_; rintro e w1 ⟨rfl, hb⟩; replace hB := bstep hB hb; clear hb)
    | (go_at_call 20; refine (takes_any x x _ H2.out H3.out H2.out H3.out).mono ?_; rintro e w1 ⟨rfl, hb⟩; replace hB := bstep hB hb; clear hb))
  go_ret
  exact ⟨rfl, hB⟩
set_option maxHeartbeats 1000000 in
theorem tw_1_t (p x : Int) (h0 : 0 ≤ p) (h1 : p < 18446744073709551616) (h2 : 0 ≤ x) (h3 : x < 18446744073709551616) (w : World) (ht : Tab w) (k : kindOf x = 1) (ta : takesB (paiV 0 0) x = false) (ts : takesB x x = true) (tp : takesB p x = true) (kp : (kindOf p == 4) = false) :
    Calls Tryd.prog 6 #[.int .u64 p, .int .u64 x] w fun e w' => e = .returned (.bool true) ∧ Below w.heap.size w w' := by
  have H0 : Hid (0 ≤ p) := h0
  have H1 : Hid (p < 18446744073709551616) := h1
  have H2 : Hid (0 ≤ x) := h2
  have H3 : Hid (x < 18446744073709551616) := h3
  have E0 := e00
  have hB := Below.refl w.heap.size w
  clear h0 h1 h2 h3
  go_enter Tryd.func6, Tryd.ntmps6
  go_wp2_with (first
    | (go_at_call 8; refine (wakes_any _ ht).mono ?_; rintro e w1 ⟨rfl, hb⟩; replace hB := bstep hB hb; clear hb)
    | (go_at_call_has 18 x; refine (kind_any x _ H2.out H3.out).mono ?_; rintro e w1 ⟨rfl, hb⟩; replace hB := bstep hB hb; clear hb)
    | (go_at_call_has 18 p; refine (kind_any p _ H0.out H1.out).mono ?_; rintro e w1 ⟨rfl, hb⟩; replace hB := bstep hB hb; clear hb)
    | (go_at_call 11; refine (pair_any _ _ _).mono ?_; rintro e w1 ⟨rfl, hb⟩; replace hB := bstep hB hb; clear hb)
    | (go_at_call 14; refine (parts_any x _ H2.out H3.out).mono ?_; rintro e w1 ⟨rfl, hb⟩; replace hB := bstep hB hb; clear hb)
    | (go_at_call_has 20 (paiV 0 0); refine (takes_any (paiV 0 0) x _ (pai_bd _ _).1 (pai_bd _ _).2 H2.out H3.out).mono ?_; rintro e w1 ⟨rfl, hb⟩; replace hB := bstep hB hb; clear hb)
    | (go_at_call_has 20 (paiV (p1 x) 0); refine (takes_any (paiV (p1 x) 0) x _ (pai_bd _ _).1 (pai_bd _ _).2 H2.out H3.out).mono ?_; rintro e w1 ⟨rfl, hb⟩; replace hB := bstep hB hb; clear hb)
    | (go_at_call_has 20 (paiV 0 (p2 x)); refine (takes_any (paiV 0 (p2 x)) x _ (pai_bd _ _).1 (pai_bd _ _).2 H2.out H3.out).mono ?_; rintro e w1 ⟨rfl, hb⟩; replace hB := bstep hB hb; clear hb)
    | (go_at_call_has 20 (Value.int .u64 p); refine (takes_any p x _ H0.out H1.out H2.out H3.out).mono ?_; rintro e w1 ⟨rfl, hb⟩; replace hB := bstep hB hb; clear hb)
    | (go_at_call 20; refine (takes_any x x _ H2.out H3.out H2.out H3.out).mono ?_; rintro e w1 ⟨rfl, hb⟩; replace hB := bstep hB hb; clear hb))
  go_ret
  exact ⟨rfl, hB⟩
set_option maxHeartbeats 1000000 in
theorem tw_2_f (p x : Int) (h0 : 0 ≤ p) (h1 : p < 18446744073709551616) (h2 : 0 ≤ x) (h3 : x < 18446744073709551616) (w : World) (ht : Tab w) (k : kindOf x = 2) (ta : takesB (paiV 0 0) x = false) (ts : takesB x x = true) (tp : takesB p x = false) :
    Calls Tryd.prog 6 #[.int .u64 p, .int .u64 x] w fun e w' => e = .returned (.bool true) ∧ Below w.heap.size w w' := by
  have H0 : Hid (0 ≤ p) := h0
  have H1 : Hid (p < 18446744073709551616) := h1
  have H2 : Hid (0 ≤ x) := h2
  have H3 : Hid (x < 18446744073709551616) := h3
  have E0 := e00
  have hB := Below.refl w.heap.size w
  clear h0 h1 h2 h3
  go_enter Tryd.func6, Tryd.ntmps6
  go_wp2_with (first
    | (go_at_call 8; refine (wakes_any _ ht).mono ?_; rintro e w1 ⟨rfl, hb⟩; replace hB := bstep hB hb; clear hb)
    | (go_at_call_has 18 x; refine (kind_any x _ H2.out H3.out).mono ?_; rintro e w1 ⟨rfl, hb⟩; replace hB := bstep hB hb; clear hb)
    | (go_at_call_has 18 p; refine (kind_any p _ H0.out H1.out).mono ?_; rintro e w1 ⟨rfl, hb⟩; replace hB := bstep hB hb; clear hb)
    | (go_at_call 11; refine (pair_any _ _ _).mono ?_; rintro e w1 ⟨rfl, hb⟩; replace hB := bstep hB hb; clear hb)
    | (go_at_call 14; refine (parts_any x _ H2.out H3.out).mono ?_; rintro e w1 ⟨rfl, hb⟩; replace hB := bstep hB hb; clear hb)
    | (go_at_call_has 20 (paiV 0 0); refine (takes_any (paiV 0 0) x _ (pai_bd _ _).1 (pai_bd _ _).2 H2.out H3.out).mono ?_; rintro e w1 ⟨rfl, hb⟩; replace hB := bstep hB hb; clear hb)
    | (go_at_call_has 20 (paiV (p1 x) 0); refine (takes_any (paiV (p1 x) 0) x _ (pai_bd _ _).1 (pai_bd _ _).2 H2.out H3.out).mono ?_; rintro e w1 ⟨rfl, hb⟩; replace hB := bstep hB hb; clear hb)
    | (go_at_call_has 20 (paiV 0 (p2 x)); refine (takes_any (paiV 0 (p2 x)) x _ (pai_bd _ _).1 (pai_bd _ _).2 H2.out H3.out).mono ?_; rintro e w1 ⟨rfl, hb⟩; replace hB := bstep hB hb; clear hb)
    | (go_at_call_has 20 (Value.int .u64 p); refine (takes_any p x _ H0.out H1.out H2.out H3.out).mono ?_; rintro e w1 ⟨rfl, hb⟩; replace hB := bstep hB hb; clear hb)
    | (go_at_call 20; refine (takes_any x x _ H2.out H3.out H2.out H3.out).mono ?_; rintro e w1 ⟨rfl, hb⟩; replace hB := bstep hB hb; clear hb))
  go_ret
  exact ⟨rfl, hB⟩
set_option maxHeartbeats 1000000 in
theorem tw_2_t (p x : Int) (h0 : 0 ≤ p) (h1 : p < 18446744073709551616) (h2 : 0 ≤ x) (h3 : x < 18446744073709551616) (w : World) (ht : Tab w) (k : kindOf x = 2) (ta : takesB (paiV 0 0) x = false) (ts : takesB x x = true) (tp : takesB p x = true) (kp : (kindOf p == 4) = false) :
    Calls Tryd.prog 6 #[.int .u64 p, .int .u64 x] w fun e w' => e = .returned (.bool true) ∧ Below w.heap.size w w' := by
  have H0 : Hid (0 ≤ p) := h0
  have H1 : Hid (p < 18446744073709551616) := h1
  have H2 : Hid (0 ≤ x) := h2
  have H3 : Hid (x < 18446744073709551616) := h3
  have E0 := e00
  have hB := Below.refl w.heap.size w
  clear h0 h1 h2 h3
  go_enter Tryd.func6, Tryd.ntmps6
  go_wp2_with (first
    | (go_at_call 8; refine (wakes_any _ ht).mono ?_; rintro e w1 ⟨rfl, hb⟩; replace hB := bstep hB hb; clear hb)
    | (go_at_call_has 18 x; refine (kind_any x _ H2.out H3.out).mono ?_; rintro e w1 ⟨rfl, hb⟩; replace hB := bstep hB hb; clear hb)
    | (go_at_call_has 18 p; refine (kind_any p _ H0.out H1.out).mono ?_; rintro e w1 ⟨rfl, hb⟩; replace hB := bstep hB hb; clear hb)
    | (go_at_call 11; refine (pair_any _ _ _).mono ?_; rintro e w1 ⟨rfl, hb⟩; replace hB := bstep hB hb; clear hb)
    | (go_at_call 14; refine (parts_any x _ H2.out H3.out).mono ?_; rintro e w1 ⟨rfl, hb⟩; replace hB := bstep hB hb; clear hb)
    | (go_at_call_has 20 (paiV 0 0); refine (takes_any (paiV 0 0) x _ (pai_bd _ _).1 (pai_bd _ _).2 H2.out H3.out).mono ?_; rintro e w1 ⟨rfl, hb⟩; replace hB := bstep hB hb; clear hb)
    | (go_at_call_has 20 (paiV (p1 x) 0); refine (takes_any (paiV (p1 x) 0) x _ (pai_bd _ _).1 (pai_bd _ _).2 H2.out H3.out).mono ?_; rintro e w1 ⟨rfl, hb⟩; replace hB := bstep hB hb; clear hb)
    | (go_at_call_has 20 (paiV 0 (p2 x)); refine (takes_any (paiV 0 (p2 x)) x _ (pai_bd _ _).1 (pai_bd _ _).2 H2.out H3.out).mono ?_; rintro e w1 ⟨rfl, hb⟩; replace hB := bstep hB hb; clear hb)
    | (go_at_call_has 20 (Value.int .u64 p); refine (takes_any p x _ H0.out H1.out H2.out H3.out).mono ?_; rintro e w1 ⟨rfl, hb⟩; replace hB := bstep hB hb; clear hb)
    | (go_at_call 20; refine (takes_any x x _ H2.out H3.out H2.out H3.out).mono ?_; rintro e w1 ⟨rfl, hb⟩; replace hB := bstep hB hb; clear hb))
  go_ret
  exact ⟨rfl, hB⟩
set_option maxHeartbeats 1000000 in
theorem tw_3_f (p x : Int) (h0 : 0 ≤ p) (h1 : p < 18446744073709551616) (h2 : 0 ≤ x) (h3 : x < 18446744073709551616) (w : World) (ht : Tab w) (k : kindOf x = 3) (ta : takesB (paiV 0 0) x = true) (ts : takesB x x = true) (ta1 : takesB (paiV (p1 x) 0) x = true) (ea1 : paiE (p1 x) 0 = 0) (tb1 : takesB (paiV 0 (p2 x)) x = true) (eb1 : paiE 0 (p2 x) = 0) (tp : takesB p x = false) :
    Calls Tryd.prog 6 #[.int .u64 p, .int .u64 x] w fun e w' => e = .returned (.bool true) ∧ Below w.heap.size w w' := by
  have H0 : Hid (0 ≤ p) := h0
  have H1 : Hid (p < 18446744073709551616) := h1
  have H2 : Hid (0 ≤ x) := h2
  have H3 : Hid (x < 18446744073709551616) := h3
  have E0 := e00
  have hB := Below.refl w.heap.size w
  clear h0 h1 h2 h3
  go_enter Tryd.func6, Tryd.ntmps6
  go_wp2_with (first
    | (go_at_call 8; refine (wakes_any _ ht).mono ?_; rintro e w1 ⟨rfl, hb⟩; replace hB := bstep hB hb; clear hb)
    | (go_at_call_has 18 x; refine (kind_any x _ H2.out H3.out).mono ?_; rintro e w1 ⟨rfl, hb⟩; replace hB := bstep hB hb; clear hb)
    | (go_at_call_has 18 p; refine (kind_any p _ H0.out H1.out).mono ?_; rintro e w1 ⟨rfl, hb⟩; replace hB := bstep hB hb; clear hb)
    | (go_at_call 11; refine (pair_any _ _ _).mono ?_; rintro e w1 ⟨rfl, hb⟩; replace hB := bstep hB hb; clear hb)
    | (go_at_call 14; refine (parts_any x _ H2.out H3.out).mono ?_; rintro e w1 ⟨rfl, hb⟩; replace hB := bstep hB hb; clear hb)
    | (go_at_call_has 20 (paiV 0 0); refine (takes_any (paiV 0 0) x _ (pai_bd _ _).1 (pai_bd _ _).2 H2.out H3.out).mono ?_; rintro e w1 ⟨rfl, hb⟩; replace hB := bstep hB hb; clear hb)
    | (go_at_call_has 20 (paiV (p1 x) 0); refine (takes_any (paiV (p1 x) 0) x _ (pai_bd _ _).1 (pai_bd _ _).2 H2.out H3.out).mono ?_; rintro e w1 ⟨rfl, hb⟩; replace hB := bstep hB hb; clear hb)
    | (go_at_call_has 20 (paiV 0 (p2 x)); refine (takes_any (paiV 0 (p2 x)) x _ (pai_bd _ _).1 (pai_bd _ _).2 H2.out H3.out).mono ?_; rintro e w1 ⟨rfl, hb⟩; replace hB := bstep hB hb; clear hb)
    | (go_at_call_has 20 (Value.int .u64 p); refine (takes_any p x _ H0.out H1.out H2.out H3.out).mono ?_; rintro e w1 ⟨rfl, hb⟩; replace hB := bstep hB hb; clear hb)
    | (go_at_call 20; refine (takes_any x x _ H2.out H3.out H2.out H3.out).mono ?_; rintro e w1 ⟨rfl, hb⟩; replace hB := bstep hB hb; clear hb))
  go_ret
  exact ⟨rfl, hB⟩
set_option maxHeartbeats 1000000 in
theorem tw_3_tf (p x : Int) (h0 : 0 ≤ p) (h1 : p < 18446744073709551616) (h2 : 0 ≤ x) (h3 : x < 18446744073709551616) (w : World) (ht : Tab w) (k : kindOf x = 3) (ta : takesB (paiV 0 0) x = true) (ts : takesB x x = true) (ta1 : takesB (paiV (p1 x) 0) x = true) (ea1 : paiE (p1 x) 0 = 0) (tb1 : takesB (paiV 0 (p2 x)) x = true) (eb1 : paiE 0 (p2 x) = 0) (tp : takesB p x = true) (kp : (kindOf p == 4) = false) :
    Calls Tryd.prog 6 #[.int .u64 p, .int .u64 x] w fun e w' => e = .returned (.bool true) ∧ Below w.heap.size w w' := by
  have H0 : Hid (0 ≤ p) := h0
  have H1 : Hid (p < 18446744073709551616) := h1
  have H2 : Hid (0 ≤ x) := h2
  have H3 : Hid (x < 18446744073709551616) := h3
  have E0 := e00
  have hB := Below.refl w.heap.size w
  clear h0 h1 h2 h3
  go_enter Tryd.func6, Tryd.ntmps6
  go_wp2_with (first
    | (go_at_call 8; refine (wakes_any _ ht).mono ?_; rintro e w1 ⟨rfl, hb⟩; replace hB := bstep hB hb; clear hb)
    | (go_at_call_has 18 x; refine (kind_any x _ H2.out H3.out).mono ?_; rintro e w1 ⟨rfl, hb⟩; replace hB := bstep hB hb; clear hb)
    | (go_at_call_has 18 p; refine (kind_any p _ H0.out H1.out).mono ?_; rintro e w1 ⟨rfl, hb⟩; replace hB := bstep hB hb; clear hb)
    | (go_at_call 11; refine (pair_any _ _ _).mono ?_; rintro e w1 ⟨rfl, hb⟩; replace hB := bstep hB hb; clear hb)
    | (go_at_call 14; refine (parts_any x _ H2.out H3.out).mono ?_; rintro e w1 ⟨rfl, hb⟩; replace hB := bstep hB hb; clear hb)
    | (go_at_call_has 20 (paiV 0 0); refine (takes_any (paiV 0 0) x _ (pai_bd _ _).1 (pai_bd _ _).2 H2.out H3.out).mono ?_; rintro e w1 ⟨rfl, hb⟩; replace hB := bstep hB hb; clear hb)
    | (go_at_call_has 20 (paiV (p1 x) 0); refine (takes_any (paiV (p1 x) 0) x _ (pai_bd _ _).1 (pai_bd _ _).2 H2.out H3.out).mono ?_; rintro e w1 ⟨rfl, hb⟩; replace hB := bstep hB hb; clear hb)
    | (go_at_call_has 20 (paiV 0 (p2 x)); refine (takes_any (paiV 0 (p2 x)) x _ (pai_bd _ _).1 (pai_bd _ _).2 H2.out H3.out).mono ?_; rintro e w1 ⟨rfl, hb⟩; replace hB := bstep hB hb; clear hb)
    | (go_at_call_has 20 (Value.int .u64 p); refine (takes_any p x _ H0.out H1.out H2.out H3.out).mono ?_; rintro e w1 ⟨rfl, hb⟩; replace hB := bstep hB hb; clear hb)
    | (go_at_call 20; refine (takes_any x x _ H2.out H3.out H2.out H3.out).mono ?_; rintro e w1 ⟨rfl, hb⟩; replace hB := bstep hB hb; clear hb))
  go_ret
  exact ⟨rfl, hB⟩
set_option maxHeartbeats 1000000 in
theorem tw_3_tt (p x : Int) (h0 : 0 ≤ p) (h1 : p < 18446744073709551616) (h2 : 0 ≤ x) (h3 : x < 18446744073709551616) (w : World) (ht : Tab w) (k : kindOf x = 3) (ta : takesB (paiV 0 0) x = true) (ts : takesB x x = true) (ta1 : takesB (paiV (p1 x) 0) x = true) (ea1 : paiE (p1 x) 0 = 0) (tb1 : takesB (paiV 0 (p2 x)) x = true) (eb1 : paiE 0 (p2 x) = 0) (tp : takesB p x = true) (kp : (kindOf p == 4) = true) :
    Calls Tryd.prog 6 #[.int .u64 p, .int .u64 x] w fun e w' => e = .returned (.bool true) ∧ Below w.heap.size w w' := by
  have H0 : Hid (0 ≤ p) := h0
  have H1 : Hid (p < 18446744073709551616) := h1
  have H2 : Hid (0 ≤ x) := h2
  have H3 : Hid (x < 18446744073709551616) := h3
  have E0 := e00
  have hB := Below.refl w.heap.size w
  clear h0 h1 h2 h3
  go_enter Tryd.func6, Tryd.ntmps6
  go_wp2_with (first
    | (go_at_call 8; refine (wakes_any _ ht).mono ?_; rintro e w1 ⟨rfl, hb⟩; replace hB := bstep hB hb; clear hb)
    | (go_at_call_has 18 x; refine (kind_any x _ H2.out H3.out).mono ?_; rintro e w1 ⟨rfl, hb⟩; replace hB := bstep hB hb; clear hb)
    | (go_at_call_has 18 p; refine (kind_any p _ H0.out H1.out).mono ?_; rintro e w1 ⟨rfl, hb⟩; replace hB := bstep hB hb; clear hb)
    | (go_at_call 11; refine (pair_any _ _ _).mono ?_; rintro e w1 ⟨rfl, hb⟩; replace hB := bstep hB hb; clear hb)
    | (go_at_call 14; refine (parts_any x _ H2.out H3.out).mono ?_; rintro e w1 ⟨rfl, hb⟩; replace hB := bstep hB hb; clear hb)
    | (go_at_call_has 20 (paiV 0 0); refine (takes_any (paiV 0 0) x _ (pai_bd _ _).1 (pai_bd _ _).2 H2.out H3.out).mono ?_; rintro e w1 ⟨rfl, hb⟩; replace hB := bstep hB hb; clear hb)
    | (go_at_call_has 20 (paiV (p1 x) 0); refine (takes_any (paiV (p1 x) 0) x _ (pai_bd _ _).1 (pai_bd _ _).2 H2.out H3.out).mono ?_; rintro e w1 ⟨rfl, hb⟩; replace hB := bstep hB hb; clear hb)
    | (go_at_call_has 20 (paiV 0 (p2 x)); refine (takes_any (paiV 0 (p2 x)) x _ (pai_bd _ _).1 (pai_bd _ _).2 H2.out H3.out).mono ?_; rintro e w1 ⟨rfl, hb⟩; replace hB := bstep hB hb; clear hb)
    | (go_at_call_has 20 (Value.int .u64 p); refine (takes_any p x _ H0.out H1.out H2.out H3.out).mono ?_; rintro e w1 ⟨rfl, hb⟩; replace hB := bstep hB hb; clear hb)
    | (go_at_call 20; refine (takes_any x x _ H2.out H3.out H2.out H3.out).mono ?_; rintro e w1 ⟨rfl, hb⟩; replace hB := bstep hB hb; clear hb))
  go_ret
  exact ⟨rfl, hB⟩
theorem takesWalk (p x : Int) (h0 : 0 ≤ p) (h1 : p < 18446744073709551616) (h2 : 0 ≤ x) (h3 : x < 18446744073709551616) (w : World) (ht : Tab w) :
    Calls Tryd.prog 6 #[.int .u64 p, .int .u64 x] w fun e w' => e = .returned (.bool true) ∧ Below w.heap.size w w' := by
  have np : takesB p x = true → kindOf x ≠ 3 → (kindOf p == 4) = false := by
    intro tp hx
    rw [beq_eq_false_iff_ne]; intro hp; exact hx (t_pat hp tp)
  have ta := t_all x
  rcases kind_cases x with k | k | k | k | k
  · rw [k] at ta
    cases tp : takesB p x
    · exact tw_other_f p x h0 h1 h2 h3 w ht k ta tp
    · exact tw_0_t p x h0 h1 h2 h3 w ht k ta tp (np tp (by omega))
  · rw [k] at ta
    have ts := t_self (x := x) (by omega) (by omega)
    cases tp : takesB p x
    · exact tw_1_f p x h0 h1 h2 h3 w ht k ta ts tp
    · exact tw_1_t p x h0 h1 h2 h3 w ht k ta ts tp (np tp (by omega))
  · rw [k] at ta
    have ts := t_self (x := x) (by omega) (by omega)
    cases tp : takesB p x
    · exact tw_2_f p x h0 h1 h2 h3 w ht k ta ts tp
    · exact tw_2_t p x h0 h1 h2 h3 w ht k ta ts tp (np tp (by omega))
  · rw [k] at ta
    have ts := t_self (x := x) (by omega) (by omega)
    obtain ⟨a1, a2, a3, a4⟩ := t_a k
    cases tp : takesB p x
    · exact tw_3_f p x h0 h1 h2 h3 w ht k ta ts a1 a2 a3 a4 tp
    · cases kp : (kindOf p == 4)
      · exact tw_3_tf p x h0 h1 h2 h3 w ht k ta ts a1 a2 a3 a4 tp kp
      · exact tw_3_tt p x h0 h1 h2 h3 w ht k ta ts a1 a2 a3 a4 tp kp
  · rw [k] at ta
    cases tp : takesB p x
    · exact tw_4_f p x h0 h1 h2 h3 w ht k ta tp
    · exact tw_4_t p x h0 h1 h2 h3 w ht k ta tp (np tp (by omega))
end Go.Proofs.YtpamgcmjhfojeaaDoor
