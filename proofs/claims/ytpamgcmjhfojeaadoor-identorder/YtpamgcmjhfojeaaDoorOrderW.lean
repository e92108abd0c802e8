/- The walk of IdentOrder: it returns true, whatever the two ids, where the table of powers of ten is laid. -/
import Derived.Test.YtpamgcmjhfojeaaDoorIdL
namespace Go.Proofs.YtpamgcmjhfojeaaDoor
open Go.RowKit

set_option maxHeartbeats 1000000 in
theorem ord_x0 (x y : Int) (h0 : 0 ≤ x) (h1 : x < 18446744073709551616) (h2 : 0 ≤ y) (h3 : y < 18446744073709551616) (w : World) (ht : Tab w) (kx : kindOf x = 0) :
    Calls Tryd.prog 7 #[.int .u64 x, .int .u64 y] w fun e w' => e = .returned (.bool true) ∧ Below w.heap.size w w' := by
  have H0 : Hid (0 ≤ x) := h0
  have H1 : Hid (x < 18446744073709551616) := h1
  have H2 : Hid (0 ≤ y) := h2
  have H3 : Hid (y < 18446744073709551616) := h3
  have hB := Below.refl w.heap.size w
  clear h0 h1 h2 h3
  go_enter Tryd.func7, Tryd.ntmps7
  go_wp2_with (first
    | (go_at_call 8; refine (wakes_any _ ht).mono ?_; rintro e w1 ⟨rfl, hb⟩; replace hB := bstep hB hb; clear hb)
    | (go_at_call_has 18 x; refine (kind_any x _ H0.out H1.out).mono ?_; rintro e w1 ⟨rfl, hb⟩; replace hB := bstep hB hb; clear hb)
    | (go_at_call_has 18 y; refine (kind_any y _ H2.out H3.out).mono ?_; rintro e w1 ⟨rfl, hb⟩; replace hB := bstep hB hb; clear hb)
    | (go_at_call_has 16 x; refine (text_any x _ (ht.below hB) H0.out H1.out).mono ?_; rintro e w1 ⟨rfl, hb⟩; replace hB := bstep hB hb; clear hb)
    | (go_at_call_has 16 y; refine (text_any y _ (ht.below hB) H2.out H3.out).mono ?_; rintro e w1 ⟨rfl, hb⟩; replace hB := bstep hB hb; clear hb)
    | (go_at_call_has 14 x; refine (parts_any x _ H0.out H1.out).mono ?_; rintro e w1 ⟨rfl, hb⟩; replace hB := bstep hB hb; clear hb)
    | (go_at_call_has 14 y; refine (parts_any y _ H2.out H3.out).mono ?_; rintro e w1 ⟨rfl, hb⟩; replace hB := bstep hB hb; clear hb))
  go_ret
  exact ⟨by first | rfl | exact congrArg (fun b => Ending.returned (Value.bool b)) (show _ = true by first | (simp; omega) | (have a1 : ¬ x < y := (by omega); have a2 : ¬ p1 x < p1 y := (by omega); have a3 : ¬ p2 x < p2 y := (by omega); simp [a1, a2, a3])), hB⟩
set_option maxHeartbeats 1000000 in
theorem ord_y0 (x y : Int) (h0 : 0 ≤ x) (h1 : x < 18446744073709551616) (h2 : 0 ≤ y) (h3 : y < 18446744073709551616) (w : World) (ht : Tab w) (kx : (kindOf x == 0) = false) (ky : kindOf y = 0) :
    Calls Tryd.prog 7 #[.int .u64 x, .int .u64 y] w fun e w' => e = .returned (.bool true) ∧ Below w.heap.size w w' := by
  have H0 : Hid (0 ≤ x) := h0
  have H1 : Hid (x < 18446744073709551616) := h1
  have H2 : Hid (0 ≤ y) := h2
  have H3 : Hid (y < 18446744073709551616) := h3
  have hB := Below.refl w.heap.size w
  clear h0 h1 h2 h3
  go_enter Tryd.func7, Tryd.ntmps7
  go_wp2_with (first
    | (go_at_call 8; refine (wakes_any _ ht).mono ?_; rintro e w1 ⟨rfl, hb⟩; replace hB := bstep hB hb; clear hb)
    | (go_at_call_has 18 x; refine (kind_any x _ H0.out H1.out).mono ?_; rintro e w1 ⟨rfl, hb⟩; replace hB := bstep hB hb; clear hb)
    | (go_at_call_has 18 y; refine (kind_any y _ H2.out H3.out).mono ?_; rintro e w1 ⟨rfl, hb⟩; replace hB := bstep hB hb; clear hb)
    | (go_at_call_has 16 x; refine (text_any x _ (ht.below hB) H0.out H1.out).mono ?_; rintro e w1 ⟨rfl, hb⟩; replace hB := bstep hB hb; clear hb)
    | (go_at_call_has 16 y; refine (text_any y _ (ht.below hB) H2.out H3.out).mono ?_; rintro e w1 ⟨rfl, hb⟩; replace hB := bstep hB hb; clear hb)
    | (go_at_call_has 14 x; refine (parts_any x _ H0.out H1.out).mono ?_; rintro e w1 ⟨rfl, hb⟩; replace hB := bstep hB hb; clear hb)
    | (go_at_call_has 14 y; refine (parts_any y _ H2.out H3.out).mono ?_; rintro e w1 ⟨rfl, hb⟩; replace hB := bstep hB hb; clear hb))
  go_ret
  exact ⟨by first | rfl | exact congrArg (fun b => Ending.returned (Value.bool b)) (show _ = true by first | (simp; omega) | (have a1 : ¬ x < y := (by omega); have a2 : ¬ p1 x < p1 y := (by omega); have a3 : ¬ p2 x < p2 y := (by omega); simp [a1, a2, a3])), hB⟩
set_option maxHeartbeats 1000000 in
theorem ord_11_lt (x y : Int) (h0 : 0 ≤ x) (h1 : x < 18446744073709551616) (h2 : 0 ≤ y) (h3 : y < 18446744073709551616) (w : World) (ht : Tab w) (kx : kindOf x = 1) (ky : kindOf y = 1) (tx : textE x = 0) (ty : textE y = 0) (hs : ((textOf x).toList == (textOf y).toList) = false) (hxy : (x == y) = false) (hlt : x < y) (hu : p2 x < p2 y) :
    Calls Tryd.prog 7 #[.int .u64 x, .int .u64 y] w fun e w' => e = .returned (.bool true) ∧ Below w.heap.size w w' := by
  have H0 : Hid (0 ≤ x) := h0
  have H1 : Hid (x < 18446744073709551616) := h1
  have H2 : Hid (0 ≤ y) := h2
  have H3 : Hid (y < 18446744073709551616) := h3
  have hB := Below.refl w.heap.size w
  clear h0 h1 h2 h3
  go_enter Tryd.func7, Tryd.ntmps7
  go_wp2_with (first
    | (go_at_call 8; refine (wakes_any _ ht).mono ?_; rintro e w1 ⟨rfl, hb⟩; replace hB := bstep hB hb; clear hb)
    | (go_at_call_has 18 x; refine (kind_any x _ H0.out H1.out).mono ?_; rintro e w1 ⟨rfl, hb⟩; replace hB := bstep hB hb; clear hb)
    | (go_at_call_has 18 y; refine (kind_any y _ H2.out H3.out).mono ?_; rintro e w1 ⟨rfl, hb⟩; replace hB := bstep hB hb; clear hb)
    | (go_at_call_has 16 x; refine (text_any x _ (ht.below hB) H0.out H1.out).mono ?_; rintro e w1 ⟨rfl, hb⟩; replace hB := bstep hB hb; clear hb)
    | (go_at_call_has 16 y; refine (text_any y _ (ht.below hB) H2.out H3.out).mono ?_; rintro e w1 ⟨rfl, hb⟩; replace hB := bstep hB hb; clear hb)
    | (go_at_call_has 14 x; refine (parts_any x _ H0.out H1.out).mono ?_; rintro e w1 ⟨rfl, hb⟩; replace hB := bstep hB hb; clear hb)
    | (go_at_call_has 14 y; refine (parts_any y _ H2.out H3.out).mono ?_; rintro e w1 ⟨rfl, hb⟩; replace hB := bstep hB hb; clear hb))
  go_ret
  exact ⟨by first | rfl | exact congrArg (fun b => Ending.returned (Value.bool b)) (show _ = true by first | (simp; omega) | (have a1 : ¬ x < y := (by omega); have a2 : ¬ p1 x < p1 y := (by omega); have a3 : ¬ p2 x < p2 y := (by omega); simp [a1, a2, a3])), hB⟩
set_option maxHeartbeats 1000000 in
theorem ord_11_gt (x y : Int) (h0 : 0 ≤ x) (h1 : x < 18446744073709551616) (h2 : 0 ≤ y) (h3 : y < 18446744073709551616) (w : World) (ht : Tab w) (kx : kindOf x = 1) (ky : kindOf y = 1) (tx : textE x = 0) (ty : textE y = 0) (hs : ((textOf x).toList == (textOf y).toList) = false) (hxy : (x == y) = false) (hlt : ¬ x < y) (hu : ¬ p2 x < p2 y) (hv : (p2 x == p2 y) = false) :
    Calls Tryd.prog 7 #[.int .u64 x, .int .u64 y] w fun e w' => e = .returned (.bool true) ∧ Below w.heap.size w w' := by
  have H0 : Hid (0 ≤ x) := h0
  have H1 : Hid (x < 18446744073709551616) := h1
  have H2 : Hid (0 ≤ y) := h2
  have H3 : Hid (y < 18446744073709551616) := h3
  have hB := Below.refl w.heap.size w
  clear h0 h1 h2 h3
  go_enter Tryd.func7, Tryd.ntmps7
  go_wp2_with (first
    | (go_at_call 8; refine (wakes_any _ ht).mono ?_; rintro e w1 ⟨rfl, hb⟩; replace hB := bstep hB hb; clear hb)
    | (go_at_call_has 18 x; refine (kind_any x _ H0.out H1.out).mono ?_; rintro e w1 ⟨rfl, hb⟩; replace hB := bstep hB hb; clear hb)
    | (go_at_call_has 18 y; refine (kind_any y _ H2.out H3.out).mono ?_; rintro e w1 ⟨rfl, hb⟩; replace hB := bstep hB hb; clear hb)
    | (go_at_call_has 16 x; refine (text_any x _ (ht.below hB) H0.out H1.out).mono ?_; rintro e w1 ⟨rfl, hb⟩; replace hB := bstep hB hb; clear hb)
    | (go_at_call_has 16 y; refine (text_any y _ (ht.below hB) H2.out H3.out).mono ?_; rintro e w1 ⟨rfl, hb⟩; replace hB := bstep hB hb; clear hb)
    | (go_at_call_has 14 x; refine (parts_any x _ H0.out H1.out).mono ?_; rintro e w1 ⟨rfl, hb⟩; replace hB := bstep hB hb; clear hb)
    | (go_at_call_has 14 y; refine (parts_any y _ H2.out H3.out).mono ?_; rintro e w1 ⟨rfl, hb⟩; replace hB := bstep hB hb; clear hb))
  go_ret
  exact ⟨by first | rfl | exact congrArg (fun b => Ending.returned (Value.bool b)) (show _ = true by first | (simp; omega) | (have a1 : ¬ x < y := (by omega); have a2 : ¬ p1 x < p1 y := (by omega); have a3 : ¬ p2 x < p2 y := (by omega); simp [a1, a2, a3])), hB⟩
set_option maxHeartbeats 1000000 in
theorem ord_11_eql (x y : Int) (h0 : 0 ≤ x) (h1 : x < 18446744073709551616) (h2 : 0 ≤ y) (h3 : y < 18446744073709551616) (w : World) (ht : Tab w) (kx : kindOf x = 1) (ky : kindOf y = 1) (tx : textE x = 0) (ty : textE y = 0) (hs : ((textOf x).toList == (textOf y).toList) = false) (hxy : (x == y) = false) (hlt : x < y) (hu : ¬ p2 x < p2 y) (hv : (p2 x == p2 y) = true) (hw : p1 x < p1 y) :
    Calls Tryd.prog 7 #[.int .u64 x, .int .u64 y] w fun e w' => e = .returned (.bool true) ∧ Below w.heap.size w w' := by
  have H0 : Hid (0 ≤ x) := h0
  have H1 : Hid (x < 18446744073709551616) := h1
  have H2 : Hid (0 ≤ y) := h2
  have H3 : Hid (y < 18446744073709551616) := h3
  have hB := Below.refl w.heap.size w
  clear h0 h1 h2 h3
  go_enter Tryd.func7, Tryd.ntmps7
  go_wp2_with (first
    | (go_at_call 8; refine (wakes_any _ ht).mono ?_; rintro e w1 ⟨rfl, hb⟩; replace hB := bstep hB hb; clear hb)
    | (go_at_call_has 18 x; refine (kind_any x _ H0.out H1.out).mono ?_; rintro e w1 ⟨rfl, hb⟩; replace hB := bstep hB hb; clear hb)
    | (go_at_call_has 18 y; refine (kind_any y _ H2.out H3.out).mono ?_; rintro e w1 ⟨rfl, hb⟩; replace hB := bstep hB hb; clear hb)
    | (go_at_call_has 16 x; refine (text_any x _ (ht.below hB) H0.out H1.out).mono ?_; rintro e w1 ⟨rfl, hb⟩; replace hB := bstep hB hb; clear hb)
    | (go_at_call_has 16 y; refine (text_any y _ (ht.below hB) H2.out H3.out).mono ?_; rintro e w1 ⟨rfl, hb⟩; replace hB := bstep hB hb; clear hb)
    | (go_at_call_has 14 x; refine (parts_any x _ H0.out H1.out).mono ?_; rintro e w1 ⟨rfl, hb⟩; replace hB := bstep hB hb; clear hb)
    | (go_at_call_has 14 y; refine (parts_any y _ H2.out H3.out).mono ?_; rintro e w1 ⟨rfl, hb⟩; replace hB := bstep hB hb; clear hb))
  go_ret
  exact ⟨by first | rfl | exact congrArg (fun b => Ending.returned (Value.bool b)) (show _ = true by first | (simp; omega) | (have a1 : ¬ x < y := (by omega); have a2 : ¬ p1 x < p1 y := (by omega); have a3 : ¬ p2 x < p2 y := (by omega); simp [a1, a2, a3])), hB⟩
set_option maxHeartbeats 1000000 in
theorem ord_11_eqg (x y : Int) (h0 : 0 ≤ x) (h1 : x < 18446744073709551616) (h2 : 0 ≤ y) (h3 : y < 18446744073709551616) (w : World) (ht : Tab w) (kx : kindOf x = 1) (ky : kindOf y = 1) (tx : textE x = 0) (ty : textE y = 0) (hs : ((textOf x).toList == (textOf y).toList) = false) (hxy : (x == y) = false) (hlt : ¬ x < y) (hu : ¬ p2 x < p2 y) (hv : (p2 x == p2 y) = true) (hw : ¬ p1 x < p1 y) :
    Calls Tryd.prog 7 #[.int .u64 x, .int .u64 y] w fun e w' => e = .returned (.bool true) ∧ Below w.heap.size w w' := by
  have H0 : Hid (0 ≤ x) := h0
  have H1 : Hid (x < 18446744073709551616) := h1
  have H2 : Hid (0 ≤ y) := h2
  have H3 : Hid (y < 18446744073709551616) := h3
  have hB := Below.refl w.heap.size w
  clear h0 h1 h2 h3
  go_enter Tryd.func7, Tryd.ntmps7
  go_wp2_with (first
    | (go_at_call 8; refine (wakes_any _ ht).mono ?_; rintro e w1 ⟨rfl, hb⟩; replace hB := bstep hB hb; clear hb)
    | (go_at_call_has 18 x; refine (kind_any x _ H0.out H1.out).mono ?_; rintro e w1 ⟨rfl, hb⟩; replace hB := bstep hB hb; clear hb)
    | (go_at_call_has 18 y; refine (kind_any y _ H2.out H3.out).mono ?_; rintro e w1 ⟨rfl, hb⟩; replace hB := bstep hB hb; clear hb)
    | (go_at_call_has 16 x; refine (text_any x _ (ht.below hB) H0.out H1.out).mono ?_; rintro e w1 ⟨rfl, hb⟩; replace hB := bstep hB hb; clear hb)
    | (go_at_call_has 16 y; refine (text_any y _ (ht.below hB) H2.out H3.out).mono ?_; rintro e w1 ⟨rfl, hb⟩; replace hB := bstep hB hb; clear hb)
    | (go_at_call_has 14 x; refine (parts_any x _ H0.out H1.out).mono ?_; rintro e w1 ⟨rfl, hb⟩; replace hB := bstep hB hb; clear hb)
    | (go_at_call_has 14 y; refine (parts_any y _ H2.out H3.out).mono ?_; rintro e w1 ⟨rfl, hb⟩; replace hB := bstep hB hb; clear hb))
  go_ret
  exact ⟨by first | rfl | exact congrArg (fun b => Ending.returned (Value.bool b)) (show _ = true by first | (simp; omega) | (have a1 : ¬ x < y := (by omega); have a2 : ¬ p1 x < p1 y := (by omega); have a3 : ¬ p2 x < p2 y := (by omega); simp [a1, a2, a3])), hB⟩
set_option maxHeartbeats 1000000 in
theorem ord_12 (x y : Int) (h0 : 0 ≤ x) (h1 : x < 18446744073709551616) (h2 : 0 ≤ y) (h3 : y < 18446744073709551616) (w : World) (ht : Tab w) (kx : kindOf x = 1) (ky : kindOf y = 2) (tx : textE x = 0) (ty : textE y = 0) (hs : ((textOf x).toList == (textOf y).toList) = false) (hxy : (x == y) = false) (hlt : x < y) :
    Calls Tryd.prog 7 #[.int .u64 x, .int .u64 y] w fun e w' => e = .returned (.bool true) ∧ Below w.heap.size w w' := by
  have H0 : Hid (0 ≤ x) := h0
  have H1 : Hid (x < 18446744073709551616) := h1
  have H2 : Hid (0 ≤ y) := h2
  have H3 : Hid (y < 18446744073709551616) := h3
  have hB := Below.refl w.heap.size w
  clear h0 h1 h2 h3
  go_enter Tryd.func7, Tryd.ntmps7
  go_wp2_with (first
    | (go_at_call 8; refine (wakes_any _ ht).mono ?_; rintro e w1 ⟨rfl, hb⟩; replace hB := bstep hB hb; clear hb)
    | (go_at_call_has 18 x; refine (kind_any x _ H0.out H1.out).mono ?_; rintro e w1 ⟨rfl, hb⟩; replace hB := bstep hB hb; clear hb)
    | (go_at_call_has 18 y; refine (kind_any y _ H2.out H3.out).mono ?_; rintro e w1 ⟨rfl, hb⟩; replace hB := bstep hB hb; clear hb)
    | (go_at_call_has 16 x; refine (text_any x _ (ht.below hB) H0.out H1.out).mono ?_; rintro e w1 ⟨rfl, hb⟩; replace hB := bstep hB hb; clear hb)
    | (go_at_call_has 16 y; refine (text_any y _ (ht.below hB) H2.out H3.out).mono ?_; rintro e w1 ⟨rfl, hb⟩; replace hB := bstep hB hb; clear hb)
    | (go_at_call_has 14 x; refine (parts_any x _ H0.out H1.out).mono ?_; rintro e w1 ⟨rfl, hb⟩; replace hB := bstep hB hb; clear hb)
    | (go_at_call_has 14 y; refine (parts_any y _ H2.out H3.out).mono ?_; rintro e w1 ⟨rfl, hb⟩; replace hB := bstep hB hb; clear hb))
  go_ret
  exact ⟨by first | rfl | exact congrArg (fun b => Ending.returned (Value.bool b)) (show _ = true by first | (simp; omega) | (have a1 : ¬ x < y := (by omega); have a2 : ¬ p1 x < p1 y := (by omega); have a3 : ¬ p2 x < p2 y := (by omega); simp [a1, a2, a3])), hB⟩
set_option maxHeartbeats 1000000 in
theorem ord_13 (x y : Int) (h0 : 0 ≤ x) (h1 : x < 18446744073709551616) (h2 : 0 ≤ y) (h3 : y < 18446744073709551616) (w : World) (ht : Tab w) (kx : kindOf x = 1) (ky : kindOf y = 3) (tx : textE x = 0) (ty : textE y = 0) (hs : ((textOf x).toList == (textOf y).toList) = false) (hxy : (x == y) = false) (hlt : x < y) :
    Calls Tryd.prog 7 #[.int .u64 x, .int .u64 y] w fun e w' => e = .returned (.bool true) ∧ Below w.heap.size w w' := by
  have H0 : Hid (0 ≤ x) := h0
  have H1 : Hid (x < 18446744073709551616) := h1
  have H2 : Hid (0 ≤ y) := h2
  have H3 : Hid (y < 18446744073709551616) := h3
  have hB := Below.refl w.heap.size w
  clear h0 h1 h2 h3
  go_enter Tryd.func7, Tryd.ntmps7
  go_wp2_with (first
    | (go_at_call 8; refine (wakes_any _ ht).mono ?_; rintro e w1 ⟨rfl, hb⟩; replace hB := bstep hB hb; clear hb)
    | (go_at_call_has 18 x; refine (kind_any x _ H0.out H1.out).mono ?_; rintro e w1 ⟨rfl, hb⟩; replace hB := bstep hB hb; clear hb)
    | (go_at_call_has 18 y; refine (kind_any y _ H2.out H3.out).mono ?_; rintro e w1 ⟨rfl, hb⟩; replace hB := bstep hB hb; clear hb)
    | (go_at_call_has 16 x; refine (text_any x _ (ht.below hB) H0.out H1.out).mono ?_; rintro e w1 ⟨rfl, hb⟩; replace hB := bstep hB hb; clear hb)
    | (go_at_call_has 16 y; refine (text_any y _ (ht.below hB) H2.out H3.out).mono ?_; rintro e w1 ⟨rfl, hb⟩; replace hB := bstep hB hb; clear hb)
    | (go_at_call_has 14 x; refine (parts_any x _ H0.out H1.out).mono ?_; rintro e w1 ⟨rfl, hb⟩; replace hB := bstep hB hb; clear hb)
    | (go_at_call_has 14 y; refine (parts_any y _ H2.out H3.out).mono ?_; rintro e w1 ⟨rfl, hb⟩; replace hB := bstep hB hb; clear hb))
  go_ret
  exact ⟨by first | rfl | exact congrArg (fun b => Ending.returned (Value.bool b)) (show _ = true by first | (simp; omega) | (have a1 : ¬ x < y := (by omega); have a2 : ¬ p1 x < p1 y := (by omega); have a3 : ¬ p2 x < p2 y := (by omega); simp [a1, a2, a3])), hB⟩
set_option maxHeartbeats 1000000 in
theorem ord_14 (x y : Int) (h0 : 0 ≤ x) (h1 : x < 18446744073709551616) (h2 : 0 ≤ y) (h3 : y < 18446744073709551616) (w : World) (ht : Tab w) (kx : kindOf x = 1) (ky : kindOf y = 4) (tx : textE x = 0) (ty : textE y = 0) (hs : ((textOf x).toList == (textOf y).toList) = false) (hxy : (x == y) = false) (hlt : x < y) :
    Calls Tryd.prog 7 #[.int .u64 x, .int .u64 y] w fun e w' => e = .returned (.bool true) ∧ Below w.heap.size w w' := by
  have H0 : Hid (0 ≤ x) := h0
  have H1 : Hid (x < 18446744073709551616) := h1
  have H2 : Hid (0 ≤ y) := h2
  have H3 : Hid (y < 18446744073709551616) := h3
  have hB := Below.refl w.heap.size w
  clear h0 h1 h2 h3
  go_enter Tryd.func7, Tryd.ntmps7
  go_wp2_with (first
    | (go_at_call 8; refine (wakes_any _ ht).mono ?_; rintro e w1 ⟨rfl, hb⟩; replace hB := bstep hB hb; clear hb)
    | (go_at_call_has 18 x; refine (kind_any x _ H0.out H1.out).mono ?_; rintro e w1 ⟨rfl, hb⟩; replace hB := bstep hB hb; clear hb)
    | (go_at_call_has 18 y; refine (kind_any y _ H2.out H3.out).mono ?_; rintro e w1 ⟨rfl, hb⟩; replace hB := bstep hB hb; clear hb)
    | (go_at_call_has 16 x; refine (text_any x _ (ht.below hB) H0.out H1.out).mono ?_; rintro e w1 ⟨rfl, hb⟩; replace hB := bstep hB hb; clear hb)
    | (go_at_call_has 16 y; refine (text_any y _ (ht.below hB) H2.out H3.out).mono ?_; rintro e w1 ⟨rfl, hb⟩; replace hB := bstep hB hb; clear hb)
    | (go_at_call_has 14 x; refine (parts_any x _ H0.out H1.out).mono ?_; rintro e w1 ⟨rfl, hb⟩; replace hB := bstep hB hb; clear hb)
    | (go_at_call_has 14 y; refine (parts_any y _ H2.out H3.out).mono ?_; rintro e w1 ⟨rfl, hb⟩; replace hB := bstep hB hb; clear hb))
  go_ret
  exact ⟨by first | rfl | exact congrArg (fun b => Ending.returned (Value.bool b)) (show _ = true by first | (simp; omega) | (have a1 : ¬ x < y := (by omega); have a2 : ¬ p1 x < p1 y := (by omega); have a3 : ¬ p2 x < p2 y := (by omega); simp [a1, a2, a3])), hB⟩
set_option maxHeartbeats 1000000 in
theorem ord_21 (x y : Int) (h0 : 0 ≤ x) (h1 : x < 18446744073709551616) (h2 : 0 ≤ y) (h3 : y < 18446744073709551616) (w : World) (ht : Tab w) (kx : kindOf x = 2) (ky : kindOf y = 1) (tx : textE x = 0) (ty : textE y = 0) (hs : ((textOf x).toList == (textOf y).toList) = false) (hxy : (x == y) = false) (hlt : ¬ x < y) :
    Calls Tryd.prog 7 #[.int .u64 x, .int .u64 y] w fun e w' => e = .returned (.bool true) ∧ Below w.heap.size w w' := by
  have H0 : Hid (0 ≤ x) := h0
  have H1 : Hid (x < 18446744073709551616) := h1
  have H2 : Hid (0 ≤ y) := h2
  have H3 : Hid (y < 18446744073709551616) := h3
  have hB := Below.refl w.heap.size w
  clear h0 h1 h2 h3
  go_enter Tryd.func7, Tryd.ntmps7
  go_wp2_with (first
    | (go_at_call 8; refine (wakes_any _ ht).mono ?_; rintro e w1 ⟨rfl, hb⟩; replace hB := bstep hB hb; clear hb)
    | (go_at_call_has 18 x; refine (kind_any x _ H0.out H1.out).mono ?_; rintro e w1 ⟨rfl, hb⟩; replace hB := bstep hB hb; clear hb)
    | (go_at_call_has 18 y; refine (kind_any y _ H2.out H3.out).mono ?_; rintro e w1 ⟨rfl, hb⟩; replace hB := bstep hB hb; clear hb)
    | (go_at_call_has 16 x; refine (text_any x _ (ht.below hB) H0.out H1.out).mono ?_; rintro e w1 ⟨rfl, hb⟩; replace hB := bstep hB hb; clear hb)
    | (go_at_call_has 16 y; refine (text_any y _ (ht.below hB) H2.out H3.out).mono ?_; rintro e w1 ⟨rfl, hb⟩; replace hB := bstep hB hb; clear hb)
    | (go_at_call_has 14 x; refine (parts_any x _ H0.out H1.out).mono ?_; rintro e w1 ⟨rfl, hb⟩; replace hB := bstep hB hb; clear hb)
    | (go_at_call_has 14 y; refine (parts_any y _ H2.out H3.out).mono ?_; rintro e w1 ⟨rfl, hb⟩; replace hB := bstep hB hb; clear hb))
  go_ret
  exact ⟨by first | rfl | exact congrArg (fun b => Ending.returned (Value.bool b)) (show _ = true by first | (simp; omega) | (have a1 : ¬ x < y := (by omega); have a2 : ¬ p1 x < p1 y := (by omega); have a3 : ¬ p2 x < p2 y := (by omega); simp [a1, a2, a3])), hB⟩
set_option maxHeartbeats 1000000 in
theorem ord_22_lt (x y : Int) (h0 : 0 ≤ x) (h1 : x < 18446744073709551616) (h2 : 0 ≤ y) (h3 : y < 18446744073709551616) (w : World) (ht : Tab w) (kx : kindOf x = 2) (ky : kindOf y = 2) (tx : textE x = 0) (ty : textE y = 0) (hs : ((textOf x).toList == (textOf y).toList) = false) (hxy : (x == y) = false) (hlt : x < y) (hu : p2 x < p2 y) :
    Calls Tryd.prog 7 #[.int .u64 x, .int .u64 y] w fun e w' => e = .returned (.bool true) ∧ Below w.heap.size w w' := by
  have H0 : Hid (0 ≤ x) := h0
  have H1 : Hid (x < 18446744073709551616) := h1
  have H2 : Hid (0 ≤ y) := h2
  have H3 : Hid (y < 18446744073709551616) := h3
  have hB := Below.refl w.heap.size w
  clear h0 h1 h2 h3
  go_enter Tryd.func7, Tryd.ntmps7
  go_wp2_with (first
    | (go_at_call 8; refine (wakes_any _ ht).mono ?_; rintro e w1 ⟨rfl, hb⟩; replace hB := bstep hB hb; clear hb)
    | (go_at_call_has 18 x; refine (kind_any x _ H0.out H1.out).mono ?_; rintro e w1 ⟨rfl, hb⟩; replace hB := bstep hB hb; clear hb)
    | (go_at_call_has 18 y; refine (kind_any y _ H2.out H3.out).mono ?_; rintro e w1 ⟨rfl, hb⟩; replace hB := bstep hB hb; clear hb)
    | (go_at_call_has 16 x; refine (text_any x _ (ht.below hB) H0.out H1.out).mono ?_; rintro e w1 ⟨rfl, hb⟩; replace hB := bstep hB hb; clear hb)
    | (go_at_call_has 16 y; refine (text_any y _ (ht.below hB) H2.out H3.out).mono ?_; rintro e w1 ⟨rfl, hb⟩; replace hB := bstep hB hb; clear hb)
    | (go_at_call_has 14 x; refine (parts_any x _ H0.out H1.out).mono ?_; rintro e w1 ⟨rfl, hb⟩; replace hB := bstep hB hb; clear hb)
    | (go_at_call_has 14 y; refine (parts_any y _ H2.out H3.out).mono ?_; rintro e w1 ⟨rfl, hb⟩; replace hB := bstep hB hb; clear hb))
  go_ret
  exact ⟨by first | rfl | exact congrArg (fun b => Ending.returned (Value.bool b)) (show _ = true by first | (simp; omega) | (have a1 : ¬ x < y := (by omega); have a2 : ¬ p1 x < p1 y := (by omega); have a3 : ¬ p2 x < p2 y := (by omega); simp [a1, a2, a3])), hB⟩
set_option maxHeartbeats 1000000 in
theorem ord_22_gt (x y : Int) (h0 : 0 ≤ x) (h1 : x < 18446744073709551616) (h2 : 0 ≤ y) (h3 : y < 18446744073709551616) (w : World) (ht : Tab w) (kx : kindOf x = 2) (ky : kindOf y = 2) (tx : textE x = 0) (ty : textE y = 0) (hs : ((textOf x).toList == (textOf y).toList) = false) (hxy : (x == y) = false) (hlt : ¬ x < y) (hu : ¬ p2 x < p2 y) (hv : (p2 x == p2 y) = false) :
    Calls Tryd.prog 7 #[.int .u64 x, .int .u64 y] w fun e w' => e = .returned (.bool true) ∧ Below w.heap.size w w' := by
  have H0 : Hid (0 ≤ x) := h0
  have H1 : Hid (x < 18446744073709551616) := h1
  have H2 : Hid (0 ≤ y) := h2
  have H3 : Hid (y < 18446744073709551616) := h3
  have hB := Below.refl w.heap.size w
  clear h0 h1 h2 h3
  go_enter Tryd.func7, Tryd.ntmps7
  go_wp2_with (first
    | (go_at_call 8; refine (wakes_any _ ht).mono ?_; rintro e w1 ⟨rfl, hb⟩; replace hB := bstep hB hb; clear hb)
    | (go_at_call_has 18 x; refine (kind_any x _ H0.out H1.out).mono ?_; rintro e w1 ⟨rfl, hb⟩; replace hB := bstep hB hb; clear hb)
    | (go_at_call_has 18 y; refine (kind_any y _ H2.out H3.out).mono ?_; rintro e w1 ⟨rfl, hb⟩; replace hB := bstep hB hb; clear hb)
    | (go_at_call_has 16 x; refine (text_any x _ (ht.below hB) H0.out H1.out).mono ?_; rintro e w1 ⟨rfl, hb⟩; replace hB := bstep hB hb; clear hb)
    | (go_at_call_has 16 y; refine (text_any y _ (ht.below hB) H2.out H3.out).mono ?_; rintro e w1 ⟨rfl, hb⟩; replace hB := bstep hB hb; clear hb)
    | (go_at_call_has 14 x; refine (parts_any x _ H0.out H1.out).mono ?_; rintro e w1 ⟨rfl, hb⟩; replace hB := bstep hB hb; clear hb)
    | (go_at_call_has 14 y; refine (parts_any y _ H2.out H3.out).mono ?_; rintro e w1 ⟨rfl, hb⟩; replace hB := bstep hB hb; clear hb))
  go_ret
  exact ⟨by first | rfl | exact congrArg (fun b => Ending.returned (Value.bool b)) (show _ = true by first | (simp; omega) | (have a1 : ¬ x < y := (by omega); have a2 : ¬ p1 x < p1 y := (by omega); have a3 : ¬ p2 x < p2 y := (by omega); simp [a1, a2, a3])), hB⟩
set_option maxHeartbeats 1000000 in
theorem ord_22_eql (x y : Int) (h0 : 0 ≤ x) (h1 : x < 18446744073709551616) (h2 : 0 ≤ y) (h3 : y < 18446744073709551616) (w : World) (ht : Tab w) (kx : kindOf x = 2) (ky : kindOf y = 2) (tx : textE x = 0) (ty : textE y = 0) (hs : ((textOf x).toList == (textOf y).toList) = false) (hxy : (x == y) = false) (hlt : x < y) (hu : ¬ p2 x < p2 y) (hv : (p2 x == p2 y) = true) (hw : p1 x < p1 y) :
    Calls Tryd.prog 7 #[.int .u64 x, .int .u64 y] w fun e w' => e = .returned (.bool true) ∧ Below w.heap.size w w' := by
  have H0 : Hid (0 ≤ x) := h0
  have H1 : Hid (x < 18446744073709551616) := h1
  have H2 : Hid (0 ≤ y) := h2
  have H3 : Hid (y < 18446744073709551616) := h3
  have hB := Below.refl w.heap.size w
  clear h0 h1 h2 h3
  go_enter Tryd.func7, Tryd.ntmps7
  go_wp2_with (first
    | (go_at_call 8; refine (wakes_any _ ht).mono ?_; rintro e w1 ⟨rfl, hb⟩; replace hB := bstep hB hb; clear hb)
    | (go_at_call_has 18 x; refine (kind_any x _ H0.out H1.out).mono ?_; rintro e w1 ⟨rfl, hb⟩; replace hB := bstep hB hb; clear hb)
    | (go_at_call_has 18 y; refine (kind_any y _ H2.out H3.out).mono ?_; rintro e w1 ⟨rfl, hb⟩; replace hB := bstep hB hb; clear hb)
    | (go_at_call_has 16 x; refine (text_any x _ (ht.below hB) H0.out H1.out).mono ?_; rintro e w1 ⟨rfl, hb⟩; replace hB := bstep hB hb; clear hb)
    | (go_at_call_has 16 y; refine (text_any y _ (ht.below hB) H2.out H3.out).mono ?_; rintro e w1 ⟨rfl, hb⟩; replace hB := bstep hB hb; clear hb)
    | (go_at_call_has 14 x; refine (parts_any x _ H0.out H1.out).mono ?_; rintro e w1 ⟨rfl, hb⟩; replace hB := bstep hB hb; clear hb)
    | (go_at_call_has 14 y; refine (parts_any y _ H2.out H3.out).mono ?_; rintro e w1 ⟨rfl, hb⟩; replace hB := bstep hB hb; clear hb))
  go_ret
  exact ⟨by first | rfl | exact congrArg (fun b => Ending.returned (Value.bool b)) (show _ = true by first | (simp; omega) | (have a1 : ¬ x < y := (by omega); have a2 : ¬ p1 x < p1 y := (by omega); have a3 : ¬ p2 x < p2 y := (by omega); simp [a1, a2, a3])), hB⟩
set_option maxHeartbeats 1000000 in
theorem ord_22_eqg (x y : Int) (h0 : 0 ≤ x) (h1 : x < 18446744073709551616) (h2 : 0 ≤ y) (h3 : y < 18446744073709551616) (w : World) (ht : Tab w) (kx : kindOf x = 2) (ky : kindOf y = 2) (tx : textE x = 0) (ty : textE y = 0) (hs : ((textOf x).toList == (textOf y).toList) = false) (hxy : (x == y) = false) (hlt : ¬ x < y) (hu : ¬ p2 x < p2 y) (hv : (p2 x == p2 y) = true) (hw : ¬ p1 x < p1 y) :
    Calls Tryd.prog 7 #[.int .u64 x, .int .u64 y] w fun e w' => e = .returned (.bool true) ∧ Below w.heap.size w w' := by
  have H0 : Hid (0 ≤ x) := h0
  have H1 : Hid (x < 18446744073709551616) := h1
  have H2 : Hid (0 ≤ y) := h2
  have H3 : Hid (y < 18446744073709551616) := h3
  have hB := Below.refl w.heap.size w
  clear h0 h1 h2 h3
  go_enter Tryd.func7, Tryd.ntmps7
  go_wp2_with (first
    | (go_at_call 8; refine (wakes_any _ ht).mono ?_; rintro e w1 ⟨rfl, hb⟩; replace hB := bstep hB hb; clear hb)
    | (go_at_call_has 18 x; refine (kind_any x _ H0.out H1.out).mono ?_; rintro e w1 ⟨rfl, hb⟩; replace hB := bstep hB hb; clear hb)
    | (go_at_call_has 18 y; refine (kind_any y _ H2.out H3.out).mono ?_; rintro e w1 ⟨rfl, hb⟩; replace hB := bstep hB hb; clear hb)
    | (go_at_call_has 16 x; refine (text_any x _ (ht.below hB) H0.out H1.out).mono ?_; rintro e w1 ⟨rfl, hb⟩; replace hB := bstep hB hb; clear hb)
    | (go_at_call_has 16 y; refine (text_any y _ (ht.below hB) H2.out H3.out).mono ?_; rintro e w1 ⟨rfl, hb⟩; replace hB := bstep hB hb; clear hb)
    | (go_at_call_has 14 x; refine (parts_any x _ H0.out H1.out).mono ?_; rintro e w1 ⟨rfl, hb⟩; replace hB := bstep hB hb; clear hb)
    | (go_at_call_has 14 y; refine (parts_any y _ H2.out H3.out).mono ?_; rintro e w1 ⟨rfl, hb⟩; replace hB := bstep hB hb; clear hb))
  go_ret
  exact ⟨by first | rfl | exact congrArg (fun b => Ending.returned (Value.bool b)) (show _ = true by first | (simp; omega) | (have a1 : ¬ x < y := (by omega); have a2 : ¬ p1 x < p1 y := (by omega); have a3 : ¬ p2 x < p2 y := (by omega); simp [a1, a2, a3])), hB⟩
set_option maxHeartbeats 1000000 in
theorem ord_23 (x y : Int) (h0 : 0 ≤ x) (h1 : x < 18446744073709551616) (h2 : 0 ≤ y) (h3 : y < 18446744073709551616) (w : World) (ht : Tab w) (kx : kindOf x = 2) (ky : kindOf y = 3) (tx : textE x = 0) (ty : textE y = 0) (hs : ((textOf x).toList == (textOf y).toList) = false) (hxy : (x == y) = false) (hlt : x < y) :
    Calls Tryd.prog 7 #[.int .u64 x, .int .u64 y] w fun e w' => e = .returned (.bool true) ∧ Below w.heap.size w w' := by
  have H0 : Hid (0 ≤ x) := h0
  have H1 : Hid (x < 18446744073709551616) := h1
  have H2 : Hid (0 ≤ y) := h2
  have H3 : Hid (y < 18446744073709551616) := h3
  have hB := Below.refl w.heap.size w
  clear h0 h1 h2 h3
  go_enter Tryd.func7, Tryd.ntmps7
  go_wp2_with (first
    | (go_at_call 8; refine (wakes_any _ ht).mono ?_; rintro e w1 ⟨rfl, hb⟩; replace hB := bstep hB hb; clear hb)
    | (go_at_call_has 18 x; refine (kind_any x _ H0.out H1.out).mono ?_; rintro e w1 ⟨rfl, hb⟩; replace hB := bstep hB hb; clear hb)
    | (go_at_call_has 18 y; refine (kind_any y _ H2.out H3.out).mono ?_; rintro e w1 ⟨rfl, hb⟩; replace hB := bstep hB hb; clear hb)
    | (go_at_call_has 16 x; refine (text_any x _ (ht.below hB) H0.out H1.out).mono ?_; rintro e w1 ⟨rfl, hb⟩; replace hB := bstep hB hb; clear hb)
    | (go_at_call_has 16 y; refine (text_any y _ (ht.below hB) H2.out H3.out).mono ?_; rintro e w1 ⟨rfl, hb⟩; replace hB := bstep hB hb; clear hb)
    | (go_at_call_has 14 x; refine (parts_any x _ H0.out H1.out).mono ?_; rintro e w1 ⟨rfl, hb⟩; replace hB := bstep hB hb; clear hb)
    | (go_at_call_has 14 y; refine (parts_any y _ H2.out H3.out).mono ?_; rintro e w1 ⟨rfl, hb⟩; replace hB := bstep hB hb; clear hb))
  go_ret
  exact ⟨by first | rfl | exact congrArg (fun b => Ending.returned (Value.bool b)) (show _ = true by first | (simp; omega) | (have a1 : ¬ x < y := (by omega); have a2 : ¬ p1 x < p1 y := (by omega); have a3 : ¬ p2 x < p2 y := (by omega); simp [a1, a2, a3])), hB⟩
set_option maxHeartbeats 1000000 in
theorem ord_24 (x y : Int) (h0 : 0 ≤ x) (h1 : x < 18446744073709551616) (h2 : 0 ≤ y) (h3 : y < 18446744073709551616) (w : World) (ht : Tab w) (kx : kindOf x = 2) (ky : kindOf y = 4) (tx : textE x = 0) (ty : textE y = 0) (hs : ((textOf x).toList == (textOf y).toList) = false) (hxy : (x == y) = false) (hlt : x < y) :
    Calls Tryd.prog 7 #[.int .u64 x, .int .u64 y] w fun e w' => e = .returned (.bool true) ∧ Below w.heap.size w w' := by
  have H0 : Hid (0 ≤ x) := h0
  have H1 : Hid (x < 18446744073709551616) := h1
  have H2 : Hid (0 ≤ y) := h2
  have H3 : Hid (y < 18446744073709551616) := h3
  have hB := Below.refl w.heap.size w
  clear h0 h1 h2 h3
  go_enter Tryd.func7, Tryd.ntmps7
  go_wp2_with (first
    | (go_at_call 8; refine (wakes_any _ ht).mono ?_; rintro e w1 ⟨rfl, hb⟩; replace hB := bstep hB hb; clear hb)
    | (go_at_call_has 18 x; refine (kind_any x _ H0.out H1.out).mono ?_; rintro e w1 ⟨rfl, hb⟩; replace hB := bstep hB hb; clear hb)
    | (go_at_call_has 18 y; refine (kind_any y _ H2.out H3.out).mono ?_; rintro e w1 ⟨rfl, hb⟩; replace hB := bstep hB hb; clear hb)
    | (go_at_call_has 16 x; refine (text_any x _ (ht.below hB) H0.out H1.out).mono ?_; rintro e w1 ⟨rfl, hb⟩; replace hB := bstep hB hb; clear hb)
    | (go_at_call_has 16 y; refine (text_any y _ (ht.below hB) H2.out H3.out).mono ?_; rintro e w1 ⟨rfl, hb⟩; replace hB := bstep hB hb; clear hb)
    | (go_at_call_has 14 x; refine (parts_any x _ H0.out H1.out).mono ?_; rintro e w1 ⟨rfl, hb⟩; replace hB := bstep hB hb; clear hb)
    | (go_at_call_has 14 y; refine (parts_any y _ H2.out H3.out).mono ?_; rintro e w1 ⟨rfl, hb⟩; replace hB := bstep hB hb; clear hb))
  go_ret
  exact ⟨by first | rfl | exact congrArg (fun b => Ending.returned (Value.bool b)) (show _ = true by first | (simp; omega) | (have a1 : ¬ x < y := (by omega); have a2 : ¬ p1 x < p1 y := (by omega); have a3 : ¬ p2 x < p2 y := (by omega); simp [a1, a2, a3])), hB⟩
set_option maxHeartbeats 1000000 in
theorem ord_31 (x y : Int) (h0 : 0 ≤ x) (h1 : x < 18446744073709551616) (h2 : 0 ≤ y) (h3 : y < 18446744073709551616) (w : World) (ht : Tab w) (kx : kindOf x = 3) (ky : kindOf y = 1) (tx : textE x = 0) (ty : textE y = 0) (hs : ((textOf x).toList == (textOf y).toList) = false) (hxy : (x == y) = false) (hlt : ¬ x < y) :
    Calls Tryd.prog 7 #[.int .u64 x, .int .u64 y] w fun e w' => e = .returned (.bool true) ∧ Below w.heap.size w w' := by
  have H0 : Hid (0 ≤ x) := h0
  have H1 : Hid (x < 18446744073709551616) := h1
  have H2 : Hid (0 ≤ y) := h2
  have H3 : Hid (y < 18446744073709551616) := h3
  have hB := Below.refl w.heap.size w
  clear h0 h1 h2 h3
  go_enter Tryd.func7, Tryd.ntmps7
  go_wp2_with (first
    | (go_at_call 8; refine (wakes_any _ ht).mono ?_; rintro e w1 ⟨rfl, hb⟩; replace hB := bstep hB hb; clear hb)
    | (go_at_call_has 18 x; refine (kind_any x _ H0.out H1.out).mono ?_; rintro e w1 ⟨rfl, hb⟩; replace hB := bstep hB hb; clear hb)
    | (go_at_call_has 18 y; refine (kind_any y _ H2.out H3.out).mono ?_; rintro e w1 ⟨rfl, hb⟩; replace hB := bstep hB hb; clear hb)
    | (go_at_call_has 16 x; refine (text_any x _ (ht.below hB) H0.out H1.out).mono ?_; rintro e w1 ⟨rfl, hb⟩; replace hB := bstep hB hb; clear hb)
    | (go_at_call_has 16 y; refine (text_any y _ (ht.below hB) H2.out H3.out).mono ?_; rintro e w1 ⟨rfl, hb⟩; replace hB := bstep hB hb; clear hb)
    | (go_at_call_has 14 x; refine (parts_any x _ H0.out H1.out).mono ?_; rintro e w1 ⟨rfl, hb⟩; replace hB := bstep hB hb; clear hb)
    | (go_at_call_has 14 y; refine (parts_any y _ H2.out H3.out).mono ?_; rintro e w1 ⟨rfl, hb⟩; replace hB := bstep hB hb; clear hb))
  go_ret
  exact ⟨by first | rfl | exact congrArg (fun b => Ending.returned (Value.bool b)) (show _ = true by first | (simp; omega) | (have a1 : ¬ x < y := (by omega); have a2 : ¬ p1 x < p1 y := (by omega); have a3 : ¬ p2 x < p2 y := (by omega); simp [a1, a2, a3])), hB⟩
set_option maxHeartbeats 1000000 in
theorem ord_32 (x y : Int) (h0 : 0 ≤ x) (h1 : x < 18446744073709551616) (h2 : 0 ≤ y) (h3 : y < 18446744073709551616) (w : World) (ht : Tab w) (kx : kindOf x = 3) (ky : kindOf y = 2) (tx : textE x = 0) (ty : textE y = 0) (hs : ((textOf x).toList == (textOf y).toList) = false) (hxy : (x == y) = false) (hlt : ¬ x < y) :
    Calls Tryd.prog 7 #[.int .u64 x, .int .u64 y] w fun e w' => e = .returned (.bool true) ∧ Below w.heap.size w w' := by
  have H0 : Hid (0 ≤ x) := h0
  have H1 : Hid (x < 18446744073709551616) := h1
  have H2 : Hid (0 ≤ y) := h2
  have H3 : Hid (y < 18446744073709551616) := h3
  have hB := Below.refl w.heap.size w
  clear h0 h1 h2 h3
  go_enter Tryd.func7, Tryd.ntmps7
  go_wp2_with (first
    | (go_at_call 8; refine (wakes_any _ ht).mono ?_; rintro e w1 ⟨rfl, hb⟩; replace hB := bstep hB hb; clear hb)
    | (go_at_call_has 18 x; refine (kind_any x _ H0.out H1.out).mono ?_; rintro e w1 ⟨rfl, hb⟩; replace hB := bstep hB hb; clear hb)
    | (go_at_call_has 18 y; refine (kind_any y _ H2.out H3.out).mono ?_; rintro e w1 ⟨rfl, hb⟩; replace hB := bstep hB hb; clear hb)
    | (go_at_call_has 16 x; refine (text_any x _ (ht.below hB) H0.out H1.out).mono ?_; rintro e w1 ⟨rfl, hb⟩; replace hB := bstep hB hb; clear hb)
    | (go_at_call_has 16 y; refine (text_any y _ (ht.below hB) H2.out H3.out).mono ?_; rintro e w1 ⟨rfl, hb⟩; replace hB := bstep hB hb; clear hb)
    | (go_at_call_has 14 x; refine (parts_any x _ H0.out H1.out).mono ?_; rintro e w1 ⟨rfl, hb⟩; replace hB := bstep hB hb; clear hb)
    | (go_at_call_has 14 y; refine (parts_any y _ H2.out H3.out).mono ?_; rintro e w1 ⟨rfl, hb⟩; replace hB := bstep hB hb; clear hb))
  go_ret
  exact ⟨by first | rfl | exact congrArg (fun b => Ending.returned (Value.bool b)) (show _ = true by first | (simp; omega) | (have a1 : ¬ x < y := (by omega); have a2 : ¬ p1 x < p1 y := (by omega); have a3 : ¬ p2 x < p2 y := (by omega); simp [a1, a2, a3])), hB⟩
set_option maxHeartbeats 1000000 in
theorem ord_33_lt (x y : Int) (h0 : 0 ≤ x) (h1 : x < 18446744073709551616) (h2 : 0 ≤ y) (h3 : y < 18446744073709551616) (w : World) (ht : Tab w) (kx : kindOf x = 3) (ky : kindOf y = 3) (tx : textE x = 0) (ty : textE y = 0) (hs : ((textOf x).toList == (textOf y).toList) = false) (hxy : (x == y) = false) (hlt : x < y) (hu : p1 x < p1 y) :
    Calls Tryd.prog 7 #[.int .u64 x, .int .u64 y] w fun e w' => e = .returned (.bool true) ∧ Below w.heap.size w w' := by
  have H0 : Hid (0 ≤ x) := h0
  have H1 : Hid (x < 18446744073709551616) := h1
  have H2 : Hid (0 ≤ y) := h2
  have H3 : Hid (y < 18446744073709551616) := h3
  have hB := Below.refl w.heap.size w
  clear h0 h1 h2 h3
  go_enter Tryd.func7, Tryd.ntmps7
  go_wp2_with (first
    | (go_at_call 8; refine (wakes_any _ ht).mono ?_; rintro e w1 ⟨rfl, hb⟩; replace hB := bstep hB hb; clear hb)
    | (go_at_call_has 18 x; refine (kind_any x _ H0.out H1.out).mono ?_; rintro e w1 ⟨rfl, hb⟩; replace hB := bstep hB hb; clear hb)
    | (go_at_call_has 18 y; refine (kind_any y _ H2.out H3.out).mono ?_; rintro e w1 ⟨rfl, hb⟩; replace hB := bstep hB hb; clear hb)
    | (go_at_call_has 16 x; refine (text_any x _ (ht.below hB) H0.out H1.out).mono ?_; rintro e w1 ⟨rfl, hb⟩; replace hB := bstep hB hb; clear hb)
    | (go_at_call_has 16 y; refine (text_any y _ (ht.below hB) H2.out H3.out).mono ?_; rintro e w1 ⟨rfl, hb⟩; replace hB := bstep hB hb; clear hb)
    | (go_at_call_has 14 x; refine (parts_any x _ H0.out H1.out).mono ?_; rintro e w1 ⟨rfl, hb⟩; replace hB := bstep hB hb; clear hb)
    | (go_at_call_has 14 y; refine (parts_any y _ H2.out H3.out).mono ?_; rintro e w1 ⟨rfl, hb⟩; replace hB := bstep hB hb; clear hb))
  go_ret
  exact ⟨by first | rfl | exact congrArg (fun b => Ending.returned (Value.bool b)) (show _ = true by first | (simp; omega) | (have a1 : ¬ x < y := (by omega); have a2 : ¬ p1 x < p1 y := (by omega); have a3 : ¬ p2 x < p2 y := (by omega); simp [a1, a2, a3])), hB⟩
set_option maxHeartbeats 1000000 in
theorem ord_33_gt (x y : Int) (h0 : 0 ≤ x) (h1 : x < 18446744073709551616) (h2 : 0 ≤ y) (h3 : y < 18446744073709551616) (w : World) (ht : Tab w) (kx : kindOf x = 3) (ky : kindOf y = 3) (tx : textE x = 0) (ty : textE y = 0) (hs : ((textOf x).toList == (textOf y).toList) = false) (hxy : (x == y) = false) (hlt : ¬ x < y) (hu : ¬ p1 x < p1 y) (hv : (p1 x == p1 y) = false) :
    Calls Tryd.prog 7 #[.int .u64 x, .int .u64 y] w fun e w' => e = .returned (.bool true) ∧ Below w.heap.size w w' := by
  have H0 : Hid (0 ≤ x) := h0
  have H1 : Hid (x < 18446744073709551616) := h1
  have H2 : Hid (0 ≤ y) := h2
  have H3 : Hid (y < 18446744073709551616) := h3
  have hB := Below.refl w.heap.size w
  clear h0 h1 h2 h3
  go_enter Tryd.func7, Tryd.ntmps7
  go_wp2_with (first
    | (go_at_call 8; refine (wakes_any _ ht).mono ?_; rintro e w1 ⟨rfl, hb⟩; replace hB := bstep hB hb; clear hb)
    | (go_at_call_has 18 x; refine (kind_any x _ H0.out H1.out).mono ?_; rintro e w1 ⟨rfl, hb⟩; replace hB := bstep hB hb; clear hb)
    | (go_at_call_has 18 y; refine (kind_any y _ H2.out H3.out).mono ?_; rintro e w1 ⟨rfl, hb⟩; replace hB := bstep hB hb; clear hb)
    | (go_at_call_has 16 x; refine (text_any x _ (ht.below hB) H0.out H1.out).mono ?_; rintro e w1 ⟨rfl, hb⟩; replace hB := bstep hB hb; clear hb)
    | (go_at_call_has 16 y; refine (text_any y _ (ht.below hB) H2.out H3.out).mono ?_; rintro e w1 ⟨rfl, hb⟩; replace hB := bstep hB hb; clear hb)
    | (go_at_call_has 14 x; refine (parts_any x _ H0.out H1.out).mono ?_; rintro e w1 ⟨rfl, hb⟩; replace hB := bstep hB hb; clear hb)
    | (go_at_call_has 14 y; refine (parts_any y _ H2.out H3.out).mono ?_; rintro e w1 ⟨rfl, hb⟩; replace hB := bstep hB hb; clear hb))
  go_ret
  exact ⟨by first | rfl | exact congrArg (fun b => Ending.returned (Value.bool b)) (show _ = true by first | (simp; omega) | (have a1 : ¬ x < y := (by omega); have a2 : ¬ p1 x < p1 y := (by omega); have a3 : ¬ p2 x < p2 y := (by omega); simp [a1, a2, a3])), hB⟩
set_option maxHeartbeats 1000000 in
theorem ord_33_eql (x y : Int) (h0 : 0 ≤ x) (h1 : x < 18446744073709551616) (h2 : 0 ≤ y) (h3 : y < 18446744073709551616) (w : World) (ht : Tab w) (kx : kindOf x = 3) (ky : kindOf y = 3) (tx : textE x = 0) (ty : textE y = 0) (hs : ((textOf x).toList == (textOf y).toList) = false) (hxy : (x == y) = false) (hlt : x < y) (hu : ¬ p1 x < p1 y) (hv : (p1 x == p1 y) = true) (hw : p2 x < p2 y) :
    Calls Tryd.prog 7 #[.int .u64 x, .int .u64 y] w fun e w' => e = .returned (.bool true) ∧ Below w.heap.size w w' := by
  have H0 : Hid (0 ≤ x) := h0
  have H1 : Hid (x < 18446744073709551616) := h1
  have H2 : Hid (0 ≤ y) := h2
  have H3 : Hid (y < 18446744073709551616) := h3
  have hB := Below.refl w.heap.size w
  clear h0 h1 h2 h3
  go_enter Tryd.func7, Tryd.ntmps7
  go_wp2_with (first
    | (go_at_call 8; refine (wakes_any _ ht).mono ?_; rintro e w1 ⟨rfl, hb⟩; replace hB := bstep hB hb; clear hb)
    | (go_at_call_has 18 x; refine (kind_any x _ H0.out H1.out).mono ?_; rintro e w1 ⟨rfl, hb⟩; replace hB := bstep hB hb; clear hb)
    | (go_at_call_has 18 y; refine (kind_any y _ H2.out H3.out).mono ?_; rintro e w1 ⟨rfl, hb⟩; replace hB := bstep hB hb; clear hb)
    | (go_at_call_has 16 x; refine (text_any x _ (ht.below hB) H0.out H1.out).mono ?_; rintro e w1 ⟨rfl, hb⟩; replace hB := bstep hB hb; clear hb)
    | (go_at_call_has 16 y; refine (text_any y _ (ht.below hB) H2.out H3.out).mono ?_; rintro e w1 ⟨rfl, hb⟩; replace hB := bstep hB hb; clear hb)
    | (go_at_call_has 14 x; refine (parts_any x _ H0.out H1.out).mono ?_; rintro e w1 ⟨rfl, hb⟩; replace hB := bstep hB hb; clear hb)
    | (go_at_call_has 14 y; refine (parts_any y _ H2.out H3.out).mono ?_; rintro e w1 ⟨rfl, hb⟩; replace hB := bstep hB hb; clear hb))
  go_ret
  exact ⟨by first | rfl | exact congrArg (fun b => Ending.returned (Value.bool b)) (show _ = true by first | (simp; omega) | (have a1 : ¬ x < y := (by omega); have a2 : ¬ p1 x < p1 y := (by omega); have a3 : ¬ p2 x < p2 y := (by omega); simp [a1, a2, a3])), hB⟩
set_option maxHeartbeats 1000000 in
theorem ord_33_eqg (x y : Int) (h0 : 0 ≤ x) (h1 : x < 18446744073709551616) (h2 : 0 ≤ y) (h3 : y < 18446744073709551616) (w : World) (ht : Tab w) (kx : kindOf x = 3) (ky : kindOf y = 3) (tx : textE x = 0) (ty : textE y = 0) (hs : ((textOf x).toList == (textOf y).toList) = false) (hxy : (x == y) = false) (hlt : ¬ x < y) (hu : ¬ p1 x < p1 y) (hv : (p1 x == p1 y) = true) (hw : ¬ p2 x < p2 y) :
    Calls Tryd.prog 7 #[.int .u64 x, .int .u64 y] w fun e w' => e = .returned (.bool true) ∧ Below w.heap.size w w' := by
  have H0 : Hid (0 ≤ x) := h0
  have H1 : Hid (x < 18446744073709551616) := h1
  have H2 : Hid (0 ≤ y) := h2
  have H3 : Hid (y < 18446744073709551616) := h3
  have hB := Below.refl w.heap.size w
  clear h0 h1 h2 h3
  go_enter Tryd.func7, Tryd.ntmps7
  go_wp2_with (first
    | (go_at_call 8; refine (wakes_any _ ht).mono ?_; rintro e w1 ⟨rfl, hb⟩; replace hB := bstep hB hb; clear hb)
    | (go_at_call_has 18 x; refine (kind_any x _ H0.out H1.out).mono ?_; rintro e w1 ⟨rfl, hb⟩; replace hB := bstep hB hb; clear hb)
    | (go_at_call_has 18 y; refine (kind_any y _ H2.out H3.out).mono ?_; rintro e w1 ⟨rfl, hb⟩; replace hB := bstep hB hb; clear hb)
    | (go_at_call_has 16 x; refine (text_any x _ (ht.below hB) H0.out H1.out).mono ?_; rintro e w1 ⟨rfl, hb⟩; replace hB := bstep hB hb; clear hb)
    | (go_at_call_has 16 y; refine (text_any y _ (ht.below hB) H2.out H3.out).mono ?_; rintro e w1 ⟨rfl, hb⟩; replace hB := bstep hB hb; clear hb)
    | (go_at_call_has 14 x; refine (parts_any x _ H0.out H1.out).mono ?_; rintro e w1 ⟨rfl, hb⟩; replace hB := bstep hB hb; clear hb)
    | (go_at_call_has 14 y; refine (parts_any y _ H2.out H3.out).mono ?_; rintro e w1 ⟨rfl, hb⟩; replace hB := bstep hB hb; clear hb))
  go_ret
  exact ⟨by first | rfl | exact congrArg (fun b => Ending.returned (Value.bool b)) (show _ = true by first | (simp; omega) | (have a1 : ¬ x < y := (by omega); have a2 : ¬ p1 x < p1 y := (by omega); have a3 : ¬ p2 x < p2 y := (by omega); simp [a1, a2, a3])), hB⟩
set_option maxHeartbeats 1000000 in
theorem ord_34_lt (x y : Int) (h0 : 0 ≤ x) (h1 : x < 18446744073709551616) (h2 : 0 ≤ y) (h3 : y < 18446744073709551616) (w : World) (ht : Tab w) (kx : kindOf x = 3) (ky : kindOf y = 4) (tx : textE x = 0) (ty : textE y = 0) (hs : ((textOf x).toList == (textOf y).toList) = false) (hxy : (x == y) = false) (hlt : x < y) (hu : p1 x < p1 y) :
    Calls Tryd.prog 7 #[.int .u64 x, .int .u64 y] w fun e w' => e = .returned (.bool true) ∧ Below w.heap.size w w' := by
  have H0 : Hid (0 ≤ x) := h0
  have H1 : Hid (x < 18446744073709551616) := h1
  have H2 : Hid (0 ≤ y) := h2
  have H3 : Hid (y < 18446744073709551616) := h3
  have hB := Below.refl w.heap.size w
  clear h0 h1 h2 h3
  go_enter Tryd.func7, Tryd.ntmps7
  go_wp2_with (first
    | (go_at_call 8; refine (wakes_any _ ht).mono ?_; rintro e w1 ⟨rfl, hb⟩; replace hB := bstep hB hb; clear hb)
    | (go_at_call_has 18 x; refine (kind_any x _ H0.out H1.out).mono ?_; rintro e w1 ⟨rfl, hb⟩; replace hB := bstep hB hb; clear hb)
    | (go_at_call_has 18 y; refine (kind_any y _ H2.out H3.out).mono ?_; rintro e w1 ⟨rfl, hb⟩; replace hB := bstep hB hb; clear hb)
    | (go_at_call_has 16 x; refine (text_any x _ (ht.below hB) H0.out H1.out).mono ?_; rintro e w1 ⟨rfl, hb⟩; replace hB := bstep hB hb; clear hb)
    | (go_at_call_has 16 y; refine (text_any y _ (ht.below hB) H2.out H3.out).mono ?_; rintro e w1 ⟨rfl, hb⟩; replace hB := bstep hB hb; clear hb)
    | (go_at_call_has 14 x; refine (parts_any x _ H0.out H1.out).mono ?_; rintro e w1 ⟨rfl, hb⟩; replace hB := bstep hB hb; clear hb)
    | (go_at_call_has 14 y; refine (parts_any y _ H2.out H3.out).mono ?_; rintro e w1 ⟨rfl, hb⟩; replace hB := bstep hB hb; clear hb))
  go_ret
  exact ⟨by first | rfl | exact congrArg (fun b => Ending.returned (Value.bool b)) (show _ = true by first | (simp; omega) | (have a1 : ¬ x < y := (by omega); have a2 : ¬ p1 x < p1 y := (by omega); have a3 : ¬ p2 x < p2 y := (by omega); simp [a1, a2, a3])), hB⟩
set_option maxHeartbeats 1000000 in
theorem ord_34_gt (x y : Int) (h0 : 0 ≤ x) (h1 : x < 18446744073709551616) (h2 : 0 ≤ y) (h3 : y < 18446744073709551616) (w : World) (ht : Tab w) (kx : kindOf x = 3) (ky : kindOf y = 4) (tx : textE x = 0) (ty : textE y = 0) (hs : ((textOf x).toList == (textOf y).toList) = false) (hxy : (x == y) = false) (hlt : ¬ x < y) (hu : ¬ p1 x < p1 y) (hv : (p1 x == p1 y) = false) :
    Calls Tryd.prog 7 #[.int .u64 x, .int .u64 y] w fun e w' => e = .returned (.bool true) ∧ Below w.heap.size w w' := by
  have H0 : Hid (0 ≤ x) := h0
  have H1 : Hid (x < 18446744073709551616) := h1
  have H2 : Hid (0 ≤ y) := h2
  have H3 : Hid (y < 18446744073709551616) := h3
  have hB := Below.refl w.heap.size w
  clear h0 h1 h2 h3
  go_enter Tryd.func7, Tryd.ntmps7
  go_wp2_with (first
    | (go_at_call 8; refine (wakes_any _ ht).mono ?_; rintro e w1 ⟨rfl, hb⟩; replace hB := bstep hB hb; clear hb)
    | (go_at_call_has 18 x; refine (kind_any x _ H0.out H1.out).mono ?_; rintro e w1 ⟨rfl, hb⟩; replace hB := bstep hB hb; clear hb)
    | (go_at_call_has 18 y; refine (kind_any y _ H2.out H3.out).mono ?_; rintro e w1 ⟨rfl, hb⟩; replace hB := bstep hB hb; clear hb)
    | (go_at_call_has 16 x; refine (text_any x _ (ht.below hB) H0.out H1.out).mono ?_; rintro e w1 ⟨rfl, hb⟩; replace hB := bstep hB hb; clear hb)
    | (go_at_call_has 16 y; refine (text_any y _ (ht.below hB) H2.out H3.out).mono ?_; rintro e w1 ⟨rfl, hb⟩; replace hB := bstep hB hb; clear hb)
    | (go_at_call_has 14 x; refine (parts_any x _ H0.out H1.out).mono ?_; rintro e w1 ⟨rfl, hb⟩; replace hB := bstep hB hb; clear hb)
    | (go_at_call_has 14 y; refine (parts_any y _ H2.out H3.out).mono ?_; rintro e w1 ⟨rfl, hb⟩; replace hB := bstep hB hb; clear hb))
  go_ret
  exact ⟨by first | rfl | exact congrArg (fun b => Ending.returned (Value.bool b)) (show _ = true by first | (simp; omega) | (have a1 : ¬ x < y := (by omega); have a2 : ¬ p1 x < p1 y := (by omega); have a3 : ¬ p2 x < p2 y := (by omega); simp [a1, a2, a3])), hB⟩
set_option maxHeartbeats 1000000 in
theorem ord_34_eql (x y : Int) (h0 : 0 ≤ x) (h1 : x < 18446744073709551616) (h2 : 0 ≤ y) (h3 : y < 18446744073709551616) (w : World) (ht : Tab w) (kx : kindOf x = 3) (ky : kindOf y = 4) (tx : textE x = 0) (ty : textE y = 0) (hs : ((textOf x).toList == (textOf y).toList) = false) (hxy : (x == y) = false) (hlt : x < y) (hu : ¬ p1 x < p1 y) (hv : (p1 x == p1 y) = true) (hw : p2 x < p2 y) :
    Calls Tryd.prog 7 #[.int .u64 x, .int .u64 y] w fun e w' => e = .returned (.bool true) ∧ Below w.heap.size w w' := by
  have H0 : Hid (0 ≤ x) := h0
  have H1 : Hid (x < 18446744073709551616) := h1
  have H2 : Hid (0 ≤ y) := h2
  have H3 : Hid (y < 18446744073709551616) := h3
  have hB := Below.refl w.heap.size w
  clear h0 h1 h2 h3
  go_enter Tryd.func7, Tryd.ntmps7
  go_wp2_with (first
    | (go_at_call 8; refine (wakes_any _ ht).mono ?_; rintro e w1 ⟨rfl, hb⟩; replace hB := bstep hB hb; clear hb)
    | (go_at_call_has 18 x; refine (kind_any x _ H0.out H1.out).mono ?_; rintro e w1 ⟨rfl, hb⟩; replace hB := bstep hB hb; clear hb)
    | (go_at_call_has 18 y; refine (kind_any y _ H2.out H3.out).mono ?_; rintro e w1 ⟨rfl, hb⟩; replace hB := bstep hB hb; clear hb)
    | (go_at_call_has 16 x; refine (text_any x _ (ht.below hB) H0.out H1.out).mono ?_; rintro e w1 ⟨rfl, hb⟩; replace hB := bstep hB hb; clear hb)
    | (go_at_call_has 16 y; refine (text_any y _ (ht.below hB) H2.out H3.out).mono ?_; rintro e w1 ⟨rfl, hb⟩; replace hB := bstep hB hb; clear hb)
    | (go_at_call_has 14 x; refine (parts_any x _ H0.out H1.out).mono ?_; rintro e w1 ⟨rfl, hb⟩; replace hB := bstep hB hb; clear hb)
    | (go_at_call_has 14 y; refine (parts_any y _ H2.out H3.out).mono ?_; rintro e w1 ⟨rfl, hb⟩; replace hB := bstep hB hb; clear hb))
  go_ret
  exact ⟨by first | rfl | exact congrArg (fun b => Ending.returned (Value.bool b)) (show _ = true by first | (simp; omega) | (have a1 : ¬ x < y := (by omega); have a2 : ¬ p1 x < p1 y := (by omega); have a3 : ¬ p2 x < p2 y := (by omega); simp [a1, a2, a3])), hB⟩
set_option maxHeartbeats 1000000 in
theorem ord_34_eqg (x y : Int) (h0 : 0 ≤ x) (h1 : x < 18446744073709551616) (h2 : 0 ≤ y) (h3 : y < 18446744073709551616) (w : World) (ht : Tab w) (kx : kindOf x = 3) (ky : kindOf y = 4) (tx : textE x = 0) (ty : textE y = 0) (hs : ((textOf x).toList == (textOf y).toList) = false) (hxy : (x == y) = false) (hlt : ¬ x < y) (hu : ¬ p1 x < p1 y) (hv : (p1 x == p1 y) = true) (hw : ¬ p2 x < p2 y) :
    Calls Tryd.prog 7 #[.int .u64 x, .int .u64 y] w fun e w' => e = .returned (.bool true) ∧ Below w.heap.size w w' := by
  have H0 : Hid (0 ≤ x) := h0
  have H1 : Hid (x < 18446744073709551616) := h1
  have H2 : Hid (0 ≤ y) := h2
  have H3 : Hid (y < 18446744073709551616) := h3
  have hB := Below.refl w.heap.size w
  clear h0 h1 h2 h3
  go_enter Tryd.func7, Tryd.ntmps7
  go_wp2_with (first
    | (go_at_call 8; refine (wakes_any _ ht).mono ?_; rintro e w1 ⟨rfl, hb⟩; replace hB := bstep hB hb; clear hb)
    | (go_at_call_has 18 x; refine (kind_any x _ H0.out H1.out).mono ?_; rintro e w1 ⟨rfl, hb⟩; replace hB := bstep hB hb; clear hb)
    | (go_at_call_has 18 y; refine (kind_any y _ H2.out H3.out).mono ?_; rintro e w1 ⟨rfl, hb⟩; replace hB := bstep hB hb; clear hb)
    | (go_at_call_has 16 x; refine (text_any x _ (ht.below hB) H0.out H1.out).mono ?_; rintro e w1 ⟨rfl, hb⟩; replace hB := bstep hB hb; clear hb)
    | (go_at_call_has 16 y; refine (text_any y _ (ht.below hB) H2.out H3.out).mono ?_; rintro e w1 ⟨rfl, hb⟩; replace hB := bstep hB hb; clear hb)
    | (go_at_call_has 14 x; refine (parts_any x _ H0.out H1.out).mono ?_; rintro e w1 ⟨rfl, hb⟩; replace hB := bstep hB hb; clear hb)
    | (go_at_call_has 14 y; refine (parts_any y _ H2.out H3.out).mono ?_; rintro e w1 ⟨rfl, hb⟩; replace hB := bstep hB hb; clear hb))
  go_ret
  exact ⟨by first | rfl | exact congrArg (fun b => Ending.returned (Value.bool b)) (show _ = true by first | (simp; omega) | (have a1 : ¬ x < y := (by omega); have a2 : ¬ p1 x < p1 y := (by omega); have a3 : ¬ p2 x < p2 y := (by omega); simp [a1, a2, a3])), hB⟩
set_option maxHeartbeats 1000000 in
theorem ord_41 (x y : Int) (h0 : 0 ≤ x) (h1 : x < 18446744073709551616) (h2 : 0 ≤ y) (h3 : y < 18446744073709551616) (w : World) (ht : Tab w) (kx : kindOf x = 4) (ky : kindOf y = 1) (tx : textE x = 0) (ty : textE y = 0) (hs : ((textOf x).toList == (textOf y).toList) = false) (hxy : (x == y) = false) (hlt : ¬ x < y) :
    Calls Tryd.prog 7 #[.int .u64 x, .int .u64 y] w fun e w' => e = .returned (.bool true) ∧ Below w.heap.size w w' := by
  have H0 : Hid (0 ≤ x) := h0
  have H1 : Hid (x < 18446744073709551616) := h1
  have H2 : Hid (0 ≤ y) := h2
  have H3 : Hid (y < 18446744073709551616) := h3
  have hB := Below.refl w.heap.size w
  clear h0 h1 h2 h3
  go_enter Tryd.func7, Tryd.ntmps7
  go_wp2_with (first
    | (go_at_call 8; refine (wakes_any _ ht).mono ?_; rintro e w1 ⟨rfl, hb⟩; replace hB := bstep hB hb; clear hb)
    | (go_at_call_has 18 x; refine (kind_any x _ H0.out H1.out).mono ?_; rintro e w1 ⟨rfl, hb⟩; replace hB := bstep hB hb; clear hb)
    | (go_at_call_has 18 y; refine (kind_any y _ H2.out H3.out).mono ?_; rintro e w1 ⟨rfl, hb⟩; replace hB := bstep hB hb; clear hb)
    | (go_at_call_has 16 x; refine (text_any x _ (ht.below hB) H0.out H1.out).mono ?_; rintro e w1 ⟨rfl, hb⟩; replace hB := bstep hB hb; clear hb)
    | (go_at_call_has 16 y; refine (text_any y _ (ht.below hB) H2.out H3.out).mono ?_; rintro e w1 ⟨rfl, hb⟩; replace hB := bstep hB hb; clear hb)
    | (go_at_call_has 14 x; refine (parts_any x _ H0.out H1.out).mono ?_; rintro e w1 ⟨rfl, hb⟩; replace hB := bstep hB hb; clear hb)
    | (go_at_call_has 14 y; refine (parts_any y _ H2.out H3.out).mono ?_; rintro e w1 ⟨rfl, hb⟩; replace hB := bstep hB hb; clear hb))
  go_ret
  exact ⟨by first | rfl | exact congrArg (fun b => Ending.returned (Value.bool b)) (show _ = true by first | (simp; omega) | (have a1 : ¬ x < y := (by omega); have a2 : ¬ p1 x < p1 y := (by omega); have a3 : ¬ p2 x < p2 y := (by omega); simp [a1, a2, a3])), hB⟩
set_option maxHeartbeats 1000000 in
theorem ord_42 (x y : Int) (h0 : 0 ≤ x) (h1 : x < 18446744073709551616) (h2 : 0 ≤ y) (h3 : y < 18446744073709551616) (w : World) (ht : Tab w) (kx : kindOf x = 4) (ky : kindOf y = 2) (tx : textE x = 0) (ty : textE y = 0) (hs : ((textOf x).toList == (textOf y).toList) = false) (hxy : (x == y) = false) (hlt : ¬ x < y) :
    Calls Tryd.prog 7 #[.int .u64 x, .int .u64 y] w fun e w' => e = .returned (.bool true) ∧ Below w.heap.size w w' := by
  have H0 : Hid (0 ≤ x) := h0
  have H1 : Hid (x < 18446744073709551616) := h1
  have H2 : Hid (0 ≤ y) := h2
  have H3 : Hid (y < 18446744073709551616) := h3
  have hB := Below.refl w.heap.size w
  clear h0 h1 h2 h3
  go_enter Tryd.func7, Tryd.ntmps7
  go_wp2_with (first
    | (go_at_call 8; refine (wakes_any _ ht).mono ?_; rintro e w1 ⟨rfl, hb⟩; replace hB := bstep hB hb; clear hb)
    | (go_at_call_has 18 x; refine (kind_any x _ H0.out H1.out).mono ?_; rintro e w1 ⟨rfl, hb⟩; replace hB := bstep hB hb; clear hb)
    | (go_at_call_has 18 y; refine (kind_any y _ H2.out H3.out).mono ?_; rintro e w1 ⟨rfl, hb⟩; replace hB := bstep hB hb; clear hb)
    | (go_at_call_has 16 x; refine (text_any x _ (ht.below hB) H0.out H1.out).mono ?_; rintro e w1 ⟨rfl, hb⟩; replace hB := bstep hB hb; clear hb)
    | (go_at_call_has 16 y; refine (text_any y _ (ht.below hB) H2.out H3.out).mono ?_; rintro e w1 ⟨rfl, hb⟩; replace hB := bstep hB hb; clear hb)
    | (go_at_call_has 14 x; refine (parts_any x _ H0.out H1.out).mono ?_; rintro e w1 ⟨rfl, hb⟩; replace hB := bstep hB hb; clear hb)
    | (go_at_call_has 14 y; refine (parts_any y _ H2.out H3.out).mono ?_; rintro e w1 ⟨rfl, hb⟩; replace hB := bstep hB hb; clear hb))
  go_ret
  exact ⟨by first | rfl | exact congrArg (fun b => Ending.returned (Value.bool b)) (show _ = true by first | (simp; omega) | (have a1 : ¬ x < y := (by omega); have a2 : ¬ p1 x < p1 y := (by omega); have a3 : ¬ p2 x < p2 y := (by omega); simp [a1, a2, a3])), hB⟩
set_option maxHeartbeats 1000000 in
theorem ord_43_lt (x y : Int) (h0 : 0 ≤ x) (h1 : x < 18446744073709551616) (h2 : 0 ≤ y) (h3 : y < 18446744073709551616) (w : World) (ht : Tab w) (kx : kindOf x = 4) (ky : kindOf y = 3) (tx : textE x = 0) (ty : textE y = 0) (hs : ((textOf x).toList == (textOf y).toList) = false) (hxy : (x == y) = false) (hlt : x < y) (hu : p1 x < p1 y) :
    Calls Tryd.prog 7 #[.int .u64 x, .int .u64 y] w fun e w' => e = .returned (.bool true) ∧ Below w.heap.size w w' := by
  have H0 : Hid (0 ≤ x) := h0
  have H1 : Hid (x < 18446744073709551616) := h1
  have H2 : Hid (0 ≤ y) := h2
  have H3 : Hid (y < 18446744073709551616) := h3
  have hB := Below.refl w.heap.size w
  clear h0 h1 h2 h3
  go_enter Tryd.func7, Tryd.ntmps7
  go_wp2_with (first
    | (go_at_call 8; refine (wakes_any _ ht).mono ?_; rintro e w1 ⟨rfl, hb⟩; replace hB := bstep hB hb; clear hb)
    | (go_at_call_has 18 x; refine (kind_any x _ H0.out H1.out).mono ?_; rintro e w1 ⟨rfl, hb⟩; replace hB := bstep hB hb; clear hb)
    | (go_at_call_has 18 y; refine (kind_any y _ H2.out H3.out).mono ?_; rintro e w1 ⟨rfl, hb⟩; replace hB := bstep hB hb; clear hb)
    | (go_at_call_has 16 x; refine (text_any x _ (ht.below hB) H0.out H1.out).mono ?_; rintro e w1 ⟨rfl, hb⟩; replace hB := bstep hB hb; clear hb)
    | (go_at_call_has 16 y; refine (text_any y _ (ht.below hB) H2.out H3.out).mono ?_; rintro e w1 ⟨rfl, hb⟩; replace hB := bstep hB hb; clear hb)
    | (go_at_call_has 14 x; refine (parts_any x _ H0.out H1.out).mono ?_; rintro e w1 ⟨rfl, hb⟩; replace hB := bstep hB hb; clear hb)
    | (go_at_call_has 14 y; refine (parts_any y _ H2.out H3.out).mono ?_; rintro e w1 ⟨rfl, hb⟩; replace hB := bstep hB hb; clear hb))
  go_ret
  exact ⟨by first | rfl | exact congrArg (fun b => Ending.returned (Value.bool b)) (show _ = true by first | (simp; omega) | (have a1 : ¬ x < y := (by omega); have a2 : ¬ p1 x < p1 y := (by omega); have a3 : ¬ p2 x < p2 y := (by omega); simp [a1, a2, a3])), hB⟩
set_option maxHeartbeats 1000000 in
theorem ord_43_gt (x y : Int) (h0 : 0 ≤ x) (h1 : x < 18446744073709551616) (h2 : 0 ≤ y) (h3 : y < 18446744073709551616) (w : World) (ht : Tab w) (kx : kindOf x = 4) (ky : kindOf y = 3) (tx : textE x = 0) (ty : textE y = 0) (hs : ((textOf x).toList == (textOf y).toList) = false) (hxy : (x == y) = false) (hlt : ¬ x < y) (hu : ¬ p1 x < p1 y) (hv : (p1 x == p1 y) = false) :
    Calls Tryd.prog 7 #[.int .u64 x, .int .u64 y] w fun e w' => e = .returned (.bool true) ∧ Below w.heap.size w w' := by
  have H0 : Hid (0 ≤ x) := h0
  have H1 : Hid (x < 18446744073709551616) := h1
  have H2 : Hid (0 ≤ y) := h2
  have H3 : Hid (y < 18446744073709551616) := h3
  have hB := Below.refl w.heap.size w
  clear h0 h1 h2 h3
  go_enter Tryd.func7, Tryd.ntmps7
  go_wp2_with (first
    | (go_at_call 8; refine (wakes_any _ ht).mono ?_; rintro e w1 ⟨rfl, hb⟩; replace hB := bstep hB hb; clear hb)
    | (go_at_call_has 18 x; refine (kind_any x _ H0.out H1.out).mono ?_; rintro e w1 ⟨rfl, hb⟩; replace hB := bstep hB hb; clear hb)
    | (go_at_call_has 18 y; refine (kind_any y _ H2.out H3.out).mono ?_; rintro e w1 ⟨rfl, hb⟩; replace hB := bstep hB hb; clear hb)
    | (go_at_call_has 16 x; refine (text_any x _ (ht.below hB) H0.out H1.out).mono ?_; rintro e w1 ⟨rfl, hb⟩; replace hB := bstep hB hb; clear hb)
    | (go_at_call_has 16 y; refine (text_any y _ (ht.below hB) H2.out H3.out).mono ?_; rintro e w1 ⟨rfl, hb⟩; replace hB := bstep hB hb; clear hb)
    | (go_at_call_has 14 x; refine (parts_any x _ H0.out H1.out).mono ?_; rintro e w1 ⟨rfl, hb⟩; replace hB := bstep hB hb; clear hb)
    | (go_at_call_has 14 y; refine (parts_any y _ H2.out H3.out).mono ?_; rintro e w1 ⟨rfl, hb⟩; replace hB := bstep hB hb; clear hb))
  go_ret
  exact ⟨by first | rfl | exact congrArg (fun b => Ending.returned (Value.bool b)) (show _ = true by first | (simp; omega) | (have a1 : ¬ x < y := (by omega); have a2 : ¬ p1 x < p1 y := (by omega); have a3 : ¬ p2 x < p2 y := (by omega); simp [a1, a2, a3])), hB⟩
set_option maxHeartbeats 1000000 in
theorem ord_43_eql (x y : Int) (h0 : 0 ≤ x) (h1 : x < 18446744073709551616) (h2 : 0 ≤ y) (h3 : y < 18446744073709551616) (w : World) (ht : Tab w) (kx : kindOf x = 4) (ky : kindOf y = 3) (tx : textE x = 0) (ty : textE y = 0) (hs : ((textOf x).toList == (textOf y).toList) = false) (hxy : (x == y) = false) (hlt : x < y) (hu : ¬ p1 x < p1 y) (hv : (p1 x == p1 y) = true) (hw : p2 x < p2 y) :
    Calls Tryd.prog 7 #[.int .u64 x, .int .u64 y] w fun e w' => e = .returned (.bool true) ∧ Below w.heap.size w w' := by
  have H0 : Hid (0 ≤ x) := h0
  have H1 : Hid (x < 18446744073709551616) := h1
  have H2 : Hid (0 ≤ y) := h2
  have H3 : Hid (y < 18446744073709551616) := h3
  have hB := Below.refl w.heap.size w
  clear h0 h1 h2 h3
  go_enter Tryd.func7, Tryd.ntmps7
  go_wp2_with (first
    | (go_at_call 8; refine (wakes_any _ ht).mono ?_; rintro e w1 ⟨rfl, hb⟩; replace hB := bstep hB hb; clear hb)
    | (go_at_call_has 18 x; refine (kind_any x _ H0.out H1.out).mono ?_; rintro e w1 ⟨rfl, hb⟩; replace hB := bstep hB hb; clear hb)
    | (go_at_call_has 18 y; refine (kind_any y _ H2.out H3.out).mono ?_; rintro e w1 ⟨rfl, hb⟩; replace hB := bstep hB hb; clear hb)
    | (go_at_call_has 16 x; refine (text_any x _ (ht.below hB) H0.out H1.out).mono ?_; rintro e w1 ⟨rfl, hb⟩; replace hB := bstep hB hb; clear hb)
    | (go_at_call_has 16 y; refine (text_any y _ (ht.below hB) H2.out H3.out).mono ?_; rintro e w1 ⟨rfl, hb⟩; replace hB := bstep hB hb; clear hb)
    | (go_at_call_has 14 x; refine (parts_any x _ H0.out H1.out).mono ?_; rintro e w1 ⟨rfl, hb⟩; replace hB := bstep hB hb; clear hb)
    | (go_at_call_has 14 y; refine (parts_any y _ H2.out H3.out).mono ?_; rintro e w1 ⟨rfl, hb⟩; replace hB := bstep hB hb; clear hb))
  go_ret
  exact ⟨by first | rfl | exact congrArg (fun b => Ending.returned (Value.bool b)) (show _ = true by first | (simp; omega) | (have a1 : ¬ x < y := (by omega); have a2 : ¬ p1 x < p1 y := (by omega); have a3 : ¬ p2 x < p2 y := (by omega); simp [a1, a2, a3])), hB⟩
set_option maxHeartbeats 1000000 in
theorem ord_43_eqg (x y : Int) (h0 : 0 ≤ x) (h1 : x < 18446744073709551616) (h2 : 0 ≤ y) (h3 : y < 18446744073709551616) (w : World) (ht : Tab w) (kx : kindOf x = 4) (ky : kindOf y = 3) (tx : textE x = 0) (ty : textE y = 0) (hs : ((textOf x).toList == (textOf y).toList) = false) (hxy : (x == y) = false) (hlt : ¬ x < y) (hu : ¬ p1 x < p1 y) (hv : (p1 x == p1 y) = true) (hw : ¬ p2 x < p2 y) :
    Calls Tryd.prog 7 #[.int .u64 x, .int .u64 y] w fun e w' => e = .returned (.bool true) ∧ Below w.heap.size w w' := by
  have H0 : Hid (0 ≤ x) := h0
  have H1 : Hid (x < 18446744073709551616) := h1
  have H2 : Hid (0 ≤ y) := h2
  have H3 : Hid (y < 18446744073709551616) := h3
  have hB := Below.refl w.heap.size w
  clear h0 h1 h2 h3
  go_enter Tryd.func7, Tryd.ntmps7
  go_wp2_with (first
    | (go_at_call 8; refine (wakes_any _ ht).mono ?_; rintro e w1 ⟨rfl, hb⟩; replace hB := bstep hB hb; clear hb)
    | (go_at_call_has 18 x; refine (kind_any x _ H0.out H1.out).mono ?_; rintro e w1 ⟨rfl, hb⟩; replace hB := bstep hB hb; clear hb)
    | (go_at_call_has 18 y; refine (kind_any y _ H2.out H3.out).mono ?_; rintro e w1 ⟨rfl, hb⟩; replace hB := bstep hB hb; clear hb)
    | (go_at_call_has 16 x; refine (text_any x _ (ht.below hB) H0.out H1.out).mono ?_; rintro e w1 ⟨rfl, hb⟩; replace hB := bstep hB hb; clear hb)
    | (go_at_call_has 16 y; refine (text_any y _ (ht.below hB) H2.out H3.out).mono ?_; rintro e w1 ⟨rfl, hb⟩; replace hB := bstep hB hb; clear hb)
    | (go_at_call_has 14 x; refine (parts_any x _ H0.out H1.out).mono ?_; rintro e w1 ⟨rfl, hb⟩; replace hB := bstep hB hb; clear hb)
    | (go_at_call_has 14 y; refine (parts_any y _ H2.out H3.out).mono ?_; rintro e w1 ⟨rfl, hb⟩; replace hB := bstep hB hb; clear hb))
  go_ret
  exact ⟨by first | rfl | exact congrArg (fun b => Ending.returned (Value.bool b)) (show _ = true by first | (simp; omega) | (have a1 : ¬ x < y := (by omega); have a2 : ¬ p1 x < p1 y := (by omega); have a3 : ¬ p2 x < p2 y := (by omega); simp [a1, a2, a3])), hB⟩
set_option maxHeartbeats 1000000 in
theorem ord_44_lt (x y : Int) (h0 : 0 ≤ x) (h1 : x < 18446744073709551616) (h2 : 0 ≤ y) (h3 : y < 18446744073709551616) (w : World) (ht : Tab w) (kx : kindOf x = 4) (ky : kindOf y = 4) (tx : textE x = 0) (ty : textE y = 0) (hs : ((textOf x).toList == (textOf y).toList) = false) (hxy : (x == y) = false) (hlt : x < y) (hu : p1 x < p1 y) :
    Calls Tryd.prog 7 #[.int .u64 x, .int .u64 y] w fun e w' => e = .returned (.bool true) ∧ Below w.heap.size w w' := by
  have H0 : Hid (0 ≤ x) := h0
  have H1 : Hid (x < 18446744073709551616) := h1
  have H2 : Hid (0 ≤ y) := h2
  have H3 : Hid (y < 18446744073709551616) := h3
  have hB := Below.refl w.heap.size w
  clear h0 h1 h2 h3
  go_enter Tryd.func7, Tryd.ntmps7
  go_wp2_with (first
    | (go_at_call 8; refine (wakes_any _ ht).mono ?_; rintro e w1 ⟨rfl, hb⟩; replace hB := bstep hB hb; clear hb)
    | (go_at_call_has 18 x; refine (kind_any x _ H0.out H1.out).mono ?_; rintro e w1 ⟨rfl, hb⟩; replace hB := bstep hB hb; clear hb)
    | (go_at_call_has 18 y; refine (kind_any y _ H2.out H3.out).mono ?_; rintro e w1 ⟨rfl, hb⟩; replace hB := bstep hB hb; clear hb)
    | (go_at_call_has 16 x; refine (text_any x _ (ht.below hB) H0.out H1.out).mono ?_; rintro e w1 ⟨rfl, hb⟩; replace hB := bstep hB hb; clear hb)
    | (go_at_call_has 16 y; refine (text_any y _ (ht.below hB) H2.out H3.out).mono ?_; rintro e w1 ⟨rfl, hb⟩; replace hB := bstep hB hb; clear hb)
    | (go_at_call_has 14 x; refine (parts_any x _ H0.out H1.out).mono ?_; rintro e w1 ⟨rfl, hb⟩; replace hB := bstep hB hb; clear hb)
    | (go_at_call_has 14 y; refine (parts_any y _ H2.out H3.out).mono ?_; rintro e w1 ⟨rfl, hb⟩; replace hB := bstep hB hb; clear hb))
  go_ret
  exact ⟨by first | rfl | exact congrArg (fun b => Ending.returned (Value.bool b)) (show _ = true by first | (simp; omega) | (have a1 : ¬ x < y := (by omega); have a2 : ¬ p1 x < p1 y := (by omega); have a3 : ¬ p2 x < p2 y := (by omega); simp [a1, a2, a3])), hB⟩
set_option maxHeartbeats 1000000 in
theorem ord_44_gt (x y : Int) (h0 : 0 ≤ x) (h1 : x < 18446744073709551616) (h2 : 0 ≤ y) (h3 : y < 18446744073709551616) (w : World) (ht : Tab w) (kx : kindOf x = 4) (ky : kindOf y = 4) (tx : textE x = 0) (ty : textE y = 0) (hs : ((textOf x).toList == (textOf y).toList) = false) (hxy : (x == y) = false) (hlt : ¬ x < y) (hu : ¬ p1 x < p1 y) (hv : (p1 x == p1 y) = false) :
    Calls Tryd.prog 7 #[.int .u64 x, .int .u64 y] w fun e w' => e = .returned (.bool true) ∧ Below w.heap.size w w' := by
  have H0 : Hid (0 ≤ x) := h0
  have H1 : Hid (x < 18446744073709551616) := h1
  have H2 : Hid (0 ≤ y) := h2
  have H3 : Hid (y < 18446744073709551616) := h3
  have hB := Below.refl w.heap.size w
  clear h0 h1 h2 h3
  go_enter Tryd.func7, Tryd.ntmps7
  go_wp2_with (first
    | (go_at_call 8; refine (wakes_any _ ht).mono ?_; rintro e w1 ⟨rfl, hb⟩; replace hB := bstep hB hb; clear hb)
    | (go_at_call_has 18 x; refine (kind_any x _ H0.out H1.out).mono ?_; rintro e w1 ⟨rfl, hb⟩; replace hB := bstep hB hb; clear hb)
    | (go_at_call_has 18 y; refine (kind_any y _ H2.out H3.out).mono ?_; rintro e w1 ⟨rfl, hb⟩; replace hB := bstep hB hb; clear hb)
    | (go_at_call_has 16 x; refine (text_any x _ (ht.below hB) H0.out H1.out).mono ?_; rintro e w1 ⟨rfl, hb⟩; replace hB := bstep hB hb; clear hb)
    | (go_at_call_has 16 y; refine (text_any y _ (ht.below hB) H2.out H3.out).mono ?_; rintro e w1 ⟨rfl, hb⟩; replace hB := bstep hB hb; clear hb)
    | (go_at_call_has 14 x; refine (parts_any x _ H0.out H1.out).mono ?_; rintro e w1 ⟨rfl, hb⟩; replace hB := bstep hB hb; clear hb)
    | (go_at_call_has 14 y; refine (parts_any y _ H2.out H3.out).mono ?_; rintro e w1 ⟨rfl, hb⟩; replace hB := bstep hB hb; clear hb))
  go_ret
  exact ⟨by first | rfl | exact congrArg (fun b => Ending.returned (Value.bool b)) (show _ = true by first | (simp; omega) | (have a1 : ¬ x < y := (by omega); have a2 : ¬ p1 x < p1 y := (by omega); have a3 : ¬ p2 x < p2 y := (by omega); simp [a1, a2, a3])), hB⟩
set_option maxHeartbeats 1000000 in
theorem ord_44_eql (x y : Int) (h0 : 0 ≤ x) (h1 : x < 18446744073709551616) (h2 : 0 ≤ y) (h3 : y < 18446744073709551616) (w : World) (ht : Tab w) (kx : kindOf x = 4) (ky : kindOf y = 4) (tx : textE x = 0) (ty : textE y = 0) (hs : ((textOf x).toList == (textOf y).toList) = false) (hxy : (x == y) = false) (hlt : x < y) (hu : ¬ p1 x < p1 y) (hv : (p1 x == p1 y) = true) (hw : p2 x < p2 y) :
    Calls Tryd.prog 7 #[.int .u64 x, .int .u64 y] w fun e w' => e = .returned (.bool true) ∧ Below w.heap.size w w' := by
  have H0 : Hid (0 ≤ x) := h0
  have H1 : Hid (x < 18446744073709551616) := h1
  have H2 : Hid (0 ≤ y) := h2
  have H3 : Hid (y < 18446744073709551616) := h3
  have hB := Below.refl w.heap.size w
  clear h0 h1 h2 h3
  go_enter Tryd.func7, Tryd.ntmps7
  go_wp2_with (first
    | (go_at_call 8; refine (wakes_any _ ht).mono ?_; rintro e w1 ⟨rfl, hb⟩; replace hB := bstep hB hb; clear hb)
    | (go_at_call_has 18 x; refine (kind_any x _ H0.out H1.out).mono ?_; rintro e w1 ⟨rfl, hb⟩; replace hB := bstep hB hb; clear hb)
    | (go_at_call_has 18 y; refine (kind_any y _ H2.out H3.out).mono ?_; rintro e w1 ⟨rfl, hb⟩; replace hB := bstep hB hb; clear hb)
    | (go_at_call_has 16 x; refine (text_any x _ (ht.below hB) H0.out H1.out).mono ?_; rintro e w1 ⟨rfl, hb⟩; replace hB := bstep hB hb; clear hb)
    | (go_at_call_has 16 y; refine (text_any y _ (ht.below hB) H2.out H3.out).mono ?_; rintro e w1 ⟨rfl, hb⟩; replace hB := bstep hB hb; clear hb)
    | (go_at_call_has 14 x; refine (parts_any x _ H0.out H1.out).mono ?_; rintro e w1 ⟨rfl, hb⟩; replace hB := bstep hB hb; clear hb)
    | (go_at_call_has 14 y; refine (parts_any y _ H2.out H3.out).mono ?_; rintro e w1 ⟨rfl, hb⟩; replace hB := bstep hB hb; clear hb))
  go_ret
  exact ⟨by first | rfl | exact congrArg (fun b => Ending.returned (Value.bool b)) (show _ = true by first | (simp; omega) | (have a1 : ¬ x < y := (by omega); have a2 : ¬ p1 x < p1 y := (by omega); have a3 : ¬ p2 x < p2 y := (by omega); simp [a1, a2, a3])), hB⟩
set_option maxHeartbeats 1000000 in
theorem ord_44_eqg (x y : Int) (h0 : 0 ≤ x) (h1 : x < 18446744073709551616) (h2 : 0 ≤ y) (h3 : y < 18446744073709551616) (w : World) (ht : Tab w) (kx : kindOf x = 4) (ky : kindOf y = 4) (tx : textE x = 0) (ty : textE y = 0) (hs : ((textOf x).toList == (textOf y).toList) = false) (hxy : (x == y) = false) (hlt : ¬ x < y) (hu : ¬ p1 x < p1 y) (hv : (p1 x == p1 y) = true) (hw : ¬ p2 x < p2 y) :
    Calls Tryd.prog 7 #[.int .u64 x, .int .u64 y] w fun e w' => e = .returned (.bool true) ∧ Below w.heap.size w w' := by
  have H0 : Hid (0 ≤ x) := h0
  have H1 : Hid (x < 18446744073709551616) := h1
  have H2 : Hid (0 ≤ y) := h2
  have H3 : Hid (y < 18446744073709551616) := h3
  have hB := Below.refl w.heap.size w
  clear h0 h1 h2 h3
  go_enter Tryd.func7, Tryd.ntmps7
  go_wp2_with (first
    | (go_at_call 8; refine (wakes_any _ ht).mono ?_; rintro e w1 ⟨rfl, hb⟩; replace hB := bstep hB hb; clear hb)
    | (go_at_call_has 18 x; refine (kind_any x _ H0.out H1.out).mono ?_; rintro e w1 ⟨rfl, hb⟩; replace hB := bstep hB hb; clear hb)
    | (go_at_call_has 18 y; refine (kind_any y _ H2.out H3.out).mono ?_; rintro e w1 ⟨rfl, hb⟩; replace hB := bstep hB hb; clear hb)
    | (go_at_call_has 16 x; refine (text_any x _ (ht.below hB) H0.out H1.out).mono ?_; rintro e w1 ⟨rfl, hb⟩; replace hB := bstep hB hb; clear hb)
    | (go_at_call_has 16 y; refine (text_any y _ (ht.below hB) H2.out H3.out).mono ?_; rintro e w1 ⟨rfl, hb⟩; replace hB := bstep hB hb; clear hb)
    | (go_at_call_has 14 x; refine (parts_any x _ H0.out H1.out).mono ?_; rintro e w1 ⟨rfl, hb⟩; replace hB := bstep hB hb; clear hb)
    | (go_at_call_has 14 y; refine (parts_any y _ H2.out H3.out).mono ?_; rintro e w1 ⟨rfl, hb⟩; replace hB := bstep hB hb; clear hb))
  go_ret
  exact ⟨by first | rfl | exact congrArg (fun b => Ending.returned (Value.bool b)) (show _ = true by first | (simp; omega) | (have a1 : ¬ x < y := (by omega); have a2 : ¬ p1 x < p1 y := (by omega); have a3 : ¬ p2 x < p2 y := (by omega); simp [a1, a2, a3])), hB⟩

set_option maxHeartbeats 1000000 in
theorem ord_same1 (x : Int) (h0 : 0 ≤ x) (h1 : x < 18446744073709551616) (w : World) (ht : Tab w) (kx : kindOf x = 1) (tx : textE x = 0) :
    Calls Tryd.prog 7 #[.int .u64 x, .int .u64 x] w fun e w' => e = .returned (.bool true) ∧ Below w.heap.size w w' := by
  have H0 : Hid (0 ≤ x) := h0
  have H1 : Hid (x < 18446744073709551616) := h1
  have hB := Below.refl w.heap.size w
  clear h0 h1
  go_enter Tryd.func7, Tryd.ntmps7
  go_wp2_with (first
    | (go_at_call 8; refine (wakes_any _ ht).mono ?_; rintro e w1 ⟨rfl, hb⟩; replace hB := bstep hB hb; clear hb)
    | (go_at_call 18; refine (kind_any x _ H0.out H1.out).mono ?_; rintro e w1 ⟨rfl, hb⟩; replace hB := bstep hB hb; clear hb)
    | (go_at_call 16; refine (text_any x _ (ht.below hB) H0.out H1.out).mono ?_; rintro e w1 ⟨rfl, hb⟩; replace hB := bstep hB hb; clear hb)
    | (go_at_call 14; refine (parts_any x _ H0.out H1.out).mono ?_; rintro e w1 ⟨rfl, hb⟩; replace hB := bstep hB hb; clear hb))
  go_ret
  exact ⟨rfl, hB⟩

set_option maxHeartbeats 1000000 in
theorem ord_same2 (x : Int) (h0 : 0 ≤ x) (h1 : x < 18446744073709551616) (w : World) (ht : Tab w) (kx : kindOf x = 2) (tx : textE x = 0) :
    Calls Tryd.prog 7 #[.int .u64 x, .int .u64 x] w fun e w' => e = .returned (.bool true) ∧ Below w.heap.size w w' := by
  have H0 : Hid (0 ≤ x) := h0
  have H1 : Hid (x < 18446744073709551616) := h1
  have hB := Below.refl w.heap.size w
  clear h0 h1
  go_enter Tryd.func7, Tryd.ntmps7
  go_wp2_with (first
    | (go_at_call 8; refine (wakes_any _ ht).mono ?_; rintro e w1 ⟨rfl, hb⟩; replace hB := bstep hB hb; clear hb)
    | (go_at_call 18; refine (kind_any x _ H0.out H1.out).mono ?_; rintro e w1 ⟨rfl, hb⟩; replace hB := bstep hB hb; clear hb)
    | (go_at_call 16; refine (text_any x _ (ht.below hB) H0.out H1.out).mono ?_; rintro e w1 ⟨rfl, hb⟩; replace hB := bstep hB hb; clear hb)
    | (go_at_call 14; refine (parts_any x _ H0.out H1.out).mono ?_; rintro e w1 ⟨rfl, hb⟩; replace hB := bstep hB hb; clear hb))
  go_ret
  exact ⟨rfl, hB⟩

set_option maxHeartbeats 1000000 in
theorem ord_same3 (x : Int) (h0 : 0 ≤ x) (h1 : x < 18446744073709551616) (w : World) (ht : Tab w) (kx : kindOf x = 3) (tx : textE x = 0) :
    Calls Tryd.prog 7 #[.int .u64 x, .int .u64 x] w fun e w' => e = .returned (.bool true) ∧ Below w.heap.size w w' := by
  have H0 : Hid (0 ≤ x) := h0
  have H1 : Hid (x < 18446744073709551616) := h1
  have hB := Below.refl w.heap.size w
  clear h0 h1
  go_enter Tryd.func7, Tryd.ntmps7
  go_wp2_with (first
    | (go_at_call 8; refine (wakes_any _ ht).mono ?_; rintro e w1 ⟨rfl, hb⟩; replace hB := bstep hB hb; clear hb)
    | (go_at_call 18; refine (kind_any x _ H0.out H1.out).mono ?_; rintro e w1 ⟨rfl, hb⟩; replace hB := bstep hB hb; clear hb)
    | (go_at_call 16; refine (text_any x _ (ht.below hB) H0.out H1.out).mono ?_; rintro e w1 ⟨rfl, hb⟩; replace hB := bstep hB hb; clear hb)
    | (go_at_call 14; refine (parts_any x _ H0.out H1.out).mono ?_; rintro e w1 ⟨rfl, hb⟩; replace hB := bstep hB hb; clear hb))
  go_ret
  exact ⟨rfl, hB⟩

set_option maxHeartbeats 1000000 in
theorem ord_same4 (x : Int) (h0 : 0 ≤ x) (h1 : x < 18446744073709551616) (w : World) (ht : Tab w) (kx : kindOf x = 4) (tx : textE x = 0) :
    Calls Tryd.prog 7 #[.int .u64 x, .int .u64 x] w fun e w' => e = .returned (.bool true) ∧ Below w.heap.size w w' := by
  have H0 : Hid (0 ≤ x) := h0
  have H1 : Hid (x < 18446744073709551616) := h1
  have hB := Below.refl w.heap.size w
  clear h0 h1
  go_enter Tryd.func7, Tryd.ntmps7
  go_wp2_with (first
    | (go_at_call 8; refine (wakes_any _ ht).mono ?_; rintro e w1 ⟨rfl, hb⟩; replace hB := bstep hB hb; clear hb)
    | (go_at_call 18; refine (kind_any x _ H0.out H1.out).mono ?_; rintro e w1 ⟨rfl, hb⟩; replace hB := bstep hB hb; clear hb)
    | (go_at_call 16; refine (text_any x _ (ht.below hB) H0.out H1.out).mono ?_; rintro e w1 ⟨rfl, hb⟩; replace hB := bstep hB hb; clear hb)
    | (go_at_call 14; refine (parts_any x _ H0.out H1.out).mono ?_; rintro e w1 ⟨rfl, hb⟩; replace hB := bstep hB hb; clear hb))
  go_ret
  exact ⟨rfl, hB⟩
end Go.Proofs.YtpamgcmjhfojeaaDoor
