/- Of, Add, Back. -/
import Derived.Test.YtjnhalomkmdcgaaHaD
namespace Go.Proofs.Ytjnhalomkmdcgaa
open Go.RowKit
theorem of10 (p : Option Addr) (l : List Nat) (c : Nat) (w : World) (hS : NRow w.heap.size w p l) (hU : UN l) (hlen : l.length < 1152921504606846976) :
    Calls Try.prog 64 #[.slice p l.length c] w fun e w' => e = .returned (.int .u64 (hOf l : Nat)) ∧ Below w.heap.size w w' := by
  have CC := added19 14695981039346656037 p l c w (by decide) hS hU hlen
  have e0 : ((14695981039346656037 : Nat) : Int) = 14695981039346656037 := by simp
  rw [e0] at CC
  have HO : Hid (hOf l = l.foldl hId 14695981039346656037) := rfl
  obtain ⟨r, hr⟩ : ∃ r, r = l.foldl hId 14695981039346656037 := ⟨_, rfl⟩
  rw [← hr] at CC HO
  clear hr hS hU
  go_enter Try.func64, Try.ntmps64
  go_wp2_with (first | (go_at_call 76; refine Calls.mono CC ?_; rintro e w2 ⟨rfl, hb2⟩))
  go_ret
  exact ⟨by rw [HO.out]; rfl, hb2⟩
theorem nrow_one (w : World) (x : Nat) : NRow (w.alloc (.cells #[.int .u64 (x : Int)] 41)).heap.size (w.alloc (.cells #[.int .u64 (x : Int)] 41)) (some ⟨w.heap.size, 0, none⟩) [x] := by
  refine fun _ => ⟨w.heap.size, 0, rfl, by rw [World.size_alloc]; omega, fun k hk => ?_⟩
  obtain rfl : k = 0 := by rw [List.length_singleton] at hk; omega
  have e : nG [x] 0 = x := rfl
  rw [e, World.cell?_alloc_at _ _ _ _ rfl]; simp
theorem added_one (h x : Nat) (w : World) (hh : h < 18446744073709551616) (hx : x < 18446744073709551616) :
    Calls Try.prog 76 #[.int .u64 (h : Int), .slice (some ⟨w.heap.size, 0, none⟩) 1 1] (w.alloc (.cells #[.int .u64 (x : Int)] 41)) fun e w' => e = .returned (.int .u64 (hId h x : Nat)) ∧ Below w.heap.size w w' := by
  have CC := added19 h (some ⟨w.heap.size, 0, none⟩) [x] 1 (w.alloc (.cells #[.int .u64 (x : Int)] 41)) hh (nrow_one w x) (fun y hy => by rw [List.mem_singleton] at hy; rw [hy]; exact hx) (by rw [List.length_singleton]; omega)
  rw [List.foldl_cons, List.foldl_nil, List.length_singleton] at CC
  refine CC.mono ?_
  rintro e w' ⟨rfl, hb⟩
  exact ⟨rfl, below1 hb⟩
end Go.Proofs.Ytjnhalomkmdcgaa
