/- Of, Add, Back. -/
import Derived.Test.YteclcnfhbgcigaaHaD
namespace Go.Proofs.Yteclcnfhbgcigaa
open Go.RowKit
theorem of10 (p : Option Addr) (l : List Nat) (c : Nat) (w : World) (hS : NRow w.heap.size w p l) (hU : U64 l) (hlen : l.length < 1152921504606846976) :
    Calls Try.prog 10 #[.slice p l.length c] w fun e w' => e = .returned (.int .u64 (hOf l : Nat)) ∧ Below w.heap.size w w' := by
  have CC := added19 14695981039346656037 p l c w (by decide) hS hU hlen
  have e0 : ((14695981039346656037 : Nat) : Int) = 14695981039346656037 := by simp
  rw [e0] at CC
  have HO : Hid (hOf l = l.foldl hId 14695981039346656037) := rfl
  obtain ⟨r, hr⟩ : ∃ r, r = l.foldl hId 14695981039346656037 := ⟨_, rfl⟩
  rw [← hr] at CC HO
  clear hr hS hU
  go_enter Try.func10, Try.ntmps10
  go_wp2_with (first | (go_at_call 19; refine Calls.mono CC ?_; rintro e w2 ⟨rfl, hb2⟩))
  go_ret
  exact ⟨by rw [HO.out]; rfl, hb2⟩
theorem nrow_one (w : World) (x : Nat) : NRow (w.alloc (.cells #[.int .u64 (x : Int)] 27)).heap.size (w.alloc (.cells #[.int .u64 (x : Int)] 27)) (some ⟨w.heap.size, 0, none⟩) [x] := by
  refine fun _ => ⟨w.heap.size, 0, rfl, by rw [World.size_alloc]; omega, fun k hk => ?_⟩
  obtain rfl : k = 0 := by rw [List.length_singleton] at hk; omega
  have e : nG [x] 0 = x := rfl
  rw [e, World.cell?_alloc_at _ _ _ _ rfl]; simp
theorem added_one (h x : Nat) (w : World) (hh : h < 18446744073709551616) (hx : x < 18446744073709551616) :
    Calls Try.prog 19 #[.int .u64 (h : Int), .slice (some ⟨w.heap.size, 0, none⟩) 1 1] (w.alloc (.cells #[.int .u64 (x : Int)] 27)) fun e w' => e = .returned (.int .u64 (hId h x : Nat)) ∧ Below w.heap.size w w' := by
  have CC := added19 h (some ⟨w.heap.size, 0, none⟩) [x] 1 (w.alloc (.cells #[.int .u64 (x : Int)] 27)) hh (nrow_one w x) (fun y hy => by rw [List.mem_singleton] at hy; rw [hy]; exact hx) (by rw [List.length_singleton]; omega)
  rw [List.foldl_cons, List.foldl_nil, List.length_singleton] at CC
  refine CC.mono ?_
  rintro e w' ⟨rfl, hb⟩
  exact ⟨rfl, below1 hb⟩
theorem hadd13 (h x : Nat) (w : World) (hh : h < 18446744073709551616) (hx : x < 18446744073709551616) :
    Calls Try.prog 13 #[.int .u64 (h : Int), .int .u64 (x : Int)] w fun e w' => e = .returned (.int .u64 (hId h x : Nat)) ∧ Below w.heap.size w w' := by
  have CC := added_one h x w hh hx
  obtain ⟨r, hr⟩ : ∃ r, r = hId h x := ⟨_, rfl⟩
  rw [← hr] at CC ⊢
  clear hr hh hx
  go_enter Try.func13, Try.ntmps13
  go_wp2_with (first | (go_at_call 19; refine Calls.mono CC ?_; rintro e w2 ⟨rfl, hb2⟩))
  go_ret
  exact ⟨rfl, hb2⟩
theorem back_thr (h x : Nat) (w : World) (hx : x < 18446744073709551616) :
    Calls Try.prog 23 #[.int .u64 (h : Int), .func (.func 28) #[] #[.pointer (some ⟨w.heap.size + 1, 0, none⟩), .pointer (some ⟨w.heap.size + 1 + 1, 0, none⟩)], .func (.func 22) #[] #[.pointer (some ⟨w.heap.size, 0, none⟩)]] (wB (w.alloc (.cells #[.int .u64 14886173955864302971] 26)) (x : Int) 25) fun e w' => e = .returned (.int .u64 (uId h x : Nat)) ∧ Below w.heap.size w w' := by
  obtain ⟨W, hW⟩ : ∃ W, W = w.alloc (.cells #[.int .u64 14886173955864302971] 26) := ⟨_, rfl⟩
  have hs : W.heap.size = w.heap.size + 1 := by rw [hW, World.size_alloc]
  have hc : W.cell? ⟨w.heap.size, 0, none⟩ = some (.int .u64 14886173955864302971) := by rw [hW]; simp
  have hB : Below w.heap.size w W := by rw [hW]; exact (Below.refl _ _).alloc (Nat.le_refl _) _
  rw [← hW]
  have CC := thr_take h x w.heap.size W hx hc (by omega)
  rw [hs] at CC
  refine CC.mono ?_
  rintro e w' ⟨rfl, hb⟩
  exact ⟨rfl, hB.trans (hb.mono (by omega))⟩
theorem back18 (h x : Nat) (w : World) (hx : x < 18446744073709551616) :
    Calls Try.prog 18 #[.int .u64 (h : Int), .int .u64 (x : Int)] w fun e w' => e = .returned (.int .u64 (uId h x : Nat)) ∧ Below w.heap.size w w' := by
  have CC := back_thr h x w hx
  obtain ⟨r, hr⟩ : ∃ r, r = uId h x := ⟨_, rfl⟩
  rw [← hr] at CC ⊢
  clear hr hx
  go_enter Try.func18, Try.ntmps18
  go_wp2_with (first | (go_at_call 21; refine Calls.mono (undoing21 _) ?_; rintro e w1 ⟨rfl, hw⟩; rw [hw]; clear hw w1) | (go_at_call 24; refine Calls.mono (bytesOf24' (x : Int) 25 _) ?_; rintro e w1 ⟨rfl, hw⟩; rw [hw]; clear hw w1) | (go_at_call 23; refine Calls.mono CC ?_; rintro e w2 ⟨rfl, hb2⟩))
  go_ret
  exact ⟨rfl, hb2⟩

end Go.Proofs.Yteclcnfhbgcigaa
