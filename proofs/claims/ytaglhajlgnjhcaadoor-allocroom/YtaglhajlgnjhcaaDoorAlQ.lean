/- 'every' over entities, with what Give asks of each. -/
import Derived.Test.YtaglhajlgnjhcaaDoorAlO
namespace Go.Proofs.YtaglhajlgnjhcaaDoor
open Go.RowKit

/-- The numbers of a row are those of ids. -/
def idsOk (l : List Int) : Prop := ∀ k, k < l.length → 0 ≤ iG l k ∧ iG l k < 18446744073709551616
def allLive (l : List (Int × Bool)) (ids : List Int) : Bool := (List.range ids.length).all fun j => livesB l (iG ids j)
theorem allLive_true {l : List (Int × Bool)} {f : List Int} (h : ∀ j, j < f.length → livesB l (iG f j) = true) : allLive l f = true := by
  unfold allLive; rw [List.all_eq_true]; intro j hj; exact h j (by simpa using hj)
theorem allLive_false {l : List (Int × Bool)} {f : List Int} (j : Nat) (hj : j < f.length) (h : livesB l (iG f j) = false) : allLive l f = false := by
  rw [Bool.eq_false_iff]; intro h'; unfold allLive at h'; rw [List.all_eq_true] at h'
  have := h' j (by simpa using hj); rw [h] at this; cases this
theorem allLive_at {l : List (Int × Bool)} {f : List Int} (h : allLive l f = true) (j : Nat) (hj : j < f.length) : livesB l (iG f j) = true := by
  unfold allLive at h; rw [List.all_eq_true] at h; exact h j (by simpa using hj)

/-- The boxed allocator that a closure has captured. -/
structure Cap (w : World) (Ba : Nat) (m : Int) (p : Option Addr) (l : List (Int × Bool)) (c : Nat) (q : Option Addr) (k d : Nat) : Prop where
  a0 : w.cell? ⟨Ba, 0, none⟩ = some (.int .i64 m)
  a1 : w.cell? ⟨Ba, 1, none⟩ = some (.slice p l.length c)
  a2 : w.cell? ⟨Ba, 2, none⟩ = some (.slice q k d)
  lt : Ba < w.heap.size
  s : SRow w.heap.size w p l
theorem Cap.below {w w' : World} {Ba : Nat} {m : Int} {p : Option Addr} {l : List (Int × Bool)} {c : Nat} {q : Option Addr} {k d : Nat} (h : Cap w Ba m p l c q k d) (hb : Below w.heap.size w w') : Cap w' Ba m p l c q k d :=
  ⟨(hb.cell (p := ⟨Ba, 0, none⟩) h.lt).trans h.a0, (hb.cell (p := ⟨Ba, 1, none⟩) h.lt).trans h.a1, (hb.cell (p := ⟨Ba, 2, none⟩) h.lt).trans h.a2, Nat.lt_of_lt_of_le h.lt hb.size, (h.s.below hb (Nat.le_refl _)).mono hb.size⟩

theorem give1_any (pl x : Int) (Ba : Nat) (m : Int) (p : Option Addr) (l : List (Int × Bool)) (c : Nat) (q : Option Addr) (k d : Nat) (w : World) (h : Cap w Ba m p l c q k d) (h0 : 0 ≤ x) (h1 : x < 18446744073709551616) (hn : l.length < 1152921504606846976) :
    Calls Tryd.prog 50 #[.int .i64 pl, .int .u64 x, .pointer (some ⟨Ba, 0, none⟩)] w fun e w' => e = .returned (.bool (livesB l x)) ∧ Below w.heap.size w w' := by
  have a0 := h.a0
  have a1 := h.a1
  have a2 := h.a2
  have CL := lives_any m p l c q k d x w h0 h1 h.s hn
  go_enter Tryd.func50, Tryd.ntmps50
  go_wp2_with (first | (go_at_call 43; refine Calls.mono CL ?_; rintro e w1 ⟨rfl, hb⟩))
  go_ret
  exact ⟨rfl, hb⟩

set_option maxHeartbeats 1000000 in
theorem every49 (f : List Int) (qf : Option Addr) (cf : Nat) (Ba : Nat) (m : Int) (p : Option Addr) (l : List (Int × Bool)) (c : Nat) (q : Option Addr) (k d : Nat) (w : World) (h : Cap w Ba m p l c q k d) (hI : IRow .u64 w.heap.size w qf f) (hid : idsOk f) (hn : l.length < 1152921504606846976) (hfn : f.length < 1152921504606846976) :
    Calls Tryd.prog 49 #[.slice qf f.length cf, .func (.func 50) #[] #[.pointer (some ⟨Ba, 0, none⟩)]] w fun e w' => e = .returned (.bool (allLive l f)) ∧ Below w.heap.size w w' := by
  obtain ⟨r, hr⟩ : ∃ r, r = allLive l f := ⟨_, rfl⟩
  rw [← hr]
  have HR : Hid (r = allLive l f) := hr
  have HC : Hid (Cap w Ba m p l c q k d) := h
  have HD : Hid (idsOk f) := hid
  clear hr h hid
  go_enter Tryd.func49, Tryd.ntmps49
  go_wp2
  go_loopw [9] (fun i wr => ∃ x : Nat, x ≤ f.length ∧ i = .int .i64 x ∧ (∀ j, j < x → livesB l (iG f j) = true) ∧ Below w.heap.size w wr) (fun i _ => f.length - (intOf i).toNat)
  case atStart => exact ⟨0, Nat.zero_le _, rfl, fun j h => by omega, Below.refl _ _⟩
  case round =>
    obtain ⟨x, hx, rfl, hall, hbr⟩ := hrel
    have HA : Hid (∀ j, j < x → livesB l (iG f j) = true) := hall
    clear hall
    by_cases hx' : x < f.length
    · obtain ⟨b, off, rfl, hbB, hcs⟩ := (hI.below hbr (Nat.le_refl _)) (by omega)
      have c0 := hcs x hx'
      clear hcs
      have CA := give1_any (x : Int) (iG f x) Ba m p l c q k d wr (HC.out.below hbr) (HD.out x hx').1 (HD.out x hx').2 hn
      cases ho : livesB l (iG f x)
      · rw [ho] at CA
        have HO : Hid (livesB l (iG f x) = false) := ho
        clear ho
        go_wp2_with (first | (go_at_call 50; refine Calls.mono CA ?_; rintro e w1 ⟨rfl, k2⟩))
        go_ret
        have e := allLive_false x hx' HO.out
        exact ⟨ret_bool (by rw [HR.out, e]), hbr.trans (k2.mono hbr.size)⟩
      · rw [ho] at CA
        have HO : Hid (livesB l (iG f x) = true) := ho
        clear ho
        go_wp2_with (first | (go_at_call 50; refine Calls.mono CA ?_; rintro e w1 ⟨rfl, k2⟩))
        go_roundw
        case rel => exact ⟨x + 1, by omega, by go_num, fun j hj => by by_cases e : j = x; { subst e; exact HO.out }; { exact HA.out j (by omega) }, hbr.trans (k2.mono hbr.size)⟩
        case measure => simp [intOf]; omega
    · obtain rfl : x = f.length := by omega
      go_wp2
      go_ret
      exact ⟨ret_bool (by rw [HR.out]; exact (allLive_true HA.out).symm), hbr⟩
end Go.Proofs.YtaglhajlgnjhcaaDoor
