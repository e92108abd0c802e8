/- Check, has, Has, Without, With, Of. -/
import Derived.Test.YtjnhalomkmdcgaaPlT
namespace Go.Proofs.Ytjnhalomkmdcgaa
open Go.RowKit

def FreshP (B : Nat) (p : Option Addr) : Prop := ∀ a, p = some a → B ≤ a.block
/-- The call hands back a row of its own. -/
structure Res (B : Nat) (w : World) (p : Option Addr) (l : List Int) (c : Nat) : Prop where
  row : Row w p l c
  fr : FreshP B p
theorem Res.nil (B : Nat) (w : World) : Res B w none [] 0 := ⟨Row.nil w, fun a h => by cases h⟩
theorem res_own {l : List Int} {w w' : World} {G : Nat} (hG : w.heap.size ≤ G) (hh : w'.heap[G]? = some (.cells (cellsI .u64 l).toArray 41 (0, 0))) (hl : l.length ≤ 1099511627776) : Res w.heap.size w' (some ⟨G, 0, none⟩) l l.length :=
  ⟨⟨irow_heap .u64 hh, Nat.le_refl _, hl, .inr ⟨G, 0, rfl⟩⟩, fun a h => by cases h; exact hG⟩

def chkE (l : List Int) : Int := if mayT l then 0 else 130
def hasB (l : List Int) (x : Int) : Bool := mayT l && decide (x ∈ l)

theorem check_any (p : Option Addr) (l : List Int) (c : Nat) (w : World) (h : Row w p l c) (hU : U64 l) :
    Calls Try.prog 30 #[.slice p l.length c] w fun e w' => e = .returned (.int .i64 (chkE l)) ∧ Below w.heap.size w w' := by
  have CM := mayBe_any p l c w h.i hU (by have := h.n; omega)
  cases hm : mayT l
  · have E : Hid (chkE l = 130) := by unfold Hid chkE; rw [hm]; rfl
    rw [hm] at CM
    clear hm h hU
    go_enter Try.func30, Try.ntmps30
    go_wp2_with (first | (go_at_call 52; refine Calls.mono CM ?_; rintro e w1 ⟨rfl, hb⟩))
    go_ret
    exact ⟨ret_int E.out.symm, hb⟩
  · have E : Hid (chkE l = 0) := by unfold Hid chkE; rw [hm]; rfl
    rw [hm] at CM
    clear hm h hU
    go_enter Try.func30, Try.ntmps30
    go_wp2_with (first | (go_at_call 52; refine Calls.mono CM ?_; rintro e w1 ⟨rfl, hb⟩))
    go_ret
    exact ⟨ret_int E.out.symm, hb⟩

/-- What Without answers. -/
def wouL (l : List Int) (x : Int) : List Int := if hasB l x then delL l x else []
def wouE (l : List Int) (x : Int) : Int := if mayT l then (if decide (x ∈ l) then 0 else 4) else 130
/-- What With answers. -/
def witOk (l : List Int) (x : Int) : Bool := mayT l && canB x && (decide (x ∈ l) || decide (l.length < 12))
def witL (l : List Int) (x : Int) : List Int := if witOk l x then insL l x else []
def witE (l : List Int) (x : Int) : Int := if mayT l then (if canB x then (if decide (x ∈ l) || decide (l.length < 12) then 0 else 6) else 2) else 130

end Go.Proofs.Ytjnhalomkmdcgaa
