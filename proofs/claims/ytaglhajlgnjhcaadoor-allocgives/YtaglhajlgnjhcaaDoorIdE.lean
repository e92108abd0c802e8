/- Contracts of ident.Entity, ident.Component, ident.Pair. -/
import Derived.Test.YtaglhajlgnjhcaaDoorIdB
namespace Go.Proofs.YtaglhajlgnjhcaaDoor
open Go.RowKit

def entB (i g : Int) : Bool := inR 1 1048578 i && inR 0 7 g
def entV (i g : Int) : Int := if entB i g then mk 0 g i else 0
def entE (i g : Int) : Int := if entB i g then 0 else 2
def comV (n : Int) : Int := if inR 1 24 n then mk 1 0 n else 0
def comE (n : Int) : Int := if inR 1 24 n then 0 else 2
def paiB (r t : Int) : Bool := inR 0 1048578 r && inR 0 1048578 t
def paiV (r t : Int) : Int := if paiB r t then mk 2 r t else 0
def paiE (r t : Int) : Int := if paiB r t then 0 else 2

theorem inR_le {lo hi n : Int} (h : inR lo hi n = true) : lo ≤ n ∧ n ≤ hi := by simpa [inR] using h

theorem below1 {w w' : World} {a : Obj} (h : Below (w.alloc a).heap.size (w.alloc a) w') : Below w.heap.size w w' :=
  ((Below.refl _ _).alloc (Nat.le_refl _) _).trans (h.mono (by simp))
theorem below2 {w w' : World} {a b : Obj} (h : Below ((w.alloc a).alloc b).heap.size ((w.alloc a).alloc b) w') : Below w.heap.size w w' :=
  below1 (below1 h)

theorem entity_any (i g : Int) (w : World) :
    Calls Tryd.prog 64 #[.int .i64 i, .int .i64 g] w fun e w' => e = .returned (.tuple #[.int .u64 (entV i g), .int .i64 (entE i g)]) ∧ Below w.heap.size w w' := by
  have HV : Hid (entV i g = if inR 1 1048578 i && inR 0 7 g then mk 0 g i else 0) := rfl
  have HE : Hid (entE i g = if inR 1 1048578 i && inR 0 7 g then 0 else 2) := rfl
  cases c1 : inR 1 1048578 i
  · go_enter Tryd.func64, Tryd.ntmps64
    go_wp2_with (first | (go_at_call 75; refine Calls.mono (within1n _ _ _ _ _ _ (by simp)) ?_; rintro e w1 ⟨rfl, rfl⟩))
    go_ret2
    exact ⟨by rw [HV.out, HE.out, c1]; rfl, (Below.refl _ _).alloc (Nat.le_refl _) _⟩
  · cases c2 : inR 0 7 g
    · go_enter Tryd.func64, Tryd.ntmps64
      go_wp2_with (first | (go_at_call 75; refine Calls.mono (within1n _ _ _ _ _ _ (by simp)) ?_; rintro e w1 ⟨rfl, rfl⟩))
      go_ret2
      exact ⟨by rw [HV.out, HE.out, c1, c2]; rfl, ((Below.refl _ _).alloc (Nat.le_refl _) _).alloc (by simp) _⟩
    · have hn := inR_le c1
      have hm := inR_le c2
      go_enter Tryd.func64, Tryd.ntmps64
      go_wp2_with (first | (go_at_call 75; refine Calls.mono (within1n _ _ _ _ _ _ (by simp)) ?_; rintro e w1 ⟨rfl, rfl⟩) | (go_at_call 79; refine Calls.mono (join_any _ _ _ _ (by omega) (by omega) (by omega) (by omega) (by omega) (by omega)) ?_; rintro e w1 ⟨rfl, hb⟩))
      go_ret2
      exact ⟨by rw [HV.out, HE.out, c1, c2]; rfl, below2 hb⟩
end Go.Proofs.YtaglhajlgnjhcaaDoor
