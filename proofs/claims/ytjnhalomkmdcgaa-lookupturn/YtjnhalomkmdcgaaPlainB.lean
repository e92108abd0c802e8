/- Contracts of ident.Entity, ident.Component, ident.Pair. -/
/- Contracts of ident.Parts, ident.covers, ident.Takes. -/
/- Plain facts: ids are made again of their parts; reading an id's text ends in the state of which that id is made. -/
import Derived.Test.YtjnhalomkmdcgaaIdB
import Derived.Test.YtjnhalomkmdcgaaIdD
import Derived.WalkSmall
import Derived.Sort.AtCall
namespace Go.Proofs.Ytjnhalomkmdcgaa
open Go.RowKit

def entB (i g : Int) : Bool := inR 1 1048578 i && inR 0 7 g
def entV (i g : Int) : Int := if entB i g then mk 0 g i else 0
def entE (i g : Int) : Int := if entB i g then 0 else 2
def comV (n : Int) : Int := if inR 1 24 n then mk 1 0 n else 0
def comE (n : Int) : Int := if inR 1 24 n then 0 else 2
def paiB (r t : Int) : Bool := inR 0 1048578 r && inR 0 1048578 t
def paiV (r t : Int) : Int := if paiB r t then mk 2 r t else 0
def paiE (r t : Int) : Int := if paiB r t then 0 else 2

theorem inR_le {lo hi n : Int} (h : inR lo hi n = true) : lo ≤ n ∧ n ≤ hi := by simpa [inR] using h

theorem below1 {w w' : World} {a : Obj} (h : Below (w.alloc a).heap.size (w.alloc a) w') : Below w.heap.size w w' :=
  ((Below.refl _ _).alloc (Nat.le_refl _) _).trans (h.mono (by simp))
theorem below2 {w w' : World} {a b : Obj} (h : Below ((w.alloc a).alloc b).heap.size ((w.alloc a).alloc b) w') : Below w.heap.size w w' :=
  below1 (below1 h)

end Go.Proofs.Ytjnhalomkmdcgaa
namespace Go.Proofs.Ytjnhalomkmdcgaa
open Go.RowKit

def p1 (x : Int) : Int := if kindOf x = 1 ∨ kindOf x = 2 then fB x else if kindOf x = 3 ∨ kindOf x = 4 then fA x else 0
def p2 (x : Int) : Int := if kindOf x = 1 ∨ kindOf x = 2 then fA x else if kindOf x = 3 ∨ kindOf x = 4 then fB x else 0
def cov1 (a b : Int) : Bool := a == 0 || a == b
def coversB (p x : Int) : Bool := cov1 (fA p) (fA x) && cov1 (fB p) (fB x)
def takesB (p x : Int) : Bool := if kindOf p = 0 then false else if kindOf p = 4 then (kindOf x == 3 && coversB p x) else p == x

theorem kind_cases (x : Int) : kindOf x = 0 ∨ kindOf x = 1 ∨ kindOf x = 2 ∨ kindOf x = 3 ∨ kindOf x = 4 := by
  unfold kindOf
  cases isEnt x <;> cases isCom x <;> cases isPai x <;> cases isPat x <;> decide

theorem below_drewN' {B : Nat} {a w : World} (h : Below B a w) (n : Nat) : Below B a (w.drewN n) := ⟨h.os, h.tape, h.output, h.size, h.block⟩

end Go.Proofs.Ytjnhalomkmdcgaa
namespace Go.Proofs.Ytjnhalomkmdcgaa
open Go.RowKit

theorem isHd_eq {x n : Int} (h : isHd x n = true) : fH x = n ∧ fS x = 0 := by simpa [isHd] using h
theorem x_eq (x : Int) (h : fS x = 0) : x = mk (fH x) (fA x) (fB x) := by
  unfold fS at h; unfold mk fH fA fB; omega
theorem fH_mk (h a b : Int) (a0 : 0 ≤ a) (a1 : a < 1073741824) (b0 : 0 ≤ b) (b1 : b < 1073741824) : fH (mk h a b) = h := by unfold fH mk; omega
theorem fA_mk (h a b : Int) (a0 : 0 ≤ a) (a1 : a < 1073741824) (b0 : 0 ≤ b) (b1 : b < 1073741824) : fA (mk h a b) = a := by unfold fA mk; omega
theorem fB_mk (h a b : Int) (_a0 : 0 ≤ a) (_a1 : a < 1073741824) (b0 : 0 ≤ b) (b1 : b < 1073741824) : fB (mk h a b) = b := by unfold fB mk; omega
theorem fS_mk (h a b : Int) (_a0 : 0 ≤ a) (_a1 : a < 1073741824) (b0 : 0 ≤ b) (b1 : b < 1073741824) : fS (mk h a b) = 0 := by unfold fS mk; omega

theorem kind1 {x : Int} (k : kindOf x = 1) : isEnt x = true := by
  unfold kindOf at k
  cases h1 : isEnt x <;> cases h2 : isCom x <;> cases h3 : isPai x <;> cases h4 : isPat x <;> simp [h1, h2, h3, h4] at k ⊢
theorem kind2 {x : Int} (k : kindOf x = 2) : isCom x = true := by
  unfold kindOf at k
  cases h1 : isEnt x <;> cases h2 : isCom x <;> cases h3 : isPai x <;> cases h4 : isPat x <;> simp [h1, h2, h3, h4] at k ⊢
theorem kind3 {x : Int} (k : kindOf x = 3) : isPai x = true := by
  unfold kindOf at k
  cases h1 : isEnt x <;> cases h2 : isCom x <;> cases h3 : isPai x <;> cases h4 : isPat x <;> simp [h1, h2, h3, h4] at k ⊢
theorem kind4 {x : Int} (k : kindOf x = 4) : isPat x = true := by
  unfold kindOf at k
  cases h1 : isEnt x <;> cases h2 : isCom x <;> cases h3 : isPai x <;> cases h4 : isPat x <;> simp [h1, h2, h3, h4] at k ⊢

/-- what an id of each kind is -/
theorem ent_is {x : Int} (k : kindOf x = 1) : p1 x = fB x ∧ p2 x = fA x ∧ inR 1 1048578 (fB x) = true ∧ inR 0 7 (fA x) = true ∧ x = mk 0 (fA x) (fB x) := by
  have h := kind1 k
  unfold isEnt at h
  rw [Bool.and_eq_true, Bool.and_eq_true] at h
  obtain ⟨⟨h1, h2⟩, h3⟩ := h
  obtain ⟨e1, e2⟩ := isHd_eq h1
  refine ⟨by simp [p1, k], by simp [p2, k], h3, h2, ?_⟩
  have := x_eq x e2; rw [e1] at this; exact this
theorem com_is {x : Int} (k : kindOf x = 2) : p1 x = fB x ∧ p2 x = 0 ∧ inR 1 24 (fB x) = true ∧ x = mk 1 0 (fB x) := by
  have h := kind2 k
  unfold isCom at h
  rw [Bool.and_eq_true, Bool.and_eq_true] at h
  obtain ⟨⟨h1, h2⟩, h3⟩ := h
  obtain ⟨e1, e2⟩ := isHd_eq h1
  have e3 : fA x = 0 := by have := inR_le h2; omega
  refine ⟨by simp [p1, k], by simp [p2, k, e3], h3, ?_⟩
  have := x_eq x e2; rw [e1, e3] at this; exact this
theorem pai_is {x : Int} (k : kindOf x = 3) : p1 x = fA x ∧ p2 x = fB x ∧ inR 1 1048578 (fA x) = true ∧ inR 1 1048578 (fB x) = true ∧ x = mk 2 (fA x) (fB x) := by
  have h := kind3 k
  unfold isPai at h
  rw [Bool.and_eq_true, Bool.and_eq_true] at h
  obtain ⟨h1, h2, h3⟩ := h
  obtain ⟨e1, e2⟩ := isHd_eq h1
  refine ⟨by simp [p1, k], by simp [p2, k], h2, h3, ?_⟩
  have := x_eq x e2; rw [e1] at this; exact this
theorem pat_is {x : Int} (k : kindOf x = 4) : p1 x = fA x ∧ p2 x = fB x ∧ inR 0 1048578 (fA x) = true ∧ inR 0 1048578 (fB x) = true ∧ (fA x = 0 ∨ fB x = 0) ∧ x = mk 2 (fA x) (fB x) := by
  have h := kind4 k
  unfold isPat at h
  rw [Bool.and_eq_true, Bool.and_eq_true, Bool.and_eq_true] at h
  obtain ⟨⟨h1, h2, h3⟩, h4⟩ := h
  obtain ⟨e1, e2⟩ := isHd_eq h1
  refine ⟨by simp [p1, k], by simp [p2, k], h2, h3, ?_, ?_⟩
  · have a := inR_le h2
    have b := inR_le h3
    simp [inR] at h4
    omega
  · have := x_eq x e2; rw [e1] at this; exact this

theorem kind_ent (i g : Int) (h : entB i g = true) : kindOf (mk 0 g i) = 1 := by
  unfold entB at h; rw [Bool.and_eq_true] at h
  have a := inR_le h.1
  have b := inR_le h.2
  have e1 := fH_mk 0 g i (by omega) (by omega) (by omega) (by omega)
  have e2 := fA_mk 0 g i (by omega) (by omega) (by omega) (by omega)
  have e3 := fB_mk 0 g i (by omega) (by omega) (by omega) (by omega)
  have e4 := fS_mk 0 g i (by omega) (by omega) (by omega) (by omega)
  simp [kindOf, isEnt, isHd, e1, e2, e3, e4, h.1, h.2]
theorem kind_com (n : Int) (h : inR 1 24 n = true) : kindOf (mk 1 0 n) = 2 := by
  have a := inR_le h
  have e1 := fH_mk 1 0 n (by omega) (by omega) (by omega) (by omega)
  have e2 := fA_mk 1 0 n (by omega) (by omega) (by omega) (by omega)
  have e3 := fB_mk 1 0 n (by omega) (by omega) (by omega) (by omega)
  have e4 := fS_mk 1 0 n (by omega) (by omega) (by omega) (by omega)
  simp [kindOf, isEnt, isCom, isHd, e1, e2, e3, e4, inR]
  have := inR_le h; omega
theorem kind_pai (r t : Int) (h : paiB r t = true) : kindOf (mk 2 r t) = if r = 0 ∨ t = 0 then 4 else 3 := by
  unfold paiB at h; rw [Bool.and_eq_true] at h
  have a := inR_le h.1
  have b := inR_le h.2
  have e1 := fH_mk 2 r t (by omega) (by omega) (by omega) (by omega)
  have e2 := fA_mk 2 r t (by omega) (by omega) (by omega) (by omega)
  have e3 := fB_mk 2 r t (by omega) (by omega) (by omega) (by omega)
  have e4 := fS_mk 2 r t (by omega) (by omega) (by omega) (by omega)
  simp only [kindOf, isEnt, isCom, isPai, isPat, isHd, e1, e2, e3, e4, inR]
  by_cases c : r = 0 ∨ t = 0
  · have d : ¬ ((1 ≤ r ∧ r ≤ 1048578) ∧ (1 ≤ t ∧ t ≤ 1048578)) := by omega
    have f : (0 ≤ r ∧ r ≤ 1048578) ∧ (0 ≤ t ∧ t ≤ 1048578) := by omega
    simp [c, f]; omega
  · have d : ((1 ≤ r ∧ r ≤ 1048578) ∧ (1 ≤ t ∧ t ≤ 1048578)) := by omega
    simp [c, d]

end Go.Proofs.Ytjnhalomkmdcgaa
