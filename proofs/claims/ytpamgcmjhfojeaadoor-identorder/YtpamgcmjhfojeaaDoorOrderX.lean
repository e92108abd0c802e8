/- IdentOrder's walk, put together of its cases. -/
import Derived.Test.YtpamgcmjhfojeaaDoorOrderW
namespace Go.Proofs.YtpamgcmjhfojeaaDoor
open Go.RowKit

theorem textE_of {x : Int} (k : kindOf x ≠ 0) : textE x = 0 := by unfold textE; rw [if_neg k]
theorem bd1 {x : Int} (k : kindOf x = 1) : 0 ≤ x ∧ x < 4611686018427387904 := by
  obtain ⟨_, _, c, d, e⟩ := ent_is k
  have c' := inR_le c
  have d' := inR_le d
  unfold mk at e; omega
theorem bd2 {x : Int} (k : kindOf x = 2) : 4611686018427387904 ≤ x ∧ x < 9223372036854775808 := by
  obtain ⟨_, _, c, e⟩ := com_is k
  have c' := inR_le c
  unfold mk at e; omega
theorem bd3 {x : Int} (k : kindOf x = 3 ∨ kindOf x = 4) : 9223372036854775808 ≤ x ∧ x = mk 2 (p1 x) (p2 x) ∧ (0 ≤ p1 x ∧ p1 x ≤ 1048578) ∧ (0 ≤ p2 x ∧ p2 x ≤ 1048578) := by
  rcases k with k | k
  · obtain ⟨a, b, c, d, e⟩ := pai_is k
    have c' := inR_le c
    have d' := inR_le d
    rw [a, b]
    exact ⟨by unfold mk at e; omega, e, by omega, by omega⟩
  · obtain ⟨a, b, c, d, _, e⟩ := pat_is k
    have c' := inR_le c
    have d' := inR_le d
    rw [a, b]
    exact ⟨by unfold mk at e; omega, e, by omega, by omega⟩

theorem orderWalk (x y : Int) (h0 : 0 ≤ x) (h1 : x < 18446744073709551616) (h2 : 0 ≤ y) (h3 : y < 18446744073709551616) (w : World) (ht : Tab w) :
    Calls Tryd.prog 7 #[.int .u64 x, .int .u64 y] w fun e w' => e = .returned (.bool true) ∧ Below w.heap.size w w' := by
  by_cases kx0 : kindOf x = 0
  · exact ord_x0 x y h0 h1 h2 h3 w ht kx0
  by_cases ky0 : kindOf y = 0
  · exact ord_y0 x y h0 h1 h2 h3 w ht (by simp [kx0]) ky0
  have tx := textE_of kx0
  have ty := textE_of ky0
  by_cases e : x = y
  · subst e
    rcases kind_cases x with k | k | k | k | k
    · exact absurd k kx0
    · exact ord_same1 x h0 h1 w ht k tx
    · exact ord_same2 x h0 h1 w ht k tx
    · exact ord_same3 x h0 h1 w ht k tx
    · exact ord_same4 x h0 h1 w ht k tx
  have hs : ((textOf x).toList == (textOf y).toList) = false := toList_ne (fun h => e (text_inj kx0 ky0 h))
  have hxy : (x == y) = false := by simp [e]
  rcases kind_cases x with k | k | k | k | k
  · exact absurd k kx0
  · rcases kind_cases y with l | l | l | l | l
    · exact absurd l ky0
    · have pp : (p2 x < p2 y ∧ x < y) ∨ (p2 y < p2 x ∧ ¬ x < y) ∨ (p2 x = p2 y ∧ p1 x < p1 y ∧ x < y) ∨ (p2 x = p2 y ∧ p1 y < p1 x ∧ ¬ x < y) := by
        obtain ⟨a1, a2, a3, a4, a5⟩ := ent_is k
        obtain ⟨b1, b2, b3, b4, b5⟩ := ent_is l
        have a3 := inR_le a3
        have a4 := inR_le a4
        have b3 := inR_le b3
        have b4 := inR_le b4
        rw [← a1, ← a2] at a5
        rw [← b1, ← b2] at b5
        unfold mk at a5 b5
        omega
      rcases pp with ⟨c, d⟩ | ⟨c, d⟩ | ⟨c, c', d⟩ | ⟨c, c', d⟩
      · exact ord_11_lt x y h0 h1 h2 h3 w ht k l tx ty hs hxy d c
      · exact ord_11_gt x y h0 h1 h2 h3 w ht k l tx ty hs hxy d (by omega) (by simp; omega)
      · exact ord_11_eql x y h0 h1 h2 h3 w ht k l tx ty hs hxy d (by omega) (by simp [c]) c'
      · exact ord_11_eqg x y h0 h1 h2 h3 w ht k l tx ty hs hxy d (by omega) (by simp [c]) (by omega)
    · exact ord_12 x y h0 h1 h2 h3 w ht k l tx ty hs hxy (by have a := bd1 k; have b := bd2 l; omega)
    · exact ord_13 x y h0 h1 h2 h3 w ht k l tx ty hs hxy (by have a := bd1 k; have b := bd3 (Or.inl l); omega)
    · exact ord_14 x y h0 h1 h2 h3 w ht k l tx ty hs hxy (by have a := bd1 k; have b := bd3 (Or.inr l); omega)
  · rcases kind_cases y with l | l | l | l | l
    · exact absurd l ky0
    · exact ord_21 x y h0 h1 h2 h3 w ht k l tx ty hs hxy (by have a := bd2 k; have b := bd1 l; omega)
    · have pp : (p2 x < p2 y ∧ x < y) ∨ (p2 y < p2 x ∧ ¬ x < y) ∨ (p2 x = p2 y ∧ p1 x < p1 y ∧ x < y) ∨ (p2 x = p2 y ∧ p1 y < p1 x ∧ ¬ x < y) := by
        obtain ⟨a1, a2, a3, a5⟩ := com_is k
        obtain ⟨b1, b2, b3, b5⟩ := com_is l
        have a3 := inR_le a3
        have b3 := inR_le b3
        rw [← a1] at a5
        rw [← b1] at b5
        unfold mk at a5 b5
        omega
      rcases pp with ⟨c, d⟩ | ⟨c, d⟩ | ⟨c, c', d⟩ | ⟨c, c', d⟩
      · exact ord_22_lt x y h0 h1 h2 h3 w ht k l tx ty hs hxy d c
      · exact ord_22_gt x y h0 h1 h2 h3 w ht k l tx ty hs hxy d (by omega) (by simp; omega)
      · exact ord_22_eql x y h0 h1 h2 h3 w ht k l tx ty hs hxy d (by omega) (by simp [c]) c'
      · exact ord_22_eqg x y h0 h1 h2 h3 w ht k l tx ty hs hxy d (by omega) (by simp [c]) (by omega)
    · exact ord_23 x y h0 h1 h2 h3 w ht k l tx ty hs hxy (by have a := bd2 k; have b := bd3 (Or.inl l); omega)
    · exact ord_24 x y h0 h1 h2 h3 w ht k l tx ty hs hxy (by have a := bd2 k; have b := bd3 (Or.inr l); omega)
  · rcases kind_cases y with l | l | l | l | l
    · exact absurd l ky0
    · exact ord_31 x y h0 h1 h2 h3 w ht k l tx ty hs hxy (by have a := bd3 (Or.inl k); have b := bd1 l; omega)
    · exact ord_32 x y h0 h1 h2 h3 w ht k l tx ty hs hxy (by have a := bd3 (Or.inl k); have b := bd2 l; omega)
    · have pp : (p1 x < p1 y ∧ x < y) ∨ (p1 y < p1 x ∧ ¬ x < y) ∨ (p1 x = p1 y ∧ p2 x < p2 y ∧ x < y) ∨ (p1 x = p1 y ∧ p2 y < p2 x ∧ ¬ x < y) := by
        obtain ⟨a1, a5, a3, a4⟩ := bd3 (Or.inl k)
        obtain ⟨b1, b5, b3, b4⟩ := bd3 (Or.inl l)
        unfold mk at a5 b5
        omega
      rcases pp with ⟨c, d⟩ | ⟨c, d⟩ | ⟨c, c', d⟩ | ⟨c, c', d⟩
      · exact ord_33_lt x y h0 h1 h2 h3 w ht k l tx ty hs hxy d c
      · exact ord_33_gt x y h0 h1 h2 h3 w ht k l tx ty hs hxy d (by omega) (by simp; omega)
      · exact ord_33_eql x y h0 h1 h2 h3 w ht k l tx ty hs hxy d (by omega) (by simp [c]) c'
      · exact ord_33_eqg x y h0 h1 h2 h3 w ht k l tx ty hs hxy d (by omega) (by simp [c]) (by omega)
    · have pp : (p1 x < p1 y ∧ x < y) ∨ (p1 y < p1 x ∧ ¬ x < y) ∨ (p1 x = p1 y ∧ p2 x < p2 y ∧ x < y) ∨ (p1 x = p1 y ∧ p2 y < p2 x ∧ ¬ x < y) := by
        obtain ⟨a1, a5, a3, a4⟩ := bd3 (Or.inl k)
        obtain ⟨b1, b5, b3, b4⟩ := bd3 (Or.inr l)
        unfold mk at a5 b5
        omega
      rcases pp with ⟨c, d⟩ | ⟨c, d⟩ | ⟨c, c', d⟩ | ⟨c, c', d⟩
      · exact ord_34_lt x y h0 h1 h2 h3 w ht k l tx ty hs hxy d c
      · exact ord_34_gt x y h0 h1 h2 h3 w ht k l tx ty hs hxy d (by omega) (by simp; omega)
      · exact ord_34_eql x y h0 h1 h2 h3 w ht k l tx ty hs hxy d (by omega) (by simp [c]) c'
      · exact ord_34_eqg x y h0 h1 h2 h3 w ht k l tx ty hs hxy d (by omega) (by simp [c]) (by omega)
  · rcases kind_cases y with l | l | l | l | l
    · exact absurd l ky0
    · exact ord_41 x y h0 h1 h2 h3 w ht k l tx ty hs hxy (by have a := bd3 (Or.inr k); have b := bd1 l; omega)
    · exact ord_42 x y h0 h1 h2 h3 w ht k l tx ty hs hxy (by have a := bd3 (Or.inr k); have b := bd2 l; omega)
    · have pp : (p1 x < p1 y ∧ x < y) ∨ (p1 y < p1 x ∧ ¬ x < y) ∨ (p1 x = p1 y ∧ p2 x < p2 y ∧ x < y) ∨ (p1 x = p1 y ∧ p2 y < p2 x ∧ ¬ x < y) := by
        obtain ⟨a1, a5, a3, a4⟩ := bd3 (Or.inr k)
        obtain ⟨b1, b5, b3, b4⟩ := bd3 (Or.inl l)
        unfold mk at a5 b5
        omega
      rcases pp with ⟨c, d⟩ | ⟨c, d⟩ | ⟨c, c', d⟩ | ⟨c, c', d⟩
      · exact ord_43_lt x y h0 h1 h2 h3 w ht k l tx ty hs hxy d c
      · exact ord_43_gt x y h0 h1 h2 h3 w ht k l tx ty hs hxy d (by omega) (by simp; omega)
      · exact ord_43_eql x y h0 h1 h2 h3 w ht k l tx ty hs hxy d (by omega) (by simp [c]) c'
      · exact ord_43_eqg x y h0 h1 h2 h3 w ht k l tx ty hs hxy d (by omega) (by simp [c]) (by omega)
    · have pp : (p1 x < p1 y ∧ x < y) ∨ (p1 y < p1 x ∧ ¬ x < y) ∨ (p1 x = p1 y ∧ p2 x < p2 y ∧ x < y) ∨ (p1 x = p1 y ∧ p2 y < p2 x ∧ ¬ x < y) := by
        obtain ⟨a1, a5, a3, a4⟩ := bd3 (Or.inr k)
        obtain ⟨b1, b5, b3, b4⟩ := bd3 (Or.inr l)
        unfold mk at a5 b5
        omega
      rcases pp with ⟨c, d⟩ | ⟨c, d⟩ | ⟨c, c', d⟩ | ⟨c, c', d⟩
      · exact ord_44_lt x y h0 h1 h2 h3 w ht k l tx ty hs hxy d c
      · exact ord_44_gt x y h0 h1 h2 h3 w ht k l tx ty hs hxy d (by omega) (by simp; omega)
      · exact ord_44_eql x y h0 h1 h2 h3 w ht k l tx ty hs hxy d (by omega) (by simp [c]) c'
      · exact ord_44_eqg x y h0 h1 h2 h3 w ht k l tx ty hs hxy d (by omega) (by simp [c]) (by omega)
end Go.Proofs.YtpamgcmjhfojeaaDoor
