/- The document's answer: the mathematics of Rows, and appends at a step. -/
import Derived.Test.YtijlkdppjmfbhaaRfC
namespace Go.Proofs.Ytijlkdppjmfbhaa
open Go.RowKit

/-- Their rows. -/
def rwX (l : List Sp) (x : Int) : Int := (sG l (x.toNat - 1)).2
/-- Who of the first k stands in the table, by their rows. -/
def JR (l : List Sp) (t : Int) (k : Nat) (X : List Int) : Prop := X.Perm (rwN l t (plN l k)) ∧ X.Pairwise (fun x y => rwX l x ≤ rwX l y)
theorem JR.all {l : List Sp} {t : Int} {X : List Int} (h : JR l t l.length X) : IsRows l t X := h
theorem jr_0 (l : List Sp) (t : Int) : JR l t 0 [] := ⟨by unfold plN rwN; simp, List.Pairwise.nil⟩
theorem jr_skip {l : List Sp} {t : Int} {k : Nat} {X : List Int} (h : JR l t k X) (hk : ¬ (sG l k).1 = t) : JR l t (k + 1) X := by
  refine ⟨?_, h.2⟩
  by_cases e : sG l k = (0, 0)
  · rw [plN_f e]; exact h.1
  · rw [plN_t e, rwN_f hk]; exact h.1
theorem jr_len {l : List Sp} {t : Int} {k : Nat} {X : List Int} (h : JR l t k X) : X.length ≤ k := by
  rw [h.1.length_eq]
  refine Nat.le_trans (rwN_len _ _ _) ?_
  unfold plN
  refine Nat.le_trans (List.length_filter_le _ _) ?_
  simp
theorem jr_ins {l : List Sp} {t : Int} {k : Nat} {X : List Int} (h : JR l t k X) (ht : ¬ t = 0) (hk : (sG l k).1 = t) {j : Nat} (hj : j ≤ X.length) (hlo : ∀ i, i < j → rwX l (iG X i) < (sG l k).2) (hhi : j = X.length ∨ (sG l k).2 ≤ rwX l (iG X j)) :
    JR l t (k + 1) (X.take j ++ [(k : Int) + 1] ++ X.drop j) := by
  have hne : sG l k ≠ (0, 0) := fun e => by rw [e] at hk; exact ht hk.symm
  have hrk : rwX l ((k : Int) + 1) = (sG l k).2 := by
    unfold rwX
    rw [show ((k : Int) + 1).toNat - 1 = k by omega]
  constructor
  · rw [plN_t hne, rwN_t hk]
    have h1 : (X.take j ++ [(k : Int) + 1] ++ X.drop j).Perm (X ++ [(k : Int) + 1]) := by
      conv => rhs; rw [← List.take_append_drop j X]
      rw [List.append_assoc, List.append_assoc]
      exact List.Perm.append_left _ List.perm_append_comm
    exact h1.trans (h.1.append_right _)
  · have hd : ∀ y ∈ X.drop j, (sG l k).2 ≤ rwX l y := fun y hy => by
      obtain ⟨i, hi, rfl⟩ := List.getElem_of_mem hy
      rw [List.length_drop] at hi
      rcases hhi with hh | hh
      · omega
      · rw [iG_eq (by omega)] at hh
        rw [List.getElem_drop]
        by_cases e : i = 0
        · subst e; simp only [Nat.add_zero]; omega
        · have := List.pairwise_iff_getElem.1 h.2 j (j + i) (by omega) (by omega) (by omega)
          omega
    have ht' : ∀ y ∈ X.take j, rwX l y < (sG l k).2 := fun y hy => by
      obtain ⟨i, hi, rfl⟩ := List.getElem_of_mem hy
      rw [List.length_take] at hi
      have := hlo i (by omega)
      rw [iG_eq (by omega)] at this
      rw [List.getElem_take]; exact this
    rw [List.append_assoc, List.pairwise_append]
    refine ⟨h.2.sublist (List.take_sublist _ _), ?_, ?_⟩
    · show List.Pairwise _ ((((k : Int) + 1)) :: X.drop j)
      rw [List.pairwise_cons]
      exact ⟨fun y hy => by rw [hrk]; exact hd y hy, h.2.sublist (List.drop_sublist _ _)⟩
    · intro a ha b hb
      have h1 := ht' a ha
      rcases List.mem_cons.1 hb with rfl | hb
      · rw [hrk]; omega
      · have := hd b hb; omega
theorem jr_mem {l : List Sp} {t : Int} {k : Nat} {X : List Int} (h : JR l t k X) {i : Nat} (hi : i < X.length) : ∃ y : Nat, y < k ∧ iG X i = (y : Int) + 1 := by
  have := h.1.mem_iff.1 (iG_mem hi)
  obtain ⟨y, hy, _, e⟩ := rwN_mem.1 this
  unfold plN at hy
  exact ⟨y, List.mem_range.1 (List.mem_filter.1 hy).1, e⟩
/-- An append of words at a step of a region that draws its order. -/
theorem step_words (W : World) {ops : Array Oper} {o : Oper} {a : Act} {K : Act → World → Prop} {Q : Exit → Act → World → Prop} {E : Prop} (hgd : o.guard = none) (s x : Operand)
    (ho : o.op = .call { callee := .builtin .append, args := #[s, x], argTypes := #[26, 26] }) (B : Nat) (p : Option Addr) (l : List Int) (n c : Nat) (hn : n = l.length) (q : Option Addr) (r : List Int) (m d : Nat) (hm : m = r.length)
    (hs : a.eval s = .slice p n c) (hx : a.eval x = .slice q m d) (hO : OwnR B W p l c) (hr : IRow .i64 W.heap.size W q r) (hl : l.length + r.length ≤ 1099511627776) (hB : B ≤ W.heap.size)
    (h : ∀ p' c' w', OwnR B w' p' (l ++ r) c' → Below B W w' → K (a.put o.dst (.slice p' (n + m) c')) w') : if Region.wanted o (yielded ops a.tmps) = true then Oper.wp Try.prog o a W K Q else E := by
  subst hn hm
  have hw : Region.wanted o (yielded ops a.tmps) = true := by simp [Region.wanted, hgd]
  rw [if_pos hw]
  obtain ⟨p', c', w', hrun, h1, h2⟩ := app_words Try.underlying26 W o.type B p l c q r d hO hr hl hB
  unfold Oper.wp execOp
  simp only [ho, resolve, invoke, builtin, Sem.run_bind, Sem.run_pure, Result.andThen_ok, List.map_toArray, List.map_cons, List.map_nil, hs, hx, hrun]
  rw [List.length_append]
  refine h p' c' w' h1 ?_
  refine (Below.refl _ _).grown h2 hB ?_
  intro k hk
  cases p with
  | none => cases hk
  | some ad => cases hk; exact hO.fr ad rfl
end Go.Proofs.Ytijlkdppjmfbhaa
