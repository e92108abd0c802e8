/- RecordMay: what lies where, and the answers by one name. -/
import Derived.Test.YtijlkdppjmfbhaaRfE
import Derived.Test.YtijlkdppjmfbhaaSwA
namespace Go.Proofs.Ytijlkdppjmfbhaa
open Go.RowKit Go.Sort Go.Maps

/-- What lies in the boxes: records that came in, and their copy. -/
structure KM (w0 : World) (x : Value) (q : Option Addr) (L : List Sp) (d A B : Nat) (W : World) : Prop where
  b : Below w0.heap.size w0 W
  x : W.heap[A]? = some (.cells #[x] 24)
  y : W.heap[B]? = some (.cells #[.slice q L.length d] 24)
  g : GvS 0 W q L d
theorem KM.to {w0 : World} {x : Value} {q : Option Addr} {L : List Sp} {d A B : Nat} {W W' : World} (h : KM w0 x q L d A B W) (hb : Below W.heap.size W W') : KM w0 x q L d A B W' :=
  ⟨h.b.trans (hb.mono h.b.size), atW hb h.x, atW hb h.y, h.g.to hb⟩
/-- The spot that is asked for, and none where records may not be. -/
def wnA (L : List Sp) (n : Int) : Sp := if mayS L then atV L n else (0, 0)
theorem at_wn (q : Option Addr) (L : List Sp) (d : Nat) (n : Int) (w : World) (h : SRow w.heap.size w q L) (hw : wfL L) (hl : L.length ≤ 1099511627776) :
    Calls Try.prog 14 #[.agg #[.slice q L.length d], .int .i64 n] w fun e w' => e = .returned (.tuple #[.agg #[.int .i64 (wnA L n).1, .int .i64 (wnA L n).2], .bool (decide (0 < (wnA L n).1))]) ∧ Below w.heap.size w w' := by
  have E : gaA L n = (wnA L n, if 0 < (wnA L n).1 then 0 else (gaA L n).2) ∧ ((gaA L n).2 == 0) = decide (0 < (wnA L n).1) := by
    unfold gaA wnA
    cases hm : mayS L
    · simp
    · simp only [if_true]
      unfold fiA
      cases hf : fiB L n
      · have e0 : atV L n = (0, 0) := by
          unfold atV
          split
          · rename_i h1
            by_cases hk : n.toNat - 1 < L.length
            · by_cases h0 : sG L (n.toNat - 1) = (0, 0)
              · exact h0
              · have := (fiB_iff (l := L) (i := n)).2 ⟨n.toNat - 1, by omega, hk, h0⟩
                rw [hf] at this; cases this
            · exact sG_out (by omega)
          · rfl
        rw [e0]; simp
      · obtain ⟨k, rfl, hk, h0⟩ := fiB_iff.1 hf
        have e0 : atV L ((k : Int) + 1) = sG L k := by unfold atV; rw [if_pos (by omega), show ((k : Int) + 1).toNat - 1 = k by omega]
        have hp := (may_iff.1 hm).2.2.1 k h0
        unfold plB at hp
        simp at hp
        rw [e0, show ((k : Int) + 1).toNat - 1 = k by omega]
        have hp' : 0 < (sG L k).1 := by omega
        simp [hp']
  refine (at14 q L d n w h hw hl).mono ?_
  rintro e w' ⟨rfl, hb⟩
  rw [E.2, E.1]
  exact ⟨rfl, hb⟩
theorem who_wn (q : Option Addr) (L : List Sp) (d : Nat) (a b : Int) (w : World) (h : SRow w.heap.size w q L) (hw : wfL L) (hl : L.length ≤ 1099511627776) (hs : wfS (a, b)) :
    Calls Try.prog 19 #[.agg #[.slice q L.length d], .agg #[.int .i64 a, .int .i64 b]] w fun e w' => e = .returned (.tuple #[.int .i64 (whoV L (a, b)), .bool (decide (0 < whoV L (a, b)))]) ∧ Below w.heap.size w w' := by
  have E : (!decide (whoV L (a, b) = 0)) = decide (0 < whoV L (a, b)) := by
    have h0 : 0 ≤ whoV L (a, b) := by
      unfold whoV
      split
      · by_cases e : whF L (plN L L.length) (a, b) = 0
        · omega
        · obtain ⟨j, _, _, hv⟩ := whF_ex e; omega
      · omega
    by_cases e : whoV L (a, b) = 0
    · simp [e]
    · simp [e]; omega
  refine (who19 q L d (a, b) w h hw hl hs).mono ?_
  rintro e w' ⟨rfl, hb⟩
  rw [E]
  exact ⟨rfl, hb⟩
theorem refWho_wn (q : Option Addr) (L : List Sp) (d : Nat) (a b : Int) (w : World) (h : SRow w.heap.size w q L) (hm : mayS L = true) (hl : L.length ≤ 1099511627776) :
    Calls Try.prog 20 #[.agg #[.slice q L.length d], .agg #[.int .i64 a, .int .i64 b]] w fun e w' => e = .returned (.int .i64 (whoV L (a, b))) ∧ Below w.heap.size w w' := by
  refine (refWho20 q L d (a, b) w h hl).mono ?_
  rintro e w' ⟨v, rfl, hv, hb⟩
  rw [whA_eq hm hv]
  exact ⟨rfl, hb⟩
theorem refAt_wn (q : Option Addr) (L : List Sp) (d : Nat) (n : Int) (w : World) (h : SRow w.heap.size w q L) (hm : mayS L = true) (hl : L.length ≤ 1099511627776) :
    Calls Try.prog 16 #[.agg #[.slice q L.length d], .int .i64 n] w fun e w' => e = .returned (.agg #[.int .i64 (wnA L n).1, .int .i64 (wnA L n).2]) ∧ Below w.heap.size w w' := by
  refine (refAt16 q L d n w h hl).mono ?_
  rintro e w' ⟨rfl, hb⟩
  unfold wnA
  rw [hm]
  exact ⟨rfl, hb⟩
/-- Those in a table, as records or the document's answer give them. -/
theorem rows_wn (q : Option Addr) (L : List Sp) (d : Nat) (t : Int) (X : List Int) (hX : AnsR L t X) (w : World) (h : SRow w.heap.size w q L) (hl : L.length ≤ 1048578) (hm : mayS L = true) :
    Calls Try.prog 17 #[.agg #[.slice q L.length d], .int .i64 t] w fun e w' => ∃ q' d', e = .returned (.slice q' X.length d') ∧ OwnR w.heap.size w' q' X d' ∧ Below w.heap.size w w' := by
  refine (refRows17 q L d t w h hl hm).mono ?_
  rintro e w' ⟨q', Y, d', rfl, hy, ho, hb⟩
  obtain rfl := isRows_uniq hm (hX.1 hm) hy
  exact ⟨q', d', rfl, ho, hb⟩
end Go.Proofs.Ytijlkdppjmfbhaa
